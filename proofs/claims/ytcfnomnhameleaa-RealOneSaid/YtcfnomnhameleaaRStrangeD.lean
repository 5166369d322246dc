/-
  What 'RealStrange' keeps from round to round: messages with a digest too many, and bare ones.
-/
import Derived.Test.YtcfnomnhameleaaROnlyD
import Derived.Test.YtcfnomnhameleaaZJ
namespace Go.Proofs.Ytcfnomnhameleaa
open Go.RowKit

theorem fill2 (m m2 : MsgD) (a a2 : MsgA) : Instr.fill (fun i => some (i * 18, 18)) ((Array.range (2 * 18)).map ((msgV zeroM zeroA).cells[· % (msgV zeroM zeroA).cells.size]!)) [(0, .agg (msgC m a).toArray), (1, .agg (msgC m2 a2).toArray)] = some (msgC m a ++ msgC m2 a2).toArray := by kernel_rfl
/-- []T{m, n} of two messages: a new block with their cells -/
theorem wpList_build_two {ops : Array Oper} {rest : List Oper} {o : Oper} {a : Act} {w : World} {Q : Exit → Act → World → Prop} (hg : o.guard = none) (x y : Operand) (ho : o.op = .buildSlice 23 2 #[(0, x), (1, y)]) (m m2 : MsgD) (am am2 : MsgA) (hx : a.eval x = .agg (msgC m am).toArray) (hy : a.eval y = .agg (msgC m2 am2).toArray)
    (h : wpList Try.prog ops Q rest (a.put o.dst (.slice (some ⟨w.heap.size, 0, none⟩) 2 2)) (w.alloc (.cells (msgC m am ++ msgC m2 am2).toArray 42))) : wpList Try.prog ops Q (o :: rest) a w := by
  obtain ⟨ie, hie, hz, hs⟩ := few_have
  refine wpList_buildSlice hg 23 42 2 _ ho (msgC m am ++ msgC m2 am2).toArray ie (msgV zeroM zeroA) Try.underlying23 hie hz (by rw [hs]; decide) (by rw [hs]; decide) ?_ h
  have e : ((#[(0, x), (1, y)] : Array (Nat × Operand)).map fun (i, x) => (i, a.eval x)).toList = [(0, .agg (msgC m am).toArray), (1, .agg (msgC m2 am2).toArray)] := by
    rw [Array.toList_map]
    show [(0, a.eval x), (1, a.eval y)] = _
    rw [hx, hy]
  rw [e, hs]
  exact fill2 m m2 am am2
/-- append of two messages, and where the row lies then -/
theorem wpList_app_two {P : Program} (w : World) {ops : Array Oper} {rest : List Oper} {o : Oper} {a : Act} {Q : Exit → Act → World → Prop} (hgd : o.guard = none) (s x : Operand) (t : TypeId)
    (ho : o.op = .call { callee := .builtin .append, args := #[s, x], argTypes := #[t, t] })
    (B : Nat) (e : TypeId) (z : Value) (sz bytes : Nat) (ht : P.underlying t = some (.slice e)) (hinfo : (P.info? e).map (fun i => (i.zero, i.size, i.bytes)) = some (some z, sz, bytes)) (hzs : z.cells.size = sz) (hsz : 0 < sz) (hby : bytes ≤ 512)
    (v : Value) (n : Nat) (xs : List Value) (hs : a.eval s = v) (hown : w.ownsRow B e sz v n xs)
    (g : Nat) (us : List Value) (hx : a.eval x = .slice (some ⟨g, 0, none⟩) 2 2) (hu : us.length = 2 * sz) (hc : ∀ i u, us[i]? = some u → w.cell? ⟨g, i, none⟩ = some u) (h1 : ∀ u ∈ us, u.oneCell' = true)
    (hn : n + 2 ≤ 68719476736) (hB : B ≤ w.heap.size)
    (h : ∀ g' c' w', w'.ownsRow B e sz (.slice (some ⟨g', 0, none⟩) (n + 2) c') (n + 2) (xs ++ us) → w.grownBy w' v.ownBlock → (v.ownBlock = some g' ∨ g' = w.heap.size) → wpList P ops Q rest (a.put o.dst (.slice (some ⟨g', 0, none⟩) (n + 2) c')) w') : wpList P ops Q (o :: rest) a w := by
  obtain ⟨i, hi, hz, hsize, hbytes⟩ := info_parts hinfo
  refine wpList_append_lies (P := P) w hgd s x t ho B e i z sz bytes ht hi hz hsize hbytes hzs hsz v n xs hs hown ⟨g, 0, none⟩ 2 2 us hx hu ?_ h1 (by decide) (by unfold maxLen; omega) ?_ hB _ rfl ?_
  · intro j y hj
    rw [Addr.add_lit, Nat.zero_add]
    exact hc j y hj
  · have := Nat.mul_le_mul hn hby
    omega
  · intro g' cap w' hown' hg hat _
    exact h g' cap w' hown' hg hat
/-- append of a list of numbers, however long -/
theorem wpList_app_listW {P : Program} (w : World) {ops : Array Oper} {rest : List Oper} {o : Oper} {a : Act} {Q : Exit → Act → World → Prop} (hgd : o.guard = none) (s x : Operand) (t : TypeId)
    (ho : o.op = .call { callee := .builtin .append, args := #[s, x], argTypes := #[t, t] })
    (B : Nat) (e : TypeId) (z : Value) (ht : P.underlying t = some (.slice e)) (hinfo : (P.info? e).map (fun i => (i.zero, i.size, i.bytes)) = some (some z, 1, 8)) (hzs : z.cells.size = 1)
    (v : Value) (n : Nat) (xs : List Value) (hs : a.eval s = v) (hown : w.ownsRow B e 1 v n xs)
    (A : Option Addr) (m c : Nat) (news : List Value) (hx : a.eval x = .slice A m c) (hm : m = news.length) (hr : Rd w A news) (h1 : ∀ u ∈ news, u.oneCell' = true)
    (hn : (n + m) * 8 ≤ 140737488355328) (hB : B ≤ w.heap.size)
    (h : ∀ v' w', w'.ownsRow B e 1 v' (n + m) (xs ++ news) → Below B w w' → wpList P ops Q rest (a.put o.dst v') w') : wpList P ops Q (o :: rest) a w := by
  obtain ⟨i, hi, hz, hsize, hbytes⟩ := info_parts hinfo
  cases A with
  | none =>
    have hn0 : news = [] := by
      rcases Nat.eq_zero_or_pos news.length with h0 | h0
      · exact List.eq_nil_of_length_eq_zero h0
      · obtain ⟨b, off, he, _⟩ := hr.open_ h0
        cases he
    subst hn0
    subst hm
    have hrun : (Builtin.append_ #[t, t] o.type #[v, .slice none 0 c]).run P w = .ok v w := by
      rcases hown.2 with ⟨rfl, rfl⟩ | ⟨g, cap, cur, rfl, _, _, hnc, _⟩
      · simp [Builtin.append_, run_underlying ht, sizeOf, typeInfo, hi, Builtin.lenOf, Builtin.firstCells]
      · simp [Builtin.append_, run_underlying ht, sizeOf, typeInfo, hi, Builtin.lenOf, Builtin.firstCells, hnc, storeCells]
    refine wpList_plain hgd fun K hK => ?_
    unfold Oper.wp execOp
    simp only [ho, resolve, invoke, builtin, Sem.run_bind, Sem.run_pure, Result.andThen_ok, List.map_toArray, List.map_cons, List.map_nil, hs, hx, List.length_nil, hrun]
    exact hK _ _ (h v w (by simpa using hown) (Below.refl _ _))
  | some ad =>
    subst hm
    refine wpList_append_own (P := P) w hgd s x t ho B e i z 1 8 ht hi hz hsize hbytes hzs (by decide) v n xs hs hown ad news.length c news hx (by simp) ?_ h1 (by unfold maxLen; omega) hn hB ?_
    · intro j y hj
      have hl : j < news.length := by
        rcases Nat.lt_or_ge j news.length with h' | h'
        · exact h'
        · rw [List.getElem?_eq_none h'] at hj; cases hj
      obtain ⟨b, off, he, _, hc⟩ := hr.open_ (by omega)
      cases he
      rw [Addr.add_lit]
      exact hc j y hj
    · intro v' w' hown' hg _
      exact h v' w' hown' (below_own (Below.refl _ _) hown hg hB)
theorem info_i648 : (Try.prog.info? 3).map (fun i => (i.zero, i.size, i.bytes)) = some (some (.int .i64 0), 1, 8) := by kernel_rfl

/-- a message with a digest too many; a bare one -/
def moreM (m : MsgD) : MsgD := { m with D := m.D ++ [-1] }
def moreA (a : MsgA) (A : Option Addr) (n c : Nat) : MsgA := { a with AD := A, nD := n, cD := c }
def bareM (k : Int) : MsgD := { zeroM with k := k }
theorem bare_ok {k : Int} (h : I64 k) : MsgOk (bareM k) := ⟨h, i64_zero, i64_zero, i64_zero, i64_zero, i64_zero, fun x h => by simp [bareM, zeroM] at h, i64_zero, i64_zero, fun x h => by simp [bareM, zeroM] at h, fun x h => by simp [bareM, zeroM] at h, i64_zero, i64_zero, fun x h => by simp [bareM, zeroM] at h, fun x h => by simp [bareM, zeroM] at h, i64_zero, fun x h => by simp [bareM, zeroM] at h, fun x h => by simp [bareM, zeroM] at h⟩
theorem bare_in (k : Int) (w : World) : MsgIn w (bareM k) zeroA := by constructor <;> first | rfl | exact Rd.nil _ _ | exact Nat.le_refl _ | simp [zeroA, maxLen]
theorem more_ok {m : MsgD} (h : MsgOk m) : MsgOk (moreM m) := ⟨h.wk, h.wf, h.wt, h.wd, h.wba, h.wbn, h.wL, h.wha, h.whr, h.whB, h.whP, h.wca, h.wcr, h.wcB, h.wcP, h.wcd, h.wcS, fun x hx => by
  rcases List.mem_append.1 hx with hx | hx
  · exact h.wD x hx
  · rw [List.mem_singleton] at hx
    rw [hx]
    unfold I64
    omega⟩
theorem more_few {s : Nat} {a : MsgA} {A : Option Addr} {n c : Nat} (h : MsgFew s a) (hn : n ≤ s) : MsgFew s (moreA a A n c) := ⟨h.sL, h.shB, h.shP, h.scB, h.scP, h.scS, hn⟩
theorem more_in {B : Nat} {w : World} {m : MsgD} {a : MsgA} {A : Option Addr} {n c : Nat} (h : MsgIn w m a) (ho : w.ownsRow B 3 1 (.slice A n c) n (i64s (m.D ++ [-1]))) : MsgIn w (moreM m) (moreA a A n c) := by
  obtain ⟨h1, h2, h3, h4⟩ := own_is ho
  exact ⟨h.zL, h.rL, h.kL, h.xL, h.zhB, h.rhB, h.khB, h.xhB, h.zhP, h.rhP, h.khP, h.xhP, h.zcB, h.rcB, h.kcB, h.xcB, h.zcP, h.rcP, h.kcP, h.xcP, h.zcS, h.rcS, h.kcS, h.xcS, h1, h2, h3, h4⟩

structure StrSt (w1 : World) (B gx : Nat) (s : ScrD) (lv : Value) (nL : Nat) (ms : List (MsgD × MsgA)) (w : World) : Prop where
  bel : Below w1.heap.size w1 w
  hB : B ≤ w.heap.size
  hgx : gx < B
  h1 : w1.heap.size ≤ gx
  box : Box w gx (cx s lv (.slice s.AP s.nP s.cP))
  rowL : w.ownsRow B 42 18 lv nL (cellsM ms)
  lenL : ms.length = nL
  msgs : ∀ x ∈ ms, MsgFree w (fun j => j = gx ∨ lv.ownBlock = some j) x.1 x.2 ∧ MsgOk x.1 ∧ MsgFew 140737488351232 x.2
section
variable {w1 w w' w5 w8 : World} {B gx g' c' nL : Nat} {s : ScrD} {lv : Value} {ms : List (MsgD × MsgA)} {m m2 : MsgD} {a a2 : MsgA}
theorem StrSt.below (h : StrSt w1 B gx s lv nL ms w) (hb : Below w.heap.size w w') : StrSt w1 B gx s lv nL ms w' :=
  ⟨h.bel.trans (hb.mono h.bel.size), Nat.le_trans h.hB hb.size, h.hgx, h.h1, h.box.below hb h.box.1, ownS_below h.rowL hb, h.lenL, fun x hx => ⟨(h.msgs x hx).1.step (Touch.of hb) fun _ hj => .inl hj, (h.msgs x hx).2⟩⟩
/-- two messages more -/
theorem StrSt.push (h : StrSt w1 B gx s lv nL ms w) (f1 : MsgFree w (fun j => j = gx ∨ lv.ownBlock = some j) m a) (o1 : MsgOk m) (e1 : MsgFew 140737488351232 a) (f2 : MsgFree w (fun j => j = gx ∨ lv.ownBlock = some j) m2 a2) (o2 : MsgOk m2) (e2 : MsgFew 140737488351232 a2)
    (h5 : w5.ownsRow B 42 18 (.slice (some ⟨g', 0, none⟩) (nL + 2) c') (nL + 2) (cellsM ms ++ (msgC m a ++ msgC m2 a2))) (hg : w.grownBy w5 lv.ownBlock) (hat : lv.ownBlock = some g' ∨ g' = w.heap.size) :
    Box w5 gx (cx s lv (.slice s.AP s.nP s.cP)) ∧ StrSt w1 B gx s (.slice (some ⟨g', 0, none⟩) (nL + 2) c') (nL + 2) (ms ++ [(m, a), (m2, a2)]) (w5.setCell ⟨gx, 2, none⟩ (.slice (some ⟨g', 0, none⟩) (nL + 2) c')) := by
  have ht : Touch (fun k => lv.ownBlock = some k) w w5 := Touch.grown hg fun _ e => e
  have hgB : B ≤ g' := by
    rcases hat with e | e
    · exact (own_lt h.rowL e).2
    · have := h.hB; omega
  have hbx : Box w5 gx (cx s lv (.slice s.AP s.nP s.cP)) := h.box.touch ht fun e => by have := (own_lt h.rowL e).2; have := h.hgx; omega
  have hb5 : Below w1.heap.size w1 w5 := h.bel.trans (ht.below (fun k e => by have := (own_lt h.rowL e).2; have := h.hgx; have := h.h1; omega) h.bel.size)
  have ht8 : Touch (fun j => j = gx ∨ lv.ownBlock = some j) w (w5.setCell ⟨gx, 2, none⟩ (.slice (some ⟨g', 0, none⟩) (nL + 2) c')) := (ht.mono fun _ e => .inr e).set (.inl (.inl rfl)) _
  have hT : ∀ k, (k = gx ∨ (Value.slice (some ⟨g', 0, none⟩) (nL + 2) c').ownBlock = some k) → (k = gx ∨ lv.ownBlock = some k) ∨ w.heap.size ≤ k := fun k hk => by
    rcases hk with hk | hk
    · exact .inl (.inl hk)
    · have e : g' = k := by simpa [Value.ownBlock] using hk
      subst e
      rcases hat with e | e
      · exact .inl (.inr e)
      · exact .inr (by omega)
  refine ⟨hbx, hb5.setCell h.h1 _, by simpa using Nat.le_trans h.hB ht.size, h.hgx, h.h1, hbx.set (j := 2) (by simp [cx]), ?_, by rw [List.length_append, h.lenL]; rfl, fun x hx => ?_⟩
  · have e : cellsM (ms ++ [(m, a), (m2, a2)]) = cellsM ms ++ (msgC m a ++ msgC m2 a2) := by simp [cellsM]
    rw [e]
    exact own_kept h5 fun k hk _ => set_block _ (by have e := hk; simp only [Value.ownBlock, Option.some.injEq] at e; have := h.hgx; omega)
  · rcases List.mem_append.1 hx with hx | hx
    · exact ⟨(h.msgs x hx).1.step ht8 hT, (h.msgs x hx).2⟩
    · rw [List.mem_cons, List.mem_singleton] at hx
      rcases hx with rfl | rfl
      · exact ⟨f1.step ht8 hT, o1, e1⟩
      · exact ⟨f2.step ht8 hT, o2, e2⟩
/-- the new script -/
theorem StrSt.scr (h : StrSt w1 B gx s lv nL ms w) (hi : ScrIn w s) : ∃ s', Box w gx (scrC s') ∧ ScrIn w s' := by
  obtain ⟨A, c, rfl, l1, l2, l3, _, _⟩ := ownS_slice h.rowL
  refine ⟨{ s with AM := A, nM := nL, cM := c, M := ms }, h.box, ?_⟩
  exact ⟨hi.wN, hi.zl, hi.rl, hi.kl, hi.xl, h.lenL, l3, l1, l2, fun x hx => ⟨(h.msgs x hx).1.here, (h.msgs x hx).2⟩, hi.zP, hi.rP, hi.kP, hi.xP, hi.zW, hi.rW, hi.kW, hi.xW, hi.iW, hi.zX, hi.rX, hi.kX, hi.xX, hi.iX⟩
end

end Go.Proofs.Ytcfnomnhameleaa
