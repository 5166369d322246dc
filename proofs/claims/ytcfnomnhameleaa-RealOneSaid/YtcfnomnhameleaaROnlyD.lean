/-
  A script that is made out of another: what 'only' keeps from round to round.
-/
import Derived.Test.YtcfnomnhameleaaZJ
import Derived.Test.YtcfnomnhameleaaRTake
namespace Go.Proofs.Ytcfnomnhameleaa
open Go.RowKit

theorem zready_1_7 {P : Program} {md : Region.Mode} {Q : Exit → Act → World → Prop} {S : World → Prop} {o0 o1 o2 o3 o4 o5 o6 o7 : Oper} {rest : List Oper} {fuel : Nat} {listed : Array Bool} {a : Act} {w : World}
    (hr : Region.ready md (o0 :: o1 :: o2 :: o3 :: o4 :: o5 :: o6 :: o7 :: rest).toArray listed = [1, 7])
    (h1 : ∀ K' : Act → World → Prop, Shut (∀ a w, S w → (S w → wpAnyH P md (o0 :: o1 :: o2 :: o3 :: o4 :: o5 :: o6 :: o7 :: rest).toArray Q S fuel (listed.setIfInBounds 1 true) a w) → K' a w) → if Region.wanted o1 (yielded (o0 :: o1 :: o2 :: o3 :: o4 :: o5 :: o6 :: o7 :: rest).toArray a.tmps) = true then Oper.wp P o1 a w K' Q else K' (a.put o1.dst undef) w)
    (h7 : ∀ K' : Act → World → Prop, Shut (∀ a w, S w → (S w → wpAnyH P md (o0 :: o1 :: o2 :: o3 :: o4 :: o5 :: o6 :: o7 :: rest).toArray Q S fuel (listed.setIfInBounds 7 true) a w) → K' a w) → if Region.wanted o7 (yielded (o0 :: o1 :: o2 :: o3 :: o4 :: o5 :: o6 :: o7 :: rest).toArray a.tmps) = true then Oper.wp P o7 a w K' Q else K' (a.put o7.dst undef) w) :
    wpAnyH P md (o0 :: o1 :: o2 :: o3 :: o4 :: o5 :: o6 :: o7 :: rest).toArray Q S (fuel + 1) listed a w :=
  wpAnyH_ready hr (by simp) (AllReadyH.cons (i := 1) (o := o1) rfl h1 (AllReadyH.cons (i := 7) (o := o7) rfl h7 AllReadyH.nil))
theorem zready_1_14 {P : Program} {md : Region.Mode} {Q : Exit → Act → World → Prop} {S : World → Prop} {o0 o1 o2 o3 o4 o5 o6 o7 o8 o9 o10 o11 o12 o13 o14 : Oper} {rest : List Oper} {fuel : Nat} {listed : Array Bool} {a : Act} {w : World}
    (hr : Region.ready md (o0 :: o1 :: o2 :: o3 :: o4 :: o5 :: o6 :: o7 :: o8 :: o9 :: o10 :: o11 :: o12 :: o13 :: o14 :: rest).toArray listed = [1, 14])
    (h1 : ∀ K' : Act → World → Prop, Shut (∀ a w, S w → (S w → wpAnyH P md (o0 :: o1 :: o2 :: o3 :: o4 :: o5 :: o6 :: o7 :: o8 :: o9 :: o10 :: o11 :: o12 :: o13 :: o14 :: rest).toArray Q S fuel (listed.setIfInBounds 1 true) a w) → K' a w) → if Region.wanted o1 (yielded (o0 :: o1 :: o2 :: o3 :: o4 :: o5 :: o6 :: o7 :: o8 :: o9 :: o10 :: o11 :: o12 :: o13 :: o14 :: rest).toArray a.tmps) = true then Oper.wp P o1 a w K' Q else K' (a.put o1.dst undef) w)
    (h14 : ∀ K' : Act → World → Prop, Shut (∀ a w, S w → (S w → wpAnyH P md (o0 :: o1 :: o2 :: o3 :: o4 :: o5 :: o6 :: o7 :: o8 :: o9 :: o10 :: o11 :: o12 :: o13 :: o14 :: rest).toArray Q S fuel (listed.setIfInBounds 14 true) a w) → K' a w) → if Region.wanted o14 (yielded (o0 :: o1 :: o2 :: o3 :: o4 :: o5 :: o6 :: o7 :: o8 :: o9 :: o10 :: o11 :: o12 :: o13 :: o14 :: rest).toArray a.tmps) = true then Oper.wp P o14 a w K' Q else K' (a.put o14.dst undef) w) :
    wpAnyH P md (o0 :: o1 :: o2 :: o3 :: o4 :: o5 :: o6 :: o7 :: o8 :: o9 :: o10 :: o11 :: o12 :: o13 :: o14 :: rest).toArray Q S (fuel + 1) listed a w :=
  wpAnyH_ready hr (by simp) (AllReadyH.cons (i := 1) (o := o1) rfl h1 (AllReadyH.cons (i := 14) (o := o14) rfl h14 AllReadyH.nil))
theorem zready_1 {P : Program} {md : Region.Mode} {Q : Exit → Act → World → Prop} {S : World → Prop} {o0 o1 : Oper} {rest : List Oper} {fuel : Nat} {listed : Array Bool} {a : Act} {w : World}
    (hr : Region.ready md (o0 :: o1 :: rest).toArray listed = [1])
    (h : ∀ K' : Act → World → Prop, Shut (∀ a w, S w → (S w → wpAnyH P md (o0 :: o1 :: rest).toArray Q S fuel (listed.setIfInBounds 1 true) a w) → K' a w) → if Region.wanted o1 (yielded (o0 :: o1 :: rest).toArray a.tmps) = true then Oper.wp P o1 a w K' Q else K' (a.put o1.dst undef) w) :
    wpAnyH P md (o0 :: o1 :: rest).toArray Q S (fuel + 1) listed a w :=
  wpAnyH_ready hr (by simp) (AllReadyH.cons (i := 1) (o := o1) rfl h AllReadyH.nil)
theorem zready_7 {P : Program} {md : Region.Mode} {Q : Exit → Act → World → Prop} {S : World → Prop} {o0 o1 o2 o3 o4 o5 o6 o7 : Oper} {rest : List Oper} {fuel : Nat} {listed : Array Bool} {a : Act} {w : World}
    (hr : Region.ready md (o0 :: o1 :: o2 :: o3 :: o4 :: o5 :: o6 :: o7 :: rest).toArray listed = [7])
    (h : ∀ K' : Act → World → Prop, Shut (∀ a w, S w → (S w → wpAnyH P md (o0 :: o1 :: o2 :: o3 :: o4 :: o5 :: o6 :: o7 :: rest).toArray Q S fuel (listed.setIfInBounds 7 true) a w) → K' a w) → if Region.wanted o7 (yielded (o0 :: o1 :: o2 :: o3 :: o4 :: o5 :: o6 :: o7 :: rest).toArray a.tmps) = true then Oper.wp P o7 a w K' Q else K' (a.put o7.dst undef) w) :
    wpAnyH P md (o0 :: o1 :: o2 :: o3 :: o4 :: o5 :: o6 :: o7 :: rest).toArray Q S (fuel + 1) listed a w :=
  wpAnyH_ready hr (by simp) (AllReadyH.cons (i := 7) (o := o7) rfl h AllReadyH.nil)
theorem zready_8 {P : Program} {md : Region.Mode} {Q : Exit → Act → World → Prop} {S : World → Prop} {o0 o1 o2 o3 o4 o5 o6 o7 o8 : Oper} {rest : List Oper} {fuel : Nat} {listed : Array Bool} {a : Act} {w : World}
    (hr : Region.ready md (o0 :: o1 :: o2 :: o3 :: o4 :: o5 :: o6 :: o7 :: o8 :: rest).toArray listed = [8])
    (h : ∀ K' : Act → World → Prop, Shut (∀ a w, S w → (S w → wpAnyH P md (o0 :: o1 :: o2 :: o3 :: o4 :: o5 :: o6 :: o7 :: o8 :: rest).toArray Q S fuel (listed.setIfInBounds 8 true) a w) → K' a w) → if Region.wanted o8 (yielded (o0 :: o1 :: o2 :: o3 :: o4 :: o5 :: o6 :: o7 :: o8 :: rest).toArray a.tmps) = true then Oper.wp P o8 a w K' Q else K' (a.put o8.dst undef) w) :
    wpAnyH P md (o0 :: o1 :: o2 :: o3 :: o4 :: o5 :: o6 :: o7 :: o8 :: rest).toArray Q S (fuel + 1) listed a w :=
  wpAnyH_ready hr (by simp) (AllReadyH.cons (i := 8) (o := o8) rfl h AllReadyH.nil)
theorem zready_14 {P : Program} {md : Region.Mode} {Q : Exit → Act → World → Prop} {S : World → Prop} {o0 o1 o2 o3 o4 o5 o6 o7 o8 o9 o10 o11 o12 o13 o14 : Oper} {rest : List Oper} {fuel : Nat} {listed : Array Bool} {a : Act} {w : World}
    (hr : Region.ready md (o0 :: o1 :: o2 :: o3 :: o4 :: o5 :: o6 :: o7 :: o8 :: o9 :: o10 :: o11 :: o12 :: o13 :: o14 :: rest).toArray listed = [14])
    (h : ∀ K' : Act → World → Prop, Shut (∀ a w, S w → (S w → wpAnyH P md (o0 :: o1 :: o2 :: o3 :: o4 :: o5 :: o6 :: o7 :: o8 :: o9 :: o10 :: o11 :: o12 :: o13 :: o14 :: rest).toArray Q S fuel (listed.setIfInBounds 14 true) a w) → K' a w) → if Region.wanted o14 (yielded (o0 :: o1 :: o2 :: o3 :: o4 :: o5 :: o6 :: o7 :: o8 :: o9 :: o10 :: o11 :: o12 :: o13 :: o14 :: rest).toArray a.tmps) = true then Oper.wp P o14 a w K' Q else K' (a.put o14.dst undef) w) :
    wpAnyH P md (o0 :: o1 :: o2 :: o3 :: o4 :: o5 :: o6 :: o7 :: o8 :: o9 :: o10 :: o11 :: o12 :: o13 :: o14 :: rest).toArray Q S (fuel + 1) listed a w :=
  wpAnyH_ready hr (by simp) (AllReadyH.cons (i := 14) (o := o14) rfl h AllReadyH.nil)
theorem zready_15 {P : Program} {md : Region.Mode} {Q : Exit → Act → World → Prop} {S : World → Prop} {o0 o1 o2 o3 o4 o5 o6 o7 o8 o9 o10 o11 o12 o13 o14 o15 : Oper} {rest : List Oper} {fuel : Nat} {listed : Array Bool} {a : Act} {w : World}
    (hr : Region.ready md (o0 :: o1 :: o2 :: o3 :: o4 :: o5 :: o6 :: o7 :: o8 :: o9 :: o10 :: o11 :: o12 :: o13 :: o14 :: o15 :: rest).toArray listed = [15])
    (h : ∀ K' : Act → World → Prop, Shut (∀ a w, S w → (S w → wpAnyH P md (o0 :: o1 :: o2 :: o3 :: o4 :: o5 :: o6 :: o7 :: o8 :: o9 :: o10 :: o11 :: o12 :: o13 :: o14 :: o15 :: rest).toArray Q S fuel (listed.setIfInBounds 15 true) a w) → K' a w) → if Region.wanted o15 (yielded (o0 :: o1 :: o2 :: o3 :: o4 :: o5 :: o6 :: o7 :: o8 :: o9 :: o10 :: o11 :: o12 :: o13 :: o14 :: o15 :: rest).toArray a.tmps) = true then Oper.wp P o15 a w K' Q else K' (a.put o15.dst undef) w) :
    wpAnyH P md (o0 :: o1 :: o2 :: o3 :: o4 :: o5 :: o6 :: o7 :: o8 :: o9 :: o10 :: o11 :: o12 :: o13 :: o14 :: o15 :: rest).toArray Q S (fuel + 1) listed a w :=
  wpAnyH_ready hr (by simp) (AllReadyH.cons (i := 15) (o := o15) rfl h AllReadyH.nil)
theorem zready_17 {P : Program} {md : Region.Mode} {Q : Exit → Act → World → Prop} {S : World → Prop} {o0 o1 o2 o3 o4 o5 o6 o7 o8 o9 o10 o11 o12 o13 o14 o15 o16 o17 : Oper} {rest : List Oper} {fuel : Nat} {listed : Array Bool} {a : Act} {w : World}
    (hr : Region.ready md (o0 :: o1 :: o2 :: o3 :: o4 :: o5 :: o6 :: o7 :: o8 :: o9 :: o10 :: o11 :: o12 :: o13 :: o14 :: o15 :: o16 :: o17 :: rest).toArray listed = [17])
    (h : ∀ K' : Act → World → Prop, Shut (∀ a w, S w → (S w → wpAnyH P md (o0 :: o1 :: o2 :: o3 :: o4 :: o5 :: o6 :: o7 :: o8 :: o9 :: o10 :: o11 :: o12 :: o13 :: o14 :: o15 :: o16 :: o17 :: rest).toArray Q S fuel (listed.setIfInBounds 17 true) a w) → K' a w) → if Region.wanted o17 (yielded (o0 :: o1 :: o2 :: o3 :: o4 :: o5 :: o6 :: o7 :: o8 :: o9 :: o10 :: o11 :: o12 :: o13 :: o14 :: o15 :: o16 :: o17 :: rest).toArray a.tmps) = true then Oper.wp P o17 a w K' Q else K' (a.put o17.dst undef) w) :
    wpAnyH P md (o0 :: o1 :: o2 :: o3 :: o4 :: o5 :: o6 :: o7 :: o8 :: o9 :: o10 :: o11 :: o12 :: o13 :: o14 :: o15 :: o16 :: o17 :: rest).toArray Q S (fuel + 1) listed a w :=
  wpAnyH_ready hr (by simp) (AllReadyH.cons (i := 17) (o := o17) rfl h AllReadyH.nil)

theorem info_bool : (Try.prog.info? 4).map (fun i => (i.zero, i.size, i.bytes)) = some (some (.bool false), 1, 1) := by kernel_rfl
theorem fill_bool (b : Bool) : Instr.fill (fun i => some (i * 1, 1)) ((Array.range (1 * 1)).map ((Value.bool false).cells[· % (Value.bool false).cells.size]!)) [(0, .bool b)] = some #[.bool b] := by cases b <;> kernel_rfl
theorem have_bool : ∃ ie, Try.prog.info? 4 = some ie ∧ ie.zero = some (.bool false) ∧ ie.size = 1 := by
  have h := info_bool
  cases hie : Try.prog.info? 4 with
  | none => rw [hie] at h; cases h
  | some ie =>
    rw [hie] at h
    simp only [Option.map_some, Option.some.injEq, Prod.mk.injEq] at h
    exact ⟨ie, rfl, h.1, h.2.1⟩
/-- []T{m} of one message, at the operation -/
theorem wp_build_msg {o : Oper} {a : Act} {w : World} {K : Act → World → Prop} {Q : Exit → Act → World → Prop} (x : Operand) (ho : o.op = .buildSlice 23 1 #[(0, x)]) (m : MsgD) (am : MsgA) (hx : a.eval x = .agg (msgC m am).toArray)
    (h : K (a.put o.dst (.slice (some ⟨w.heap.size, 0, none⟩) 1 1)) (w.alloc (.cells (msgC m am).toArray 42))) : o.wp Try.prog a w K Q := by
  obtain ⟨ie, hie, hz, hs⟩ := few_have
  refine wp_buildSlice 23 42 1 _ ho (msgC m am).toArray ie (msgV zeroM zeroA) Try.underlying23 hie hz (by rw [hs]; decide) (by rw [hs]; decide) ?_ h
  have e : ((#[(0, x)] : Array (Nat × Operand)).map fun (i, x) => (i, a.eval x)).toList = [(0, .agg (msgC m am).toArray)] := by
    rw [Array.toList_map]
    show [(0, a.eval x)] = _
    rw [hx]
  rw [e, hs]
  exact fill1 m am
theorem wp_build_bool {o : Oper} {a : Act} {w : World} {K : Act → World → Prop} {Q : Exit → Act → World → Prop} (x : Operand) (ho : o.op = .buildSlice 24 1 #[(0, x)]) (b : Bool) (hx : a.eval x = .bool b)
    (h : K (a.put o.dst (.slice (some ⟨w.heap.size, 0, none⟩) 1 1)) (w.alloc (.cells #[.bool b] 4))) : o.wp Try.prog a w K Q := by
  obtain ⟨ie, hie, hz, hs⟩ := have_bool
  refine wp_buildSlice 24 4 1 _ ho #[.bool b] ie (.bool false) Try.underlying24 hie hz (by rw [hs]; decide) (by rw [hs]; decide) ?_ h
  have e : ((#[(0, x)] : Array (Nat × Operand)).map fun (i, x) => (i, a.eval x)).toList = [(0, .bool b)] := by
    rw [Array.toList_map]
    show [(0, a.eval x)] = _
    rw [hx]
  rw [e, hs]
  exact fill_bool b
/-- append of one element, at the operation, and where the row lies then -/
theorem wp_app_elemL {P : Program} (w : World) {o : Oper} {a : Act} {K : Act → World → Prop} {Q : Exit → Act → World → Prop} (s x : Operand) (t : TypeId)
    (ho : o.op = .call { callee := .builtin .append, args := #[s, x], argTypes := #[t, t] })
    (B : Nat) (e : TypeId) (z : Value) (sz bytes : Nat) (ht : P.underlying t = some (.slice e)) (hinfo : (P.info? e).map (fun i => (i.zero, i.size, i.bytes)) = some (some z, sz, bytes)) (hzs : z.cells.size = sz) (hsz : 0 < sz) (hby : bytes ≤ 512)
    (v : Value) (n : Nat) (xs : List Value) (hs : a.eval s = v) (hown : w.ownsRow B e sz v n xs)
    (g : Nat) (us : List Value) (hx : a.eval x = .slice (some ⟨g, 0, none⟩) 1 1) (hu : us.length = sz) (hc : ∀ i u, us[i]? = some u → w.cell? ⟨g, i, none⟩ = some u) (h1 : ∀ u ∈ us, u.oneCell' = true)
    (hn : n + 1 ≤ 68719476736) (hB : B ≤ w.heap.size)
    (h : ∀ g' c' w', w'.ownsRow B e sz (.slice (some ⟨g', 0, none⟩) (n + 1) c') (n + 1) (xs ++ us) → w.grownBy w' v.ownBlock → (v.ownBlock = some g' ∨ g' = w.heap.size) → K (a.put o.dst (.slice (some ⟨g', 0, none⟩) (n + 1) c')) w') : o.wp P a w K Q := by
  obtain ⟨i, hi, hz, hsize, hbytes⟩ := info_parts hinfo
  refine wp_append_lies (P := P) w s x t ho B e i z sz bytes ht hi hz hsize hbytes hzs hsz v n xs hs hown ⟨g, 0, none⟩ 1 1 us hx (by omega) ?_ h1 (by decide) (by unfold maxLen; omega) ?_ hB _ rfl ?_
  · intro j y hj
    rw [Addr.add_lit, Nat.zero_add]
    exact hc j y hj
  · have := Nat.mul_le_mul hn hby
    omega
  · intro g' cap w' hown' hg hat _
    exact h g' cap w' hown' hg hat

/-- the new script's cells -/
def cx (s : ScrD) (lv pv : Value) : List Value := [.int .i64 s.N, .slice s.Al s.nl s.cl, lv, pv, .slice s.AW s.nW s.cW, .slice s.AX s.nX s.cX]
structure OnlySt (w1 : World) (B gx : Nat) (s : ScrD) (lv pv : Value) (nL nQ : Nat) (ms : List (MsgD × MsgA)) (ps : List Bool) (w : World) : Prop where
  bel : Below w1.heap.size w1 w
  hB : B ≤ w.heap.size
  hgx : gx < B
  h1 : w1.heap.size ≤ gx
  box : Box w gx (cx s lv pv)
  rowL : w.ownsRow B 42 18 lv nL (cellsM ms)
  lenL : ms.length = nL
  rowP : w.ownsRow B 4 1 pv nQ (bools ps)
  sub : ∀ x ∈ ms, x ∈ s.M
  apart : ∀ g, lv.ownBlock = some g → pv.ownBlock ≠ some g
section
variable {w1 w w' w2 w3 w5 w8 : World} {B gx g' c' nL nQ : Nat} {s : ScrD} {lv pv : Value} {ms : List (MsgD × MsgA)} {ps : List Bool} {m : MsgD} {a : MsgA} {b : Bool}
theorem OnlySt.below (h : OnlySt w1 B gx s lv pv nL nQ ms ps w) (hb : Below w.heap.size w w') : OnlySt w1 B gx s lv pv nL nQ ms ps w' :=
  ⟨h.bel.trans (hb.mono h.bel.size), Nat.le_trans h.hB hb.size, h.hgx, h.h1, h.box.below hb h.box.1, ownS_below h.rowL hb, h.lenL, own_below h.rowP hb, h.sub, h.apart⟩
/-- one message more, and its row is the script's -/
theorem OnlySt.msg (h : OnlySt w1 B gx s lv pv nL nQ ms ps w) (hm : (m, a) ∈ s.M) (h5 : w5.ownsRow B 42 18 (.slice (some ⟨g', 0, none⟩) (nL + 1) c') (nL + 1) (cellsM ms ++ msgC m a)) (hg : w.grownBy w5 lv.ownBlock) (hat : lv.ownBlock = some g' ∨ g' = w.heap.size) :
    (Box w5 gx (cx s lv pv) ∧ Below w1.heap.size w1 w5) ∧ OnlySt w1 B gx s (.slice (some ⟨g', 0, none⟩) (nL + 1) c') pv (nL + 1) nQ (ms ++ [(m, a)]) ps (w5.setCell ⟨gx, 2, none⟩ (.slice (some ⟨g', 0, none⟩) (nL + 1) c')) := by
  have ht : Touch (fun k => lv.ownBlock = some k) w w5 := Touch.grown hg fun _ e => e
  have hgB : B ≤ g' := by
    rcases hat with e | e
    · exact (own_lt h.rowL e).2
    · have := h.hB; omega
  have hbx : Box w5 gx (cx s lv pv) := h.box.touch ht fun e => by have := (own_lt h.rowL e).2; have := h.hgx; omega
  have hb5 : Below w1.heap.size w1 w5 := h.bel.trans (ht.below (fun k e => by have := (own_lt h.rowL e).2; have := h.hgx; have := h.h1; omega) h.bel.size)
  have hp5 : w5.ownsRow B 4 1 pv nQ (bools ps) := own_kept h.rowP fun k hk hl => ht.block k hl fun e => h.apart k e hk
  refine ⟨⟨hbx, hb5⟩, hb5.setCell h.h1 _, by simpa using Nat.le_trans h.hB ht.size, h.hgx, h.h1, hbx.set (j := 2) (by simp [cx]), ?_, by rw [List.length_append, h.lenL]; rfl, ?_, fun x hx => ?_, fun k hk => ?_⟩
  · rw [cellsM_add]
    exact own_kept h5 fun k hk _ => set_block _ (by have e := hk; simp only [Value.ownBlock, Option.some.injEq] at e; have := h.hgx; omega)
  · exact own_kept hp5 fun k hk _ => set_block _ (by have := (own_lt h.rowP hk).2; have := h.hgx; omega)
  · rcases List.mem_append.1 hx with hx | hx
    · exact h.sub x hx
    · rw [List.mem_singleton] at hx
      rw [hx]
      exact hm
  · have e : g' = k := by simpa [Value.ownBlock] using hk
    subst e
    rcases hat with e | e
    · exact h.apart _ e
    · intro hp
      have := (own_lt h.rowP hp).1
      omega
/-- one flag more -/
theorem OnlySt.flag (h : OnlySt w1 B gx s lv pv nL nQ ms ps w) (h5 : w5.ownsRow B 4 1 (.slice (some ⟨g', 0, none⟩) (nQ + 1) c') (nQ + 1) (bools ps ++ [.bool b])) (hg : w.grownBy w5 pv.ownBlock) (hat : pv.ownBlock = some g' ∨ g' = w.heap.size) :
    (Box w5 gx (cx s lv pv) ∧ Below w1.heap.size w1 w5) ∧ OnlySt w1 B gx s lv (.slice (some ⟨g', 0, none⟩) (nQ + 1) c') nL (nQ + 1) ms (ps ++ [b]) (w5.setCell ⟨gx, 3, none⟩ (.slice (some ⟨g', 0, none⟩) (nQ + 1) c')) := by
  have ht : Touch (fun k => pv.ownBlock = some k) w w5 := Touch.grown hg fun _ e => e
  have hgB : B ≤ g' := by
    rcases hat with e | e
    · exact (own_lt h.rowP e).2
    · have := h.hB; omega
  have hbx : Box w5 gx (cx s lv pv) := h.box.touch ht fun e => by have := (own_lt h.rowP e).2; have := h.hgx; omega
  have hb5 : Below w1.heap.size w1 w5 := h.bel.trans (ht.below (fun k e => by have := (own_lt h.rowP e).2; have := h.hgx; have := h.h1; omega) h.bel.size)
  have hp5 : w5.ownsRow B 42 18 lv nL (cellsM ms) := own_kept h.rowL fun k hk hl => ht.block k hl fun e => h.apart k hk e
  refine ⟨⟨hbx, hb5⟩, hb5.setCell h.h1 _, by simpa using Nat.le_trans h.hB ht.size, h.hgx, h.h1, hbx.set (j := 3) (by simp [cx]), ?_, h.lenL, ?_, h.sub, fun k hk hq => ?_⟩
  · exact own_kept hp5 fun k hk _ => set_block _ (by have := (own_lt h.rowL hk).2; have := h.hgx; omega)
  · have e : bools (ps ++ [b]) = bools ps ++ [.bool b] := by simp [bools]
    rw [e]
    exact own_kept h5 fun k hk _ => set_block _ (by have e := hk; simp only [Value.ownBlock, Option.some.injEq] at e; have := h.hgx; omega)
  · have e : g' = k := by simpa [Value.ownBlock] using hq
    subst e
    rcases hat with e | e
    · exact h.apart _ hk e
    · have := (own_lt h.rowL hk).1
      omega
/-- the new script -/
theorem OnlySt.scr (h : OnlySt w1 B gx s lv pv nL nQ ms ps w) (hi : ScrIn w s) : ∃ s', Box w gx (scrC s') ∧ ScrIn w s' := by
  obtain ⟨A, c, rfl, l1, l2, l3, _, _⟩ := ownS_slice h.rowL
  obtain ⟨A', c', rfl, p1, p2, p3, _, p5⟩ := own_val h.rowP
  refine ⟨{ s with AM := A, nM := nL, cM := c, M := ms, AP := A', nP := nQ, cP := c', P := ps }, h.box, ?_⟩
  exact ⟨hi.wN, hi.zl, hi.rl, hi.kl, hi.xl, h.lenL, l3, l1, l2, fun x hx => hi.msgs x (h.sub x hx), by rw [← p5, bools_length], p3, p1, p2, hi.zW, hi.rW, hi.kW, hi.xW, hi.iW, hi.zX, hi.rX, hi.kX, hi.xX, hi.iX⟩
end

end Go.Proofs.Ytcfnomnhameleaa
