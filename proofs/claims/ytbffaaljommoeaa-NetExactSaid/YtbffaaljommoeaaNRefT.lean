/-
  The page's own net: Take.
-/
import Derived.Test.YtbffaaljommoeaaNRefP
namespace Go.Proofs.Ytbffaaljommoeaa
open Go.RowKit

/-- append of a list of elements of up to 256 bytes, and that only the row itself may have turned -/
theorem wp_app_wide {P : Program} (w : World) {o : Oper} {a : Act} {K : Act → World → Prop} {Q : Exit → Act → World → Prop} (s x : Operand) (t : TypeId)
    (ho : o.op = .call { callee := .builtin .append, args := #[s, x], argTypes := #[t, t] })
    (B : Nat) (e : TypeId) (z : Value) (bytes : Nat) (ht : P.underlying t = some (.slice e)) (hinfo : (P.info? e).map (fun i => (i.zero, i.size, i.bytes)) = some (some z, 1, bytes)) (hzs : z.cells.size = 1) (hby : bytes ≤ 256)
    (v : Value) (n : Nat) (xs : List Value) (hs : a.eval s = v) (hown : w.ownsRow B e 1 v n xs)
    (A : Option Addr) (m c : Nat) (news : List Value) (hx : a.eval x = .slice A m c) (hm : m = news.length) (hr : Rd w A news) (h1 : ∀ u ∈ news, u.oneCell' = true)
    (hn : n + m ≤ 68719476736) (hB : B ≤ w.heap.size)
    (h : ∀ v' w', w'.ownsRow B e 1 v' (n + m) (xs ++ news) → Below B w w' → w.grownBy w' v.ownBlock → K (a.put o.dst v') w') : o.wp P a w K Q := by
  obtain ⟨i, hi, hz, hsize, hbytes⟩ := info_parts hinfo
  cases A with
  | none =>
    have hn0 : news = [] := by
      rcases Nat.eq_zero_or_pos news.length with h0 | h0
      · exact List.eq_nil_of_length_eq_zero h0
      · obtain ⟨b, off, he, _⟩ := hr.open_ h0
        cases he
    subst hn0
    subst hm
    have hrun : (Builtin.append_ #[t, t] o.type #[v, .slice none 0 c]).run P w = .ok v w := by
      rcases hown.2 with ⟨rfl, rfl⟩ | ⟨g, cap, cur, rfl, _, _, hnc, _⟩
      · simp [Builtin.append_, run_underlying ht, sizeOf, typeInfo, hi, Builtin.lenOf, Builtin.firstCells]
      · simp [Builtin.append_, run_underlying ht, sizeOf, typeInfo, hi, Builtin.lenOf, Builtin.firstCells, hnc, storeCells]
    unfold Oper.wp execOp
    simp only [ho, resolve, invoke, builtin, Sem.run_bind, Sem.run_pure, Result.andThen_ok, List.map_toArray, List.map_cons, List.map_nil, hs, hx, List.length_nil, hrun]
    exact h v w (by simpa using hown) (Below.refl _ _) ⟨rfl, rfl, rfl, Nat.le_refl _, fun _ _ _ => rfl⟩
  | some ad =>
    subst hm
    refine wp_append_own (P := P) w s x t ho B e i z 1 bytes ht hi hz hsize hbytes hzs (by decide) v n xs hs hown ad news.length c news hx (by simp) ?_ h1 (by unfold maxLen; omega) ?_ hB ?_
    · intro j y hj
      have hl : j < news.length := by
        rcases Nat.lt_or_ge j news.length with h' | h'
        · exact h'
        · rw [List.getElem?_eq_none h'] at hj; cases hj
      obtain ⟨b, off, he, _, hc⟩ := hr.open_ (by omega)
      cases he
      rw [Addr.add_lit]
      exact hc j y hj
    · have := Nat.mul_le_mul hn hby
      omega
    · intro v' w' hown' hg _
      exact h v' w' hown' (below_own (Below.refl _ _) hown hg hB) hg

theorem wpList_app_wide {P : Program} (w : World) {ops : Array Oper} {rest : List Oper} {o : Oper} {a : Act} {Q : Exit → Act → World → Prop} (hgd : o.guard = none) (s x : Operand) (t : TypeId)
    (ho : o.op = .call { callee := .builtin .append, args := #[s, x], argTypes := #[t, t] })
    (B : Nat) (e : TypeId) (z : Value) (bytes : Nat) (ht : P.underlying t = some (.slice e)) (hinfo : (P.info? e).map (fun i => (i.zero, i.size, i.bytes)) = some (some z, 1, bytes)) (hzs : z.cells.size = 1) (hby : bytes ≤ 256)
    (v : Value) (n : Nat) (xs : List Value) (hs : a.eval s = v) (hown : w.ownsRow B e 1 v n xs)
    (A : Option Addr) (m c : Nat) (news : List Value) (hx : a.eval x = .slice A m c) (hm : m = news.length) (hr : Rd w A news) (h1 : ∀ u ∈ news, u.oneCell' = true)
    (hn : n + m ≤ 68719476736) (hB : B ≤ w.heap.size)
    (h : ∀ v' w', w'.ownsRow B e 1 v' (n + m) (xs ++ news) → Below B w w' → w.grownBy w' v.ownBlock → wpList P ops Q rest (a.put o.dst v') w') : wpList P ops Q (o :: rest) a w :=
  wpList_plain hgd fun _ hK => wp_app_wide w s x t ho B e z bytes ht hinfo hzs hby v n xs hs hown A m c news hx hm hr h1 hn hB fun v' w' h1 h2 h3 => hK _ _ (h v' w' h1 h2 h3)

set_option maxHeartbeats 2000000 in
theorem rtake_no {F : Nat → Prop} {L : PN} {c : Nat} (g : Nat) (f t k : Int) (w : World) (h : IsRefN w g F L c) (hc : c ≤ 1000) (hb : hasK L f t k = false) :
    Calls Try.prog 10 #[.pointer (some ⟨g, 0, none⟩), .int .i64 f, .int .i64 t, .int .i64 k] w fun e w' => e = .returned (.tuple #[.slice none 0 0, .int .i64 3]) ∧ w = w' := by
  have HC := Lib.hid (rcount_is f t w h (by omega))
  obtain ⟨n, hn⟩ : ∃ n, (L.at_ f t).length = n := ⟨_, rfl⟩
  rw [hn] at HC
  have hk : ¬ (0 ≤ k ∧ k < (n : Int)) := fun hh => by
    rw [← hn, ← hasK_iff, hb] at hh
    cases hh
  by_cases k0 : k < 0
  · clear h hb hn hk
    go_enter Try.func10, Try.ntmps10
    go_wp2_with fail
    go_ret2
    exact ⟨rfl, rfl⟩
  · have k1 : (n : Int) ≤ k := by omega
    clear h hb hn hk
    go_enter Try.func10, Try.ntmps10
    go_wp2_with fail
    refine HC.out.mono ?_
    rintro e w' ⟨rfl, rfl⟩
    go_wp2_with fail
    go_ret2
    exact ⟨rfl, rfl⟩

/-- what Take leaves of the page's net -/
def RTakeTo (g : Nat) (F : Nat → Prop) (L : PN) (c n : Nat) (x : List Int) (w : World) (e : Ending) (w' : World) : Prop :=
  ∃ A cA, e = .returned (.tuple #[.slice A n cA, .int .i64 0]) ∧ w'.ownsRow 0 5 1 (.slice A n cA) n (u8s x) ∧ RefNTo g F L c w w'

set_option maxRecDepth 100000 in
set_option maxHeartbeats 8000000 in
theorem rtake_yes {F : Nat → Prop} {L : PN} {c : Nat} (g j nx : Nat) (x : List Int) (f t : Int) (w : World) (h : IsRefN w g F L c) (hc : c ≤ 1000) (hb : bothN f t = true) (hx : (L (wayN f t))[j]? = some x) (hz : x.length = nx) :
    Calls Try.prog 10 #[.pointer (some ⟨g, 0, none⟩), .int .i64 f, .int .i64 t, .int .i64 j] w (RTakeTo g F (L.put (wayN f t) (delN (L (wayN f t)) j)) c nx x w) := by
  have hj := (List.getElem?_eq_some_iff.1 hx).1
  have HC := Lib.hid (rcount_is f t w h (by omega))
  obtain ⟨vL, Ws, hR, hl, hlk⟩ := h
  have hLW : lookW Ws f t = L (wayN f t) := by rw [hlk, at_yes hb]
  have hp : posW Ws f t < Ws.length := by
    rcases Nat.lt_or_ge (posW Ws f t) Ws.length with h' | h'
    · exact h'
    · exfalso
      rw [look_no (by omega)] at hLW
      rw [← hLW] at hj
      simp at hj
  obtain ⟨W, hW, hwf, hlw⟩ := pos_at hp
  have hWm := List.mem_of_getElem? hW
  obtain ⟨p, hpp⟩ : ∃ p, posW Ws f t = p := ⟨_, rfl⟩
  obtain ⟨m, hm⟩ : ∃ m, Ws.length = m := ⟨_, rfl⟩
  have HW : Hid (∀ d, Calls Try.prog 27 #[.pointer (some ⟨g, 0, none⟩), .int .i64 f, .int .i64 t] (w.drewN d) fun e w' => e = .returned (.int .i64 p) ∧ w.drewN d = w') := fun d => by
    have := rway_is f t (w.drewN d) (hR.below (below_n (Below.refl _ _) d)) (by omega)
    rwa [way_yes hp, hpp] at this
  rw [hpp] at hW hp
  rw [hm] at hp
  obtain ⟨gr, cap, hv, hnc, hcm, hpn, hgrl, _, _, e2, fz⟩ := hR.at_ hm hW
  subst hv
  have c0 := hR.c0
  have hmsg : W.msgs = L (wayN f t) := by rw [← hlw, hLW]
  obtain ⟨k, hkk⟩ : ∃ k, W.ps.length = k := ⟨_, rfl⟩
  have hkl : (L (wayN f t)).length = k := by rw [← hmsg, WayD.msgs, List.length_map, hkk]
  rw [at_yes hb, hkl] at HC
  rw [hkl] at hj
  have hk1024 : k ≤ 1024 := by have := (hR.ok W hWm).1; rwa [hmsg, hkl] at this
  have hway := hR.way W hWm
  rw [hkk] at hway
  obtain ⟨ga, cW, hWv, hkc, hkcm⟩ : ∃ ga cW, W.v = .slice (some ⟨ga, 0, none⟩) k cW ∧ k ≤ cW ∧ cW ≤ maxLen := by
    rcases hway.2 with ⟨_, h0⟩ | ⟨ga, cW, cur, hv, _, _, q1, q2, _⟩
    · omega
    · exact ⟨ga, cW, hv, q1, q2⟩
  rw [hWv] at e2 hway
  obtain ⟨⟨u, x'⟩, hps⟩ : ∃ q, W.ps[j]? = some q := ⟨W.ps[j]'(by omega), by simp [show j < W.ps.length by omega]⟩
  have hxx : x' = x := by
    have h1 : (W.ps.map Prod.snd)[j]? = some x' := by rw [List.getElem?_map, hps]; rfl
    rw [← WayD.msgs, hmsg, hx] at h1
    exact (Option.some.inj h1).symm
  subst hxx
  have hui := hR.inn W hWm _ (List.mem_of_getElem? hps)
  have huz : x'.length ≤ 1048576 := ((hR.ok W hWm).2 x' (by rw [hmsg]; exact List.mem_of_getElem? hx)).2
  simp only at hui
  rw [hz] at hui huz
  obtain ⟨Au, cu, hu, _, _, _, _, _⟩ := own_val hui
  subst hu
  have e3 := hway.cells (g := ga) rfl j (.slice Au nx cu) (by rw [List.getElem?_map, hps]; rfl)
  rw [Addr.add_lit, Nat.zero_add] at e3
  have hgal := (own_lt hway (g := ga) rfl).1
  have hinall : ∀ q ∈ W.ps, w.ownsRow 0 5 1 q.1 q.2.length (u8s q.2) ∧ q.2.length ≤ 1048576 := fun q hq => ⟨hR.inn W hWm q hq, ((hR.ok W hWm).2 q.2 (List.mem_map.2 ⟨q, hq, rfl⟩)).2⟩
  have hcc : ∀ w1 : World, Below w.heap.size w w1 → Calls Try.prog 28 #[.slice (some ⟨ga, 0, none⟩) j cW] w1 fun e w' => ∃ v ps', e = .returned v ∧ ps'.map Prod.snd = (W.ps.take j).map Prod.snd ∧ CellsN w' w1.heap.size v ps' ∧ Below w1.heap.size w1 w' := fun w1 hb1 => by
    refine copyCells_any (some ⟨ga, 0, none⟩) cW j (W.ps.take j) w1 (by rw [List.length_take]; omega) ?_ (fun q hq => ?_) (by omega)
    · obtain ⟨A', c', e', _, _, hrd, _, _⟩ := own_val (own_below hway hb1)
      cases e'
      intro hne
      obtain ⟨b, off, e, hbl, hcl⟩ := hrd (by intro e; rw [List.map_take, e] at hne; simp at hne)
      exact ⟨b, off, e, hbl, fun i v hv => hcl i v (by rw [List.map_take, List.getElem?_take] at hv; split at hv; exact hv; cases hv)⟩
    · have := hinall q (List.mem_of_mem_take hq)
      exact ⟨own_below this.1 hb1, this.2⟩
  have i0 : (0 : Int) ≤ (j : Int) := by omega
  have i1 : ¬ ((j : Int) < 0) := by omega
  have i2 : ¬ ((k : Int) ≤ (j : Int)) := by omega
  have i3 : (j : Int) < (k : Int) := by omega
  have i4 : (0 : Int) ≤ (p : Int) := by omega
  have i5 : (p : Int) < (m : Int) := by omega
  have i6 : (j : Int) ≤ (cW : Int) := by omega
  have i7 : j ≤ cW := by omega
  have i8 : j < k := hj
  have i9 : p < m := hp
  have HR := Lib.hid hR
  have HWW := Lib.hid hW
  have HWV := Lib.hid hWv
  have HWM := Lib.hid hWm
  have HM := Lib.hid hm
  have HPP := Lib.hid hpp
  have HLK := Lib.hid hlk
  have HL := Lib.hid hl
  have HB := Lib.hid hb
  have HMS := Lib.hid hmsg
  have HKK := Lib.hid hkk
  have HWF := Lib.hid hwf
  have HCC := Lib.hid hcc
  have HIN := Lib.hid hinall
  have HUI := Lib.hid hui
  have HWY := Lib.hid hway
  have HPS := Lib.hid hps
  have HJ := Lib.hid hj
  have hgl := hR.lt _ hR.here
  have f2 := fz (p * 3 + 2)
  clear hR hW hWv hWm hm hpp hlk hl hb hmsg hkk hwf hcc hinall hui hway hps hx hz hkl hLW hlw hp hpn hnc hcm fz huz
  go_enter Try.func10, Try.ntmps10
  go_wp2_with fail
  refine HC.out.mono ?_
  rintro e w' ⟨rfl, rfl⟩
  go_wp2_with fail
  go_quiet ((go_at_call 27; exact quiet_leftK (HW.out _)))
  generalize hw1 : World.drewN w _ = w1
  have hb1 : Below w.heap.size w w1 := by rw [← hw1]; exact below_n (Below.refl _ _) _
  have e21 : w1.cell? ⟨gr, p * 3 + 2, none⟩ = some (.slice (some ⟨ga, 0, none⟩) k cW) := (hb1.cell (p := ⟨gr, p * 3 + 2, none⟩) hgrl).trans e2
  have e31 : w1.cell? ⟨ga, j, none⟩ = some (.slice Au nx cu) := (hb1.cell (p := ⟨ga, j, none⟩) hgal).trans e3
  have hz1 : w1.heap.size = w.heap.size := by rw [← hw1]; rfl
  have HC1 := Lib.hid (HCC.out w1 hb1)
  have HZ1 := Lib.hid hz1
  clear hw1 c0 HC HW HCC hz1
  go_wp2_with fail
  refine HC1.out.mono ?_
  rintro e w2 ⟨v5, ps5, rfl, hps5, hcn, hb2⟩
  have hl5 : ps5.length = j := by
    have := congrArg List.length hps5
    simp only [List.length_map, List.length_take] at this
    have h1 := HKK.out
    omega
  have hrow5 := hcn.row
  rw [hl5] at hrow5
  obtain ⟨A5, c5, rfl, _, _, _, _, _⟩ := own_val hrow5
  have hb02 : Below w.heap.size w w2 := hb1.trans (hb2.mono hb1.size)
  have e22 : w2.cell? ⟨gr, p * 3 + 2, none⟩ = some (.slice (some ⟨ga, 0, none⟩) k cW) := (hb02.cell (p := ⟨gr, p * 3 + 2, none⟩) hgrl).trans e2
  have f22 : w2.frozen? ⟨gr, p * 3 + 2, none⟩ = false := (hb02.frozen (p := ⟨gr, p * 3 + 2, none⟩) hgrl).trans f2
  have hrest : Rd w2 (if cW = j + 1 then some ⟨ga, 0, none⟩ else some ⟨ga, j + 1, none⟩) ((W.ps.drop (j + 1)).map Prod.fst) := by
    obtain ⟨A', c', e', _, _, hrd, _, _⟩ := own_val (own_below HWY.out hb02)
    cases e'
    have := hrd.cut (k := j + 1) (c := cW) (by rw [List.length_map, HKK.out]; omega)
    rw [← List.map_drop] at this
    simp only [Option.map_some, Addr.add_lit, Nat.zero_add] at this
    exact this
  have HR5 := Lib.hid hrow5
  have HCN := Lib.hid hcn
  have HPS5 := Lib.hid hps5
  have HB02 := Lib.hid hb02
  have hzz : w1.heap.size ≤ w2.heap.size := hb2.size
  have hone : ∀ u ∈ (W.ps.drop (j + 1)).map Prod.fst, u.oneCell' = true := fst_one fun q hq => (HIN.out q (List.mem_of_mem_drop hq)).1
  have hnl : k - (j + 1) = ((W.ps.drop (j + 1)).map Prod.fst).length := by rw [List.length_map, List.length_drop, HKK.out]
  have HON := Lib.hid hone
  have HNL := Lib.hid hnl
  have fin : ∀ (v3 : Value) (w3 : World), w3.ownsRow w1.heap.size 30 1 v3 (j + (k - (j + 1))) (ps5.map Prod.fst ++ (W.ps.drop (j + 1)).map Prod.fst) → Below w1.heap.size w2 w3 → w2.grownBy w3 (Value.slice A5 j c5).ownBlock →
      w3.cell? ⟨gr, p * 3 + 2, none⟩ = some (.slice (some ⟨ga, 0, none⟩) k cW) ∧ w3.frozen? ⟨gr, p * 3 + 2, none⟩ = false ∧
      (w3.setCell ⟨gr, p * 3 + 2, none⟩ v3).ownsRow 0 5 1 (.slice Au nx cu) nx (u8s x') ∧ RefNTo g F (L.put (wayN f t) (delN (L (wayN f t)) j)) c w (w3.setCell ⟨gr, p * 3 + 2, none⟩ v3) := by
    intro v3 w3 ho3 hb3 hg3
    have hb03 : Below w.heap.size w w3 := HB02.out.trans (hb3.mono (by have := HZ1.out; omega))
    have hu8 : ∀ {v : Value} {q : Nat} {ys : List Int} {B : Nat}, w2.ownsRow B 5 1 v q (u8s ys) → w3.ownsRow B 5 1 v q (u8s ys) := fun {v q ys B} hq => own_kept hq fun b hb' hlt => hg3.block b hlt fun e => by
      obtain ⟨cur, hc⟩ := own_type hq hb'
      obtain ⟨cur', hc'⟩ := own_type HR5.out e.symm
      exact ne_type hc hc' (by decide) rfl
    have hto := HR.out.wayTo HWW.out rfl HM.out (Touch.of hb03 : Touch (fun b => W.v.ownBlock = some b) w w3) (v2 := v3) (ps2 := ps5 ++ W.ps.drop (j + 1)) (by
        rw [List.map_append]
        refine own_cast (own_more ho3 (Nat.zero_le _)) ?_
        rw [List.length_append, List.length_drop, HKK.out]
        have := congrArg List.length HPS5.out
        simp only [List.length_map, List.length_take, HKK.out] at this
        omega) (fun b hb => .inr (by have := (own_lt ho3 hb).2; have := HZ1.out; omega)) (fun q hq => by
        rcases List.mem_append.1 hq with hq | hq
        · exact own_more (hu8 (HCN.out.inn q hq)) (Nat.zero_le _)
        · exact own_below (HIN.out q (List.mem_of_mem_drop hq)).1 hb03) (fun q hq b hb => by
        rcases List.mem_append.1 hq with hq | hq
        · exact .inr (by have := (own_lt (HCN.out.inn q hq) hb).2; have := HZ1.out; omega)
        · exact .inl (HR.out.innF W HWM.out q (List.mem_of_mem_drop hq) b hb)) (by
        have h1 : (ps5 ++ W.ps.drop (j + 1)).map Prod.snd = delN W.msgs j := by
          rw [List.map_append, HPS5.out, delN, WayD.msgs, List.map_take, List.map_drop]
        rw [h1]
        exact (HR.out.ok W HWM.out).del (by rw [WayD.msgs, List.length_map, HKK.out]; exact HJ.out))
    have hgw : ∀ b, (Value.slice Au nx cu).ownBlock = some b → b ≠ gr := fun b hb' e => by
      obtain ⟨cur, hc⟩ := own_type HUI.out hb'
      obtain ⟨cur', hc'⟩ := own_type HR.out.row (b := gr) rfl
      exact ne_type hc hc' (by decide) e
    refine ⟨(hb03.cell (p := ⟨gr, p * 3 + 2, none⟩) hgrl).trans e2, (hb03.frozen (p := ⟨gr, p * 3 + 2, none⟩) hgrl).trans f2, ?_, _, ⟨_, _, hto.1, by rw [List.length_set]; exact HL.out, fun f' t' => ?_⟩, hto.2, fun b hb => ?_⟩
    · exact own_kept (own_below HUI.out hb03) fun b hb' _ => heap_setCell_other w3 ⟨gr, p * 3 + 2, none⟩ b v3 (hgw b hb')
    · rw [← HPP.out, look_set f' t' (by rw [HPP.out]; exact HWW.out) (by exact HWF.out), HLK.out, put_at L _ HB.out]
      show (if f' = f ∧ t' = t then (ps5 ++ W.ps.drop (j + 1)).map Prod.snd else _) = _
      rw [List.map_append, HPS5.out, ← HMS.out, delN, WayD.msgs, List.map_take, List.map_drop]
    · rcases hb with hb | hb
      · exact .inl hb
      · exact .inr hb.1
  have HFIN := Lib.hid fin
  have s1 : IntKind.i64.wrap ((j : Int) + 1) = (j : Int) + 1 := IntWalk.i64_in _ ⟨by omega, by omega⟩
  have s2 : (0 : Int) ≤ (j : Int) + 1 := by omega
  have s3 : (j : Int) + 1 ≤ (k : Int) := by omega
  have s4 : j + 1 ≤ k := by omega
  have s5 : ((j : Int) + 1).toNat = j + 1 := by omega
  clear hcn hps5 hb02 hrow5 hb2 hone hnl fin hl5 e21 e31 HC1 e3
  by_cases hcj : cW = j + 1
  · rw [if_pos hcj] at hrest
    have HRE := Lib.hid hrest
    subst hcj
    obtain rfl : k = j + 1 := by omega
    clear hrest
    go_wp2_with (at_builtin; refine wpList_app_wide _ rfl _ _ 61 rfl w1.heap.size 30 (.slice none 0 0) 24 Try.underlying61 info_bs rfl (by decide) _ j (ps5.map Prod.fst) rfl HR5.out (some ⟨ga, 0, none⟩) 0 0 ((W.ps.drop (j + 1)).map Prod.fst) rfl (by have := HNL.out; omega) HRE.out HON.out (by omega) hzz ?_; intro v3 w3 ho3 hb3 hg3; obtain ⟨A3, c3, rfl, _, _, _, _, _⟩ := own_val ho3; obtain ⟨q1, q2, q3, q4⟩ := HFIN.out _ w3 (own_cast ho3 (by omega)) hb3 hg3; have HQ3 := Lib.hid q3; have HQ4 := Lib.hid q4; clear q3 q4 ho3 hb3 hg3 e22 f22 e2 f2)
    go_ret2
    exact ⟨Au, cu, rfl, HQ3.out, HQ4.out⟩
  · rw [if_neg hcj] at hrest
    have HRE := Lib.hid hrest
    have s6 : ¬ ((cW : Int) = (j : Int) + 1) := by omega
    clear hrest
    go_wp2_with (at_builtin; refine wpList_app_wide _ rfl _ _ 61 rfl w1.heap.size 30 (.slice none 0 0) 24 Try.underlying61 info_bs rfl (by decide) _ j (ps5.map Prod.fst) rfl HR5.out (some ⟨ga, j + 1, none⟩) (k - (j + 1)) (cW - (j + 1)) ((W.ps.drop (j + 1)).map Prod.fst) rfl HNL.out HRE.out HON.out (by omega) hzz ?_; intro v3 w3 ho3 hb3 hg3; obtain ⟨A3, c3, rfl, _, _, _, _, _⟩ := own_val ho3; obtain ⟨q1, q2, q3, q4⟩ := HFIN.out _ w3 ho3 hb3 hg3; have HQ3 := Lib.hid q3; have HQ4 := Lib.hid q4; clear q3 q4 ho3 hb3 hg3 e22 f22 e2 f2)
    go_ret2
    exact ⟨Au, cu, rfl, HQ3.out, HQ4.out⟩

end Go.Proofs.Ytbffaaljommoeaa
