/-
  What is too heavy to be played.
-/
import Derived.Test.YtejkeccoialogaaYLaw
import Derived.Test.YtejkeccoialogaaYApiA
namespace Go.Proofs.Ytejkeccoialogaa
open Go.RowKit

theorem numY_any (n : Int) (w : World) : Calls Try.prog 16 #[.int .i64 n] w fun e w' => e = .returned (.int .i64 n) ∧ w = w' := by
  go_enter Try.func16, Try.ntmps16
  go_wp2
  go_ret
  exact ⟨rfl, rfl⟩
/-- a weight; if it is small, no list is long -/
def CwTo (ms : List (CrtD × CrtA)) (w : World) (en : Ending) (w' : World) : Prop := ∃ z : Nat, en = .returned (.int .i64 z) ∧ (z ≤ 3000 → ∀ x ∈ ms, x.1.B.length ≤ 3000 ∧ x.1.P.length ≤ 3000 ∧ x.1.S.length ≤ 3000) ∧ Below w.heap.size w w'
set_option maxRecDepth 100000 in
set_option maxHeartbeats 4000000 in
theorem certsW_is (o : Ad) (ms : List (CrtD × CrtA)) (w : World) (h : WkY w o ms) :
    Calls Try.prog 43 #[.slice o.A o.n o.c] w (CwTo ms w) := by
  have hn1 : o.n ≤ 140737488351232 := by rw [← h.row.len]; exact h.fit
  have HL : Hid (ms.length = o.n) := h.row.len
  have hget : ∀ (i : Nat) (x : CrtD × CrtA), ms[i]? = some x → ∃ b off, o.A = some ⟨b, off, none⟩ ∧ b < w.heap.size ∧ (∀ wX, Below w.heap.size w wX → CrtAt wX b off i x.1 x.2) ∧ (x.1.B.length = x.2.B.n ∧ x.1.P.length = x.2.P.n ∧ x.1.S.length = x.2.S.n) ∧ x.2.B.n ≤ 140737488351232 ∧ x.2.P.n ≤ 140737488351232 ∧ x.2.S.n ≤ 140737488351232 := fun i x hx => by
    have hmem := List.mem_of_getElem? hx
    have hl := (List.getElem?_eq_some_iff.1 hx).1
    obtain ⟨b, off, e, hb, hc⟩ := h.row.rd.open_ (by rw [cellsY_length]; omega)
    have key : ∀ wX, Below w.heap.size w wX → ∀ j v, (crtC x.1 x.2)[j]? = some v → wX.cell? ⟨b, off + i * 6 + j, none⟩ = some v := fun wX hw j v hv => by
      rw [Nat.add_assoc]
      exact (hw.cell (p := ⟨b, off + (i * 6 + j), none⟩) hb).trans (hc _ _ (cellsY_at hx hv))
    have hsub := h.sub x hmem
    obtain ⟨b1, b2, b3⟩ := h.big x hmem
    have e1 := hsub.b.len
    have e2 := hsub.p.len
    have e3 := hsub.s.len
    exact ⟨b, off, e, hb, fun wX hw => ⟨key wX hw 0 _ rfl, key wX hw 1 _ rfl, key wX hw 2 _ rfl, key wX hw 3 _ rfl, key wX hw 4 _ rfl, key wX hw 5 _ rfl, hsub.below hw⟩, ⟨e1, e2, e3⟩, by omega, by omega, by omega⟩
  obtain ⟨A, n, c⟩ := o
  simp only at hn1 hget
  have HG := Lib.hid hget
  have HLN : Hid (ms.length = n) := HL.out
  clear hget h HL
  go_enter Try.func43, Try.ntmps43
  go_wp2
  go_loopw [3, 4] (fun z i wr => ∃ q k : Nat, z = .int .i64 q ∧ i = .int .i64 k ∧ k ≤ n ∧ q ≤ 1000000000000000 ∧ Hid (∀ j x, j < k → ms[j]? = some x → x.1.B.length ≤ q ∧ x.1.P.length ≤ q ∧ x.1.S.length ≤ q) ∧ Below w.heap.size w wr) (fun _ i _ => n - (intOf i).toNat)
  case atStart => exact ⟨n, 0, rfl, rfl, by omega, by omega, fun j x hj => absurd hj (Nat.not_lt_zero _), Below.refl _ _⟩
  case round =>
    obtain ⟨q, k, rfl, rfl, hk, hq, HS, hb⟩ := hrel
    by_cases hlt : k < n
    · by_cases hq2 : q < 1048576
      · obtain ⟨x, hx⟩ : ∃ x, ms[k]? = some x := ⟨_, List.getElem?_eq_getElem (by rw [HLN.out]; exact hlt)⟩
        obtain ⟨b, off, rfl, hbl, hce, hls, b1, b2, b3⟩ := HG.out _ _ hx
        obtain ⟨k0, k1, k2, k3, k4, k5, -⟩ := hce _ hb
        have HX := Lib.hid hx
        have HLS := Lib.hid hls
        have i0 : (0 : Int) ≤ (k : Int) := by omega
        have i1 : (k : Int) < (n : Int) := by omega
        have i2 : (q : Int) < 1048576 := by omega
        clear hx hce hls
        go_wp2_with (go_at_call 74; refine (rcw_any x.1.a x.1.r x.2.B.A x.2.B.c x.2.B.n x.2.P.A x.2.P.c x.2.P.n x.1.d x.2.S.A x.2.S.c x.2.S.n _ b1 b2 b3).mono ?_; rintro e w2 ⟨rfl, hb2⟩)
        go_roundw
        case rel =>
          refine ⟨q + (1 + x.2.B.n + x.2.P.n + x.2.S.n), k + 1, ?_, by go_num, by omega, by omega, fun j y hj hy => ?_, hb.trans (hb2.mono hb.size)⟩
          · rw [show (q : Int) + (1 + (x.2.B.n : Int) + (x.2.P.n : Int) + (x.2.S.n : Int)) = ((q + (1 + x.2.B.n + x.2.P.n + x.2.S.n) : Nat) : Int) by omega]
          · rcases Nat.lt_or_ge j k with h3 | h3
            · obtain ⟨l1, l2, l3⟩ := HS.out j y h3 hy
              omega
            · have : j = k := by omega
              subst this
              rw [HX.out] at hy
              cases hy
              obtain ⟨l1, l2, l3⟩ := HLS.out
              omega
        case measure => simp [intOf]; omega
      · have i1 : (k : Int) < (n : Int) := by omega
        have i2 : ¬ ((q : Int) < 1048576) := by omega
        go_wp2_with fail
        go_ret
        exact ⟨q, rfl, (fun h => by omega), hb⟩
    · obtain rfl : k = n := by omega
      have i1 : ¬ ((k : Int) < (k : Int)) := by omega
      clear hlt
      go_wp2_with fail
      go_ret
      refine ⟨q, rfl, fun h x hx => ?_, hb⟩
      obtain ⟨j, hj⟩ := List.mem_iff_getElem?.1 hx
      obtain ⟨l1, l2, l3⟩ := HS.out j x (by have := (List.getElem?_eq_some_iff.1 hj).1; rw [HLN.out] at this; exact this) hj
      omega

def HeavyTo (P : Prop) (w : World) (en : Ending) (w' : World) : Prop := ∃ b, en = .returned (.bool b) ∧ (b = false → P) ∧ Below w.heap.size w w'
set_option maxRecDepth 100000 in
set_option maxHeartbeats 4000000 in
theorem heavyD_is (N L : Int) (o : Ad) (ms : List (CrtD × CrtA)) (w : World) (h : WkY w o ms) :
    Calls Try.prog 42 #[dagV N L o] w (HeavyTo (LightY 80 ms) w) := by
  obtain ⟨w1, hw1⟩ : ∃ w1, w1 = w.alloc (.cells (dagC N L o).toArray 24) := ⟨_, rfl⟩
  obtain ⟨hb1, hsz, hx0⟩ := boxes1 w _ _ hw1
  have HW : Hid (w.alloc (.cells #[.int .i64 N, .int .i64 L, .slice o.A o.n o.c] 24) = w1) := hw1.symm
  have HB := Lib.hid hb1
  have HCW := Lib.hid (certsW_is o ms w1 (h.below hb1))
  have HL : Hid (ms.length = o.n) := h.row.len
  obtain ⟨d0, d1, d2⟩ := dag_cells hx0
  clear hw1 hb1 hsz hx0 h
  unfold dagV
  by_cases h1 : 80 < o.n
  · have i1 : (80 : Int) < (o.n : Int) := by omega
    go_enter Try.func42, Try.ntmps42
    go_upto_region 1 with fail
    rw [HW.out]
    go_wp2_with fail
    go_ret
    exact ⟨true, rfl, (fun h => by cases h), HB.out⟩
  · have i1 : ¬ ((80 : Int) < (o.n : Int)) := by omega
    go_enter Try.func42, Try.ntmps42
    go_upto_region 1 with fail
    rw [HW.out]
    go_wp2_with (go_at_call 43; refine HCW.out.mono ?_; rintro e w2 ⟨z, rfl, hz, hb2⟩)
    go_ret
    refine ⟨decide (3000 < (z : Int)), rfl, fun h => ⟨?_, hz ?_⟩, HB.out.trans (hb2.mono HB.out.size)⟩
    · rw [HL.out]; omega
    · have := of_decide_eq_false h; omega
set_option maxRecDepth 100000 in
set_option maxHeartbeats 8000000 in
theorem heavy_is (q : AskD) (w : World) (h : AskIn w q) : Calls Try.prog 10 #[askV q] w (HeavyTo (LightA q) w) := by
  obtain ⟨w1, hw1⟩ : ∃ w1, w1 = w.alloc (.cells (askC q).toArray 28) := ⟨_, rfl⟩
  obtain ⟨hb1, hsz, hx0⟩ := boxes1 w _ _ hw1
  have HW : Hid (w.alloc (.cells #[.int .i64 q.N, .int .i64 q.L, .slice q.o.A q.o.n q.o.c, .slice q.oc.A q.oc.n q.oc.c, .slice q.oi.A q.oi.n q.oi.c, .slice q.op.A q.op.n q.op.c] 28) = w1) := hw1.symm
  have HB := Lib.hid hb1
  have HH := Lib.hid (heavyD_is q.N q.L q.o q.ms w1 (h.d.below hb1))
  have HCW : Hid (∀ w2, Below w1.heap.size w1 w2 → _) := fun w2 hb2 => certsW_is q.oc q.mc w2 (h.c.below (hb1.trans (hb2.mono hb1.size)))
  have HX := Lib.hid hx0
  have HL : Hid (q.mc.length = q.oc.n ∧ q.zs.length = q.oi.n ∧ q.ps.length = q.op.n) := ⟨h.c.row.len, h.i.len, h.p.len⟩
  have HF : Hid (∀ wX, Below w1.heap.size w1 wX → wX.cell? ⟨w.heap.size, 3, none⟩ = some (.slice q.oc.A q.oc.n q.oc.c) ∧ wX.cell? ⟨w.heap.size, 4, none⟩ = some (.slice q.oi.A q.oi.n q.oi.c) ∧ wX.cell? ⟨w.heap.size, 5, none⟩ = some (.slice q.op.A q.op.n q.op.c)) := fun wX hb => (ask_cells (HX.out.below hb HX.out.1)).2.2.2
  obtain ⟨d0, d1, d2, d3, d4, d5⟩ := ask_cells hx0
  have hyes : ∀ wX, Below w.heap.size w wX → HeavyTo (LightA q) w (.returned (.bool true)) wX := fun wX hb => ⟨true, rfl, (fun h => by cases h), hb⟩
  have HY := Lib.hid hyes
  clear hw1 hb1 hsz hx0 h hyes
  unfold dagV at HH
  unfold askV
  go_enter Try.func10, Try.ntmps10
  go_upto_region 1 with fail
  rw [HW.out]
  have hls := HL.out
  by_cases h1 : 40 < q.oc.n
  all_goals by_cases h2 : 40 < q.oi.n
  all_goals by_cases h3 : 40 < q.op.n
  all_goals
    first | (have i1 : (40 : Int) < (q.oc.n : Int) := by omega) | (have i1 : ¬ ((40 : Int) < (q.oc.n : Int)) := by omega)
    first | (have i2 : (40 : Int) < (q.oi.n : Int) := by omega) | (have i2 : ¬ ((40 : Int) < (q.oi.n : Int)) := by omega)
    first | (have i3 : (40 : Int) < (q.op.n : Int) := by omega) | (have i3 : ¬ ((40 : Int) < (q.op.n : Int)) := by omega)
    go_wp2_with (first
      | (go_at_call 42; refine HH.out.mono ?_; rintro e w2 ⟨b, rfl, hz, hb2⟩; obtain ⟨e3, e4, e5⟩ := HF.out w2 hb2; cases b)
      | (go_at_call 43; refine (HCW.out _ hb2).mono ?_; rintro e w3 ⟨z, rfl, hz3, hb3⟩; have hb13 := hb2.trans (hb3.mono hb2.size); obtain ⟨f3, f4, f5⟩ := HF.out w3 hb13; by_cases h4 : (2000 : Int) < (z : Int)))
    all_goals try go_wp2_with (go_at_call 43; refine (HCW.out _ hb2).mono ?_; rintro e w3 ⟨z, rfl, hz3, hb3⟩; have hb13 := hb2.trans (hb3.mono hb2.size); obtain ⟨f3, f4, f5⟩ := HF.out w3 hb13; by_cases h4 : (2000 : Int) < (z : Int))
    all_goals go_ret
    all_goals first
      | exact HY.out _ (HB.out.trans (hb2.mono HB.out.size))
      | exact HY.out _ (HB.out.trans (hb13.mono HB.out.size))
      | (refine ⟨_, rfl, fun h => ?_, HB.out.trans (hb13.mono HB.out.size)⟩
         simp at h
         first | (exfalso; omega) | exact ⟨hz (by simp), ⟨by omega, hz3 (by omega)⟩, by omega, by omega⟩)
      | (refine ⟨_, rfl, fun h => ?_, HB.out.trans (hb2.mono HB.out.size)⟩
         simp at h
         exfalso
         omega)

end Go.Proofs.Ytejkeccoialogaa
