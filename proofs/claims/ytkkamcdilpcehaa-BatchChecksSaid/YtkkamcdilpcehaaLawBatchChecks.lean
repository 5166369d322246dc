/-
  The walk of 'BatchChecks', out of what it asks of package batch.
-/
import Derived.Test.YtkkamcdilpcehaaBWakes
namespace Go.Proofs.Ytkkamcdilpcehaa
open Go.RowKit

set_option maxRecDepth 100000 in
set_option maxHeartbeats 8000000 in
theorem batchChecks_walk (K : BContracts) (a : Option Addr) (len cap : Nat) (w : World) (ha : BAsks w a len cap) :
    Calls Try.prog 3 #[.slice a len cap] w fun e w' => e = .returned (.bool true) ∧ Below w.heap.size w w' := by
  obtain ⟨hl, hm, hi⟩ := ha
  unfold maxLen at hm
  have HI := Lib.hid hi
  clear hi
  go_enter Try.func3, Try.ntmps3
  go_wp2_with fail
  go_loopw [3] (fun i wr => ∃ k : Nat, i = .int .i64 k ∧ k ≤ len ∧ k ≤ 8 ∧ Below w.heap.size w wr) (fun i _ => 8 - (intOf i).toNat)
  case atStart => exact ⟨0, rfl, by omega, by omega, Below.refl _ _⟩
  case round =>
    obtain ⟨k, rfl, hk, hkm, hb⟩ := hrel
    by_cases hlt : k < len
    · by_cases hmo : k < 8
      · have i0 : (0 : Int) ≤ (k : Int) := by omega
        have i1 : (k : Int) < (len : Int) := by omega
        have i2 : (k : Int) < 8 := by omega
        obtain ⟨b, off, ⟨ba, N, TA, cT, L, XA, cX, X⟩, nT, nX, rfl, (hnT : L.length = nT), (hnX : X.length = nX), hA⟩ := (HI.out k hlt).all
        have HA := Lib.hid hA
        have HNT := Lib.hid hnT
        have HNX := Lib.hid hnX
        clear hA hnT hnX
        have hTc : nT ≤ cT := by have := (HA.out _ hb).1.hT; have := HNT.out; simp only at *; omega
        have hTm : cT ≤ maxLen := (HA.out _ hb).1.mT
        have hXc : nX ≤ cX := by have := (HA.out _ hb).1.hX; have := HNX.out; simp only at *; omega
        have hXm : cX ≤ maxLen := (HA.out _ hb).1.mX
        obtain ⟨ok, c0, c1, c2, c3⟩ := HA.out _ hb
        try simp only at c0 c1 c2 c3
        go_wp2_with fail
        refine (bheavy_any ba N TA cT nT L XA cX nX _ HNT.out ok.rT ok.sT hTc hTm).mono ?_
        rintro e w1 ⟨hv, rfl, hq1, hlight⟩
        have HLI := Lib.hid hlight
        have hb1 := hb.trans (hq1.mono hb.size)
        clear hlight c0 c1 c2 c3 ok hq1 hb
        cases hv with
        | true =>
          go_wp2_with fail
          go_ret
          exact ⟨rfl, hb1⟩
        | false =>
          obtain ⟨hnT5, hnX5⟩ := HLI.out rfl
          have hnT9 : nT ≤ 5000 := by omega
          clear HLI
          go_wp2_with fail
          go_loopw [4] (fun v wz => ∃ q : Nat, v = .int .i64 q ∧ q ≤ nT ∧ Below w.heap.size w wz) (fun v _ => nT - (intOf v).toNat)
          case atStart => exact ⟨0, rfl, by omega, hb1⟩
          case round =>
            obtain ⟨q, rfl, hqn, hbz⟩ := hrel
            clear hb1
            obtain ⟨ok, c0, c1, c2, c3⟩ := HA.out _ hbz
            try simp only at c0 c1 c2 c3
            have iq0 : (0 : Int) ≤ (q : Int) := by omega
            by_cases hql : q < nT
            · have iq : (q : Int) < (nT : Int) := by omega
              obtain ⟨b2, off2, ⟨ts, tq, tk, tv⟩, rfl, hbl, hat, e0, e1, e2, e3⟩ := ok.rT.tx (i := q) (by rw [HNT.out]; exact hql)
              simp only at e0 e1 e2 e3
              have HC : Hid (∀ wX, Below wr.heap.size wr wX → wX.cell? ⟨b2, off2 + q * 4, none⟩ = some (.int .i64 ts) ∧ wX.cell? ⟨b2, off2 + q * 4 + 1, none⟩ = some (.int .i64 tq) ∧ wX.cell? ⟨b2, off2 + q * 4 + 2, none⟩ = some (.string tk) ∧ wX.cell? ⟨b2, off2 + q * 4 + 3, none⟩ = some (.string tv)) :=
                fun wX h => ⟨(h.cell (p := ⟨b2, _, none⟩) hbl).trans e0, (h.cell (p := ⟨b2, _, none⟩) hbl).trans e1, (h.cell (p := ⟨b2, _, none⟩) hbl).trans e2, (h.cell (p := ⟨b2, _, none⟩) hbl).trans e3⟩
              clear hat ok c0 c1 c3
              cases ht : txB ⟨ts, tq, tk, tv⟩ with
              | true =>
                have HT := Lib.hid ht
                clear ht
                go_wp2_with fail
                go_region_held3 (fun w' => w'.cell? ⟨b, off + k * 4 + 2, none⟩ = some (.slice (some ⟨b2, off2, none⟩) nT cT) ∧ w'.cell? ⟨b2, off2 + q * 4, none⟩ = some (.int .i64 ts) ∧ w'.cell? ⟨b2, off2 + q * 4 + 1, none⟩ = some (.int .i64 tq) ∧ w'.cell? ⟨b2, off2 + q * 4 + 2, none⟩ = some (.string tk) ∧ w'.cell? ⟨b2, off2 + q * 4 + 3, none⟩ = some (.string tv))
                  (first | assumption | go_keep)
                  (first
                    | (go_at_call 10; refine (num_any _ _).mono ?_; rintro e w' ⟨rfl, rfl⟩)
                    | (go_at_call 11; refine (K.tx_yes ⟨ts, tq, tk, tv⟩ _ HT.out).mono ?_; rintro e w2 ⟨rfl, hq2⟩; have hb2 : Below w.heap.size w w2 := (by first | exact hbz.trans (hq2.mono hbz.size) | exact hbz.drew.trans (hq2.mono hbz.size)); have hx2 : Below wr.heap.size wr w2 := (by first | exact hq2 | exact ((Below.refl _ _).drew).trans hq2); have hS2 := And.intro (HA.out _ hb2).2.2.2.1 (HC.out _ hx2))
                    | (go_at_call 12; refine (rtx_is true ⟨ts, tq, tk, tv⟩ HT.out _).mono ?_; rintro e w3 ⟨rfl, hq3⟩; have hb3 : Below w.heap.size w w3 := (by first | exact hb2.trans (hq3.mono hb2.size) | exact hb2.drew.trans (hq3.mono hb2.size) | exact (below_n hb2 _).trans (hq3.mono hb2.size)); have hx3 : Below wr.heap.size wr w3 := (by first | exact hx2.trans (hq3.mono hx2.size) | exact hx2.drew.trans (hq3.mono hx2.size) | exact (below_n hx2 _).trans (hq3.mono hx2.size)); have hS3 := And.intro (HA.out _ hb3).2.2.2.1 (HC.out _ hx3)))
                go_wp2_with fail
                go_roundw
                case rel => exact ⟨q + 1, by go_num, by omega, hb3⟩
                case measure => simp [intOf]; omega
              | false =>
                have HT := Lib.hid ht
                clear ht
                go_wp2_with fail
                go_region_held3 (fun w' => w'.cell? ⟨b, off + k * 4 + 2, none⟩ = some (.slice (some ⟨b2, off2, none⟩) nT cT) ∧ w'.cell? ⟨b2, off2 + q * 4, none⟩ = some (.int .i64 ts) ∧ w'.cell? ⟨b2, off2 + q * 4 + 1, none⟩ = some (.int .i64 tq) ∧ w'.cell? ⟨b2, off2 + q * 4 + 2, none⟩ = some (.string tk) ∧ w'.cell? ⟨b2, off2 + q * 4 + 3, none⟩ = some (.string tv))
                  (first | assumption | go_keep)
                  (first
                    | (go_at_call 10; refine (num_any _ _).mono ?_; rintro e w' ⟨rfl, rfl⟩)
                    | (go_at_call 11; refine (K.tx_no ⟨ts, tq, tk, tv⟩ _ HT.out).mono ?_; rintro e w2 ⟨rfl, hq2⟩; have hb2 : Below w.heap.size w w2 := (by first | exact hbz.trans (hq2.mono hbz.size) | exact hbz.drew.trans (hq2.mono hbz.size)); have hx2 : Below wr.heap.size wr w2 := (by first | exact hq2 | exact ((Below.refl _ _).drew).trans hq2); have hS2 := And.intro (HA.out _ hb2).2.2.2.1 (HC.out _ hx2))
                    | (go_at_call 12; refine (rtx_is false ⟨ts, tq, tk, tv⟩ HT.out _).mono ?_; rintro e w3 ⟨rfl, hq3⟩; have hb3 : Below w.heap.size w w3 := (by first | exact hb2.trans (hq3.mono hb2.size) | exact hb2.drew.trans (hq3.mono hb2.size) | exact (below_n hb2 _).trans (hq3.mono hb2.size)); have hx3 : Below wr.heap.size wr w3 := (by first | exact hx2.trans (hq3.mono hx2.size) | exact hx2.drew.trans (hq3.mono hx2.size) | exact (below_n hx2 _).trans (hq3.mono hx2.size)); have hS3 := And.intro (HA.out _ hb3).2.2.2.1 (HC.out _ hx3)))
                go_wp2_with fail
                go_roundw
                case rel => exact ⟨q + 1, by go_num, by omega, hb3⟩
                case measure => simp [intOf]; omega
            · have iq : ¬ ((q : Int) < (nT : Int)) := by omega
              go_wp2_with fail
              refine (copyBatch_any ba N TA cT nT L _ HNT.out ok.rT hTc (by omega)).mono ?_
              rintro e w2 ⟨A2, d2, rfl, ho2, hq2⟩
              have hb2 := hbz.trans (hq2.mono hbz.size)
              clear hq2 hbz ok c0 c1 c2 c3
              obtain ⟨wb, hwb⟩ : ∃ wb, wb = w2.alloc (.cells #[.int .i64 ba, .int .i64 N, .slice A2 nT d2] 26) := ⟨_, rfl⟩
              have HPB := Lib.hid (box_three hwb)
              have hbb : Below w.heap.size w wb := by rw [hwb]; exact hb2.alloc hb2.size _
              have hob := ho2.alloc (.cells #[.int .i64 ba, .int .i64 N, .slice A2 nT d2] 26)
              rw [← hwb] at hob
              obtain ⟨_, _, hv2, hc2, hm2, hr2, _, _⟩ := ownS_slice hob
              cases hv2
              have HR2 : Hid (∀ wX, Below wb.heap.size wb wX → Rd wX A2 (txs L)) := fun wX h => hr2.below h
              obtain ⟨q0, q1, q2⟩ := HPB.out _ (Below.refl _ _)
              rw [hwb] at q0 q1 q2
              clear hob ho2
              cases hv : batB ba N L with
              | true =>
                have HV := Lib.hid hv
                clear hv
                go_wp2_with fail
                rw [← hwb]
                clear hwb q0 q1 q2
                refine (K.check_yes ba N A2 d2 nT L _ HV.out HNT.out hr2 hc2 hm2).mono ?_
                rintro e w3 ⟨rfl, hq3⟩
                have hb3 := hbb.trans (hq3.mono hbb.size)
                have hx3 := hq3
                clear hq3 hbb hr2
                go_wp2_with fail
                refine (num_any _ _).mono ?_
                rintro e w' ⟨rfl, rfl⟩
                obtain ⟨ok, c0, c1, c2, c3⟩ := HA.out _ hb3
                try simp only at c0 c1 c2 c3
                obtain ⟨q0, q1, q2⟩ := HPB.out _ hx3
                have HRT := Lib.hid ok.rT
                clear ok c3
                go_wp2_with fail
                first
                  | (go_region_with (first
                      | (go_at_call 15; refine (rbatch_is true ba N TA cT nT L _ HV.out HNT.out (by first | exact HRT.out | exact HRT.out.drew | exact HRT.out.drewN _)).mono ?_; rintro e w4 ⟨rfl, hq4⟩; have hb4 : Below w.heap.size w w4 := (by first | exact hb3.trans (hq4.mono hb3.size) | exact hb3.drew.trans (hq4.mono hb3.size)); have hx4 : Below wb.heap.size wb w4 := (by first | exact hx3.trans (hq4.mono hx3.size) | exact hx3.drew.trans (hq4.mono hx3.size)); have hS4 := And.intro (HA.out _ hb4).2.1 (And.intro (HA.out _ hb4).2.2.1 (And.intro (HA.out _ hb4).2.2.2.1 (HPB.out _ hx4))); obtain ⟨s0, s1, s2, s3, s4, s5⟩ := hS4)
                      | (go_at_call 16; refine (eqBatch_same ba N A2 TA d2 cT nT L _ HNT.out (by first | exact HR2.out _ hx4 | exact HR2.out _ hx4.drew | exact HR2.out _ (below_n hx4 _)) (by first | exact (HA.out _ hb4).1.rT | exact (HA.out _ hb4.drew).1.rT | exact (HA.out _ (below_n hb4 _)).1.rT) (by omega)).mono ?_; rintro e w5 ⟨rfl, hq5⟩; have hb5 : Below w.heap.size w w5 := (by first | exact hb4.trans (hq5.mono hb4.size) | exact hb4.drew.trans (hq5.mono hb4.size) | exact (below_n hb4 _).trans (hq5.mono hb4.size)))))
                  | fail
                all_goals
                  go_wp2_with fail
                  go_roundw
                  case rel => exact ⟨k + 1, by go_num, by omega, by omega, hb5⟩
                  case measure => simp [intOf]; omega
              | false =>
                have HV := Lib.hid hv
                clear hv
                go_wp2_with fail
                rw [← hwb]
                clear hwb q0 q1 q2
                refine (K.check_no ba N A2 d2 nT L _ HV.out HNT.out hr2 hc2 hm2).mono ?_
                rintro e w3 ⟨rfl, hq3⟩
                have hb3 := hbb.trans (hq3.mono hbb.size)
                have hx3 := hq3
                clear hq3 hbb hr2
                go_wp2_with fail
                refine (num_any _ _).mono ?_
                rintro e w' ⟨rfl, rfl⟩
                obtain ⟨ok, c0, c1, c2, c3⟩ := HA.out _ hb3
                try simp only at c0 c1 c2 c3
                obtain ⟨q0, q1, q2⟩ := HPB.out _ hx3
                have HRT := Lib.hid ok.rT
                clear ok c3
                go_wp2_with fail
                go_region_held3 (fun w' => w'.cell? ⟨b, off + k * 4, none⟩ = some (.int .i64 ba) ∧ w'.cell? ⟨b, off + k * 4 + 1, none⟩ = some (.int .i64 N) ∧ w'.cell? ⟨b, off + k * 4 + 2, none⟩ = some (.slice TA nT cT) ∧ w'.cell? ⟨w2.heap.size, 0, none⟩ = some (.int .i64 ba) ∧ w'.cell? ⟨w2.heap.size, 1, none⟩ = some (.int .i64 N) ∧ w'.cell? ⟨w2.heap.size, 2, none⟩ = some (.slice A2 nT d2))
                  (first | assumption | go_keep)
                  (first
                    | (go_at_call 15; refine (rbatch_is false ba N TA cT nT L _ HV.out HNT.out (by first | exact HRT.out | exact HRT.out.drew | exact HRT.out.drewN _)).mono ?_; rintro e w4 ⟨rfl, hq4⟩; have hb4 : Below w.heap.size w w4 := (by first | exact hb3.trans (hq4.mono hb3.size) | exact hb3.drew.trans (hq4.mono hb3.size)); have hx4 : Below wb.heap.size wb w4 := (by first | exact hx3.trans (hq4.mono hx3.size) | exact hx3.drew.trans (hq4.mono hx3.size)); have hS4 := And.intro (HA.out _ hb4).2.1 (And.intro (HA.out _ hb4).2.2.1 (And.intro (HA.out _ hb4).2.2.2.1 (HPB.out _ hx4))))
                    | (go_at_call 16; refine (eqBatch_same ba N A2 TA d2 cT nT L _ HNT.out (by first | exact HR2.out _ hx4 | exact HR2.out _ hx4.drew | exact HR2.out _ (below_n hx4 _)) (by first | exact (HA.out _ hb4).1.rT | exact (HA.out _ hb4.drew).1.rT | exact (HA.out _ (below_n hb4 _)).1.rT) (by omega)).mono ?_; rintro e w5 ⟨rfl, hq5⟩; have hb5 : Below w.heap.size w w5 := (by first | exact hb4.trans (hq5.mono hb4.size) | exact hb4.drew.trans (hq5.mono hb4.size) | exact (below_n hb4 _).trans (hq5.mono hb4.size)); have hx5 : Below wb.heap.size wb w5 := (by first | exact hx4.trans (hq5.mono hx4.size) | exact hx4.drew.trans (hq5.mono hx4.size) | exact (below_n hx4 _).trans (hq5.mono hx4.size)); have hS5 := And.intro (HA.out _ hb5).2.1 (And.intro (HA.out _ hb5).2.2.1 (And.intro (HA.out _ hb5).2.2.2.1 (HPB.out _ hx5)))))
                go_wp2_with fail
                go_roundw
                case rel => exact ⟨k + 1, by go_num, by omega, by omega, hb5⟩
                case measure => simp [intOf]; omega
      · have i1 : (k : Int) < (len : Int) := by omega
        have i2 : ¬ ((k : Int) < 8) := by omega
        go_wp2_with fail
        refine (wakes_any K _).mono ?_
        rintro e w' ⟨rfl, hbw⟩
        go_wp2_with fail
        go_ret
        exact ⟨rfl, hb.trans (hbw.mono hb.size)⟩
    · have i1 : ¬ ((k : Int) < (len : Int)) := by omega
      go_wp2_with fail
      refine (wakes_any K _).mono ?_
      rintro e w' ⟨rfl, hbw⟩
      go_wp2_with fail
      go_ret
      exact ⟨rfl, hb.trans (hbw.mono hb.size)⟩

end Go.Proofs.Ytkkamcdilpcehaa
