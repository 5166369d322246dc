/-
  'CommitteeEnough': for every input the law returns true, and its argument reads as it did. 
-/
import Derived.Test.YtoiofpmhniolnaaAsk
namespace Go.Proofs.Ytoiofpmhniolnaa
open Go.RowKit Go.ChangeShapes Go.WideShapes Go.ChangeAt

set_option maxRecDepth 100000 in
set_option maxHeartbeats 4000000 in
theorem committeeEnough_walk (a : Option Addr) (len cap : Nat) (w : World) (ha : Asks w a len cap) :
    Calls Try.prog 4 #[.slice a len cap] w fun e w' => e = .returned (.bool true) ∧ Below w.heap.size w w' := by
  obtain ⟨hl, hm, hi⟩ := ha
  unfold maxLen at hm
  have HI := Lib.hid hi
  clear hi
  go_enter Try.func4, Try.ntmps4
  go_wp2_with fail
  go_loopw [3] (fun i wr => ∃ k : Nat, i = .int .i64 k ∧ k ≤ len ∧ k ≤ 30 ∧ Below w.heap.size w wr) (fun i _ => 30 - (intOf i).toNat)
  case atStart => exact ⟨0, rfl, by omega, by omega, Below.refl _ _⟩
  case round =>
    obtain ⟨k, rfl, hk, hkm, hb⟩ := hrel
    by_cases hlt : k < len
    · by_cases hmo : k < 30
      · have i0 : (0 : Int) ≤ (k : Int) := by omega
        have i1 : (k : Int) < (len : Int) := by omega
        have i2 : (k : Int) < 30 := by omega
        obtain ⟨b, off, ⟨N, R, AL, cL, L⟩, nL, rfl, (hnL : L.length = nL), hA⟩ := (HI.out k hlt).all
        have HA := Lib.hid hA
        have HNL := Lib.hid hnL
        clear hA hnL
        obtain ⟨ok, c0, c1, c2⟩ := HA.out _ hb
        try simp only at c0 c1 c2
        obtain ⟨w1, hw1⟩ : ∃ w1, w1 = wr.alloc (.cells #[.int .i64 N, .int .i64 R, .slice AL nL cL] 25) := ⟨_, rfl⟩
        have HP := Lib.hid (box_cells hw1)
        have hb1 : Below w.heap.size w w1 := by rw [hw1]; exact hb.alloc hb.size _
        go_wp2_with fail
        rw [← hw1]
        have hs1 := hb1.size
        obtain ⟨q0, q1, q2⟩ := HP.out _ (Below.refl _ _)
        clear hw1 ok c0 c1 c2
        cases hhv : decide (300 < nL) with
        | true =>
          have HV := Lib.hid hhv
          clear hhv
          go_wp2_with fail
          refine (heavy_any N R AL nL cL _ _ HV.out).mono ?_
          rintro e w2 ⟨rfl, hx2⟩
          go_wp2_with fail
          go_ret
          exact ⟨rfl, Below.up hb1 hs1 hx2⟩
        | false =>
          have hn : nL ≤ 300 := by simpa using hhv
          have HV := Lib.hid hhv
          clear hhv
          go_wp2_with fail
          refine (heavy_any N R AL nL cL _ _ HV.out).mono ?_
          rintro e w2 ⟨rfl, hx2⟩
          clear q0 q1 q2
          obtain ⟨q0, q1, q2⟩ := HP.out _ hx2
          go_wp2_with fail
          refine (copyNumbers_any AL cL nL L _ HNL.out ((HA.out _ (Below.up hb1 hs1 hx2)).1.rL) (HNL.out ▸ (HA.out _ (Below.up hb1 hs1 hx2)).1.hL) (by omega)).mono ?_
          rintro e w3 ⟨v3, rfl, ho3, hc3⟩
          have hx3 := hx2.trans (hc3.mono hx2.size)
          have ho3b := own_cast ho3 ((i64s_length L).trans HNL.out)
          obtain ⟨A3, d3, rfl, hd3, _, hr3, _, hl3⟩ := own_val ho3b
          clear hl3 ho3 ho3b hc3
          clear q0 q1 q2
          obtain ⟨q0, q1, q2⟩ := HP.out _ hx3
          cases hmay : may N with
          | false =>
            have HM := Lib.hid hmay
            clear hmay
            go_wp2_with fail
            refine (rmay_no N HM.out _).mono ?_
            rintro e w' ⟨rfl, rfl⟩
            go_wp2_with fail
            refine (enough_no N A3 d3 nL _ HM.out).mono ?_
            rintro e w' ⟨rfl, rfl⟩
            go_wp2_with fail
            refine (some_no N A3 d3 nL _ HM.out).mono ?_
            rintro e w' ⟨rfl, rfl⟩
            go_wp2_with fail
            refine (num_any _ _).mono ?_
            rintro e w' ⟨rfl, rfl⟩
            go_wp2_with fail
            refine (num_any _ _).mono ?_
            rintro e w' ⟨rfl, rfl⟩
            go_wp2_with fail
            refine (num_any _ _).mono ?_
            rintro e w' ⟨rfl, rfl⟩
            go_wp2_with fail
            refine (num_any _ _).mono ?_
            rintro e w' ⟨rfl, rfl⟩
            go_wp2_with fail
            refine (eqNumbers_same A3 AL d3 cL nL L _ HNL.out hr3 ((HA.out _ (Below.up hb1 hs1 hx3)).1.rL) (by omega)).mono ?_
            rintro e w' ⟨rfl, dq, rfl⟩
            go_wp2_with fail
            go_quiet (fail)
            go_wp2_with fail
            go_roundw
            case rel => exact ⟨k + 1, by go_num, by omega, by omega, below_n (Below.up hb1 hs1 hx3) _⟩
            case measure => simp [intOf]; omega
          | true =>
            have HM := Lib.hid hmay
            clear hmay
            obtain ⟨t, ht⟩ : ∃ t, tal N L = t := ⟨_, rfl⟩
            have HT := Lib.hid ht
            clear ht
            obtain ⟨m1, m2, _⟩ := may_yes HM.out
            have u0 : 0 ≤ N / 3 := by omega
            have u1 : N / 3 ≤ 5 := by omega
            go_wp2_with fail
            refine (rmay_yes N HM.out _).mono ?_
            rintro e w' ⟨rfl, rfl⟩
            by_cases hq : 2 * (N / 3) + 1 ≤ (t : Int)
            · have hf : N / 3 + 1 ≤ (t : Int) := by omega
              go_wp2_with fail
              refine (enough_is true N A3 d3 nL t L _ HT.out (by simp; omega) HM.out HNL.out hr3 (by omega)).mono ?_
              rintro e w4 ⟨rfl, hc4⟩
              have hx4 := hx3.trans (hc4.mono hx3.size)
              have hr4 := hr3.below hc4
              clear hc4 hr3 hx3
              clear q0 q1 q2
              obtain ⟨q0, q1, q2⟩ := HP.out _ hx4
              go_wp2_with fail
              refine (some_is true N A3 d3 nL t L _ HT.out (by simp; omega) HM.out HNL.out hr4 (by omega)).mono ?_
              rintro e w5 ⟨rfl, hc5⟩
              have hx5 := hx4.trans (hc5.mono hx4.size)
              have hr5 := hr4.below hc5
              clear hc5 hr4 hx4
              clear q0 q1 q2
              obtain ⟨q0, q1, q2⟩ := HP.out _ hx5
              go_wp2_with fail
              refine (num_any _ _).mono ?_
              rintro e w' ⟨rfl, rfl⟩
              go_wp2_with fail
              refine (num_any _ _).mono ?_
              rintro e w' ⟨rfl, rfl⟩
              go_wp2_with fail
              refine (eqNumbers_same A3 AL d3 cL nL L _ HNL.out hr5 ((HA.out _ (Below.up hb1 hs1 hx5)).1.rL) (by omega)).mono ?_
              rintro e w' ⟨rfl, dq, rfl⟩
              obtain ⟨w6, hw6⟩ : ∃ w6, w6 = w5.drewN dq := ⟨_, rfl⟩
              have hx6 : Below w1.heap.size w1 w6 := by rw [hw6]; exact below_n hx5 dq
              go_wp2_with fail
              rw [← hw6]
              clear hw6 hx5 hr5
              clear q0 q1 q2
              obtain ⟨q0, q1, q2⟩ := HP.out _ hx6
              have hr6 := (HA.out _ (Below.up hb1 hs1 hx6)).1.rL
              simp only at hr6
              have HR6 := Lib.hid hr6
              clear hr6
              go_quiet ((first | (go_at_call 25; exact quiet_left (count_is N AL cL nL t L _ HT.out HM.out HNL.out (HR6.out.drewN _) (by omega))) | (go_at_call 17; exact quiet_left (rquorum_yes N HM.out _)) | (go_at_call 18; exact quiet_left (rfew_yes N HM.out _))))
              go_wp2_with fail
              go_roundw
              case rel => exact ⟨k + 1, by go_num, by omega, by omega, below_n (Below.up hb1 hs1 hx6) _⟩
              case measure => simp [intOf]; omega
            · by_cases hf : N / 3 + 1 ≤ (t : Int)
              · have hqd : decide (2 * (N / 3) + 1 ≤ (t : Int)) = false := by simp; omega
                go_wp2_with fail
                refine (enough_is false N A3 d3 nL t L _ HT.out (by simp; omega) HM.out HNL.out hr3 (by omega)).mono ?_
                rintro e w4 ⟨rfl, hc4⟩
                have hx4 := hx3.trans (hc4.mono hx3.size)
                have hr4 := hr3.below hc4
                clear hc4 hr3 hx3
                clear q0 q1 q2
                obtain ⟨q0, q1, q2⟩ := HP.out _ hx4
                go_wp2_with fail
                refine (some_is true N A3 d3 nL t L _ HT.out (by simp; omega) HM.out HNL.out hr4 (by omega)).mono ?_
                rintro e w5 ⟨rfl, hc5⟩
                have hx5 := hx4.trans (hc5.mono hx4.size)
                have hr5 := hr4.below hc5
                clear hc5 hr4 hx4
                clear q0 q1 q2
                obtain ⟨q0, q1, q2⟩ := HP.out _ hx5
                go_wp2_with fail
                refine (num_any _ _).mono ?_
                rintro e w' ⟨rfl, rfl⟩
                go_wp2_with fail
                refine (num_any _ _).mono ?_
                rintro e w' ⟨rfl, rfl⟩
                go_wp2_with fail
                refine (eqNumbers_same A3 AL d3 cL nL L _ HNL.out hr5 ((HA.out _ (Below.up hb1 hs1 hx5)).1.rL) (by omega)).mono ?_
                rintro e w' ⟨rfl, dq, rfl⟩
                obtain ⟨w6, hw6⟩ : ∃ w6, w6 = w5.drewN dq := ⟨_, rfl⟩
                have hx6 : Below w1.heap.size w1 w6 := by rw [hw6]; exact below_n hx5 dq
                go_wp2_with fail
                rw [← hw6]
                clear hw6 hx5 hr5
                clear q0 q1 q2
                obtain ⟨q0, q1, q2⟩ := HP.out _ hx6
                have hr6 := (HA.out _ (Below.up hb1 hs1 hx6)).1.rL
                simp only at hr6
                have HR6 := Lib.hid hr6
                clear hr6
                go_quiet ((first | (go_at_call 25; exact quiet_left (count_is N AL cL nL t L _ HT.out HM.out HNL.out (HR6.out.drewN _) (by omega))) | (go_at_call 17; exact quiet_left (rquorum_yes N HM.out _)) | (go_at_call 18; exact quiet_left (rfew_yes N HM.out _))))
                go_wp2_with fail
                go_roundw
                case rel => exact ⟨k + 1, by go_num, by omega, by omega, below_n (Below.up hb1 hs1 hx6) _⟩
                case measure => simp [intOf]; omega
              · have hqd : decide (2 * (N / 3) + 1 ≤ (t : Int)) = false := by simp; omega
                have hfd : decide (N / 3 + 1 ≤ (t : Int)) = false := by simp; omega
                go_wp2_with fail
                refine (enough_is false N A3 d3 nL t L _ HT.out (by simp; omega) HM.out HNL.out hr3 (by omega)).mono ?_
                rintro e w4 ⟨rfl, hc4⟩
                have hx4 := hx3.trans (hc4.mono hx3.size)
                have hr4 := hr3.below hc4
                clear hc4 hr3 hx3
                clear q0 q1 q2
                obtain ⟨q0, q1, q2⟩ := HP.out _ hx4
                go_wp2_with fail
                refine (some_is false N A3 d3 nL t L _ HT.out (by simp; omega) HM.out HNL.out hr4 (by omega)).mono ?_
                rintro e w5 ⟨rfl, hc5⟩
                have hx5 := hx4.trans (hc5.mono hx4.size)
                have hr5 := hr4.below hc5
                clear hc5 hr4 hx4
                clear q0 q1 q2
                obtain ⟨q0, q1, q2⟩ := HP.out _ hx5
                go_wp2_with fail
                refine (num_any _ _).mono ?_
                rintro e w' ⟨rfl, rfl⟩
                go_wp2_with fail
                refine (num_any _ _).mono ?_
                rintro e w' ⟨rfl, rfl⟩
                go_wp2_with fail
                refine (eqNumbers_same A3 AL d3 cL nL L _ HNL.out hr5 ((HA.out _ (Below.up hb1 hs1 hx5)).1.rL) (by omega)).mono ?_
                rintro e w' ⟨rfl, dq, rfl⟩
                obtain ⟨w6, hw6⟩ : ∃ w6, w6 = w5.drewN dq := ⟨_, rfl⟩
                have hx6 : Below w1.heap.size w1 w6 := by rw [hw6]; exact below_n hx5 dq
                go_wp2_with fail
                rw [← hw6]
                clear hw6 hx5 hr5
                clear q0 q1 q2
                obtain ⟨q0, q1, q2⟩ := HP.out _ hx6
                have hr6 := (HA.out _ (Below.up hb1 hs1 hx6)).1.rL
                simp only at hr6
                have HR6 := Lib.hid hr6
                clear hr6
                go_quiet ((first | (go_at_call 25; exact quiet_left (count_is N AL cL nL t L _ HT.out HM.out HNL.out (HR6.out.drewN _) (by omega))) | (go_at_call 17; exact quiet_left (rquorum_yes N HM.out _)) | (go_at_call 18; exact quiet_left (rfew_yes N HM.out _))))
                go_wp2_with fail
                go_roundw
                case rel => exact ⟨k + 1, by go_num, by omega, by omega, below_n (Below.up hb1 hs1 hx6) _⟩
                case measure => simp [intOf]; omega
      · have i1 : (k : Int) < (len : Int) := by omega
        have i2 : ¬ ((k : Int) < 30) := by omega
        go_wp2_with fail
        refine (wakes_any _).mono ?_
        rintro e w' ⟨rfl, rfl⟩
        go_wp2_with fail
        go_ret
        exact ⟨rfl, hb⟩
    · have i1 : ¬ ((k : Int) < (len : Int)) := by omega
      go_wp2_with fail
      refine (wakes_any _).mono ?_
      rintro e w' ⟨rfl, rfl⟩
      go_wp2_with fail
      go_ret
      exact ⟨rfl, hb⟩

set_option maxRecDepth 100000 in
theorem committeeEnough_lifted (os : Os) (started : os.Started) (H : Type) (enc : TypeId × Value → H) :
    ReturnsInHanded {} Try.checked os 4 .any (Rows.committeeEnoughSpec.pre6 enc Try.prog Try.f4 Rows.committeeEnoughRow.domain false) (Rows.committeeEnoughSpec.post enc Try.prog Try.f4 false true false false) := by
  refine returnsInHanded_of_change (C := Try.checked) (by kernel_rfl) started (by kernel_rfl) Try.func4
    (ChangeSpec.witness6 (enc := enc) (C := Try.checked) false ⟨#[], #[.slice none 0 0], []⟩ 8 (by kernel_rfl) (by kernel_rfl) (by kernel_rfl) (by kernel_rfl)) ?_
  intro W base args ds gs before hval0 hW hcnd _
  have hval : ∀ (j : Nat) t v, Try.f4.params[j]? = some t → args[j]? = some v → Value.okWide Try.prog W .any base t v := hval0
  have hW' := hW
  obtain ⟨p, q, hA0, hV, rfl, hfz, hnd⟩ := hW
  have hA : DataW.TrodAll enc Try.prog W 0 (fun _ => true) true Try.f4.params.toList args.toList ds p := hA0
  rw [Try.params4] at hA hval
  obtain ⟨v0, d0, rfl, rfl, h0⟩ := trodAll_one hA
  obtain ⟨rfl, rfl⟩ := trodVars_none hV
  obtain ⟨a0, len, cap, rfl⟩ := okWide_slice Try.underlying22 (hval 0 22 v0 rfl rfl)
  have k0 := h0
  have lt0 : ∀ x ∈ p, x.block < W.heap.size := by obtain ⟨m, hm⟩ := k0; exact DataW.trod_lt m _ _ _ hm
  obtain ⟨fuel, hf⟩ := h0
  clear hA0 hval0
  refine (committeeEnough_walk a0 len cap W (open_asks hf)).mono fun e W' ⟨he, bel⟩ => ?_
  subst he
  exact ⟨_, rfl, _, _, _, [], _, [], hW', trodAll_mk1 (shut_bool Try.underlying4 _), trodAll_mk1 (Below.trod (by kernel_rfl) (by kernel_rfl) (of_decide_eq_true (by kernel_rfl)) k0 bel lt0), rfl, bel.frame _, fun h => by cases h⟩

theorem committeeEnough_holds : Rows.CommitteeEnoughSaid :=
  OpenClaim.holds_of_wide 4 Try.f4 rfl rfl rfl rfl rfl rfl rfl ⟨rfl, rfl, rfl, rfl, rfl⟩ rfl rfl rfl rfl rfl (by kernel_rfl) Try.func4 (by kernel_rfl)
    (of_decide_eq_true (by kernel_rfl)) (by unfold Func.isWrapper; first | (rw [if_pos (by decide +kernel)]; kernel_rfl) | (rw [if_neg (by decide +kernel)]; exact ⟨rfl, rfl⟩))
    (fun os started H enc _ => committeeEnough_lifted os started H enc)

end Go.Proofs.Ytoiofpmhniolnaa
