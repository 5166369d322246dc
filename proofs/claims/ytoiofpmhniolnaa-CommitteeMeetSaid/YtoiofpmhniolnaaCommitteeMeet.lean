/-
  'CommitteeMeet': for every input the law returns true, and its argument reads as it did. 
-/
import Derived.Test.YtoiofpmhniolnaaSets
namespace Go.Proofs.Ytoiofpmhniolnaa
open Go.RowKit Go.ChangeShapes Go.WideShapes Go.ChangeAt

set_option maxRecDepth 100000 in
set_option maxHeartbeats 4000000 in
theorem committeeMeet_walk (a : Option Addr) (len cap : Nat) (w : World) (ha : Asks w a len cap) :
    Calls Try.prog 6 #[.slice a len cap] w fun e w' => e = .returned (.bool true) ∧ Below w.heap.size w w' := by
  obtain ⟨hl, hm, _⟩ := ha
  unfold maxLen at hm
  have hl0 : (0 : Int) ≤ (len : Int) := by omega
  go_enter Try.func6, Try.ntmps6
  go_wp2_with fail
  go_loopw [3] (fun v wr => ∃ m : Nat, v = .int .i64 m ∧ 1 ≤ m ∧ m ≤ 13 ∧ Hid (m % 3 = 1) ∧ Below w.heap.size w wr) (fun v _ => 13 - (intOf v).toNat)
  case atStart => exact ⟨1, rfl, by omega, by omega, rfl, Below.refl _ _⟩
  case round =>
    obtain ⟨m, rfl, h1, h2, h3, hb⟩ := hrel
    by_cases hlt : m ≤ 10
    · have j0 : (m : Int) ≤ 10 := by omega
      have j1 : (1 : Int) ≤ (m : Int) := by omega
      have HM : Hid (may (m : Int) = true) := by
        show may (m : Int) = true
        have := h3.out
        simp only [may, decide_eq_true_eq]
        omega
      obtain ⟨f, hf⟩ : ∃ f, (m : Int) / 3 = f := ⟨_, rfl⟩
      obtain ⟨q, hq⟩ : ∃ q, 2 * ((m : Int) / 3) + 1 = q := ⟨_, rfl⟩
      obtain ⟨v, hv⟩ : ∃ v, (m : Int) / 3 + 1 = v := ⟨_, rfl⟩
      have e1 : ¬ (2 * q - (m : Int) < v) := by have := h3.out; omega
      have e2 : ¬ (v + q ≤ (m : Int)) := by have := h3.out; omega
      have e3 : ¬ (v ≤ f) := by omega
      have e4 : ¬ ((m : Int) - f < q) := by have := h3.out; omega
      have e5 : ((m : Int) != 3 * f + 1) = false := by have := h3.out; simp; omega
      have b0 : 0 ≤ f := by omega
      have b1 : f ≤ 3 := by omega
      have b2 : 1 ≤ q := by omega
      have b3 : q ≤ 7 := by omega
      have b4 : 1 ≤ v := by omega
      have b5 : v ≤ 4 := by omega
      have b6 : v ≤ q := by omega
      have HF := Lib.hid hf
      have HQ := Lib.hid hq
      have HV := Lib.hid hv
      obtain ⟨P, hP⟩ : ∃ P : Nat, P = 2 ^ m := ⟨_, rfl⟩
      have hP2 : P ≤ 1024 := by rw [hP]; exact Nat.pow_le_pow_right (by decide) hlt
      have e0 : wrap64 ((2 : Int) ^ m) = (P : Int) := by
        have : (2 : Int) ^ m = ((2 ^ m : Nat) : Int) := by simp
        rw [this, ← hP]; unfold wrap64; omega
      have HP := Lib.hid hP
      clear hf hq hv hP
      go_wp2_with fail
      refine (faults_is _ f HM.out HF.out _).mono ?_
      rintro e w' ⟨rfl, rfl⟩
      go_wp2_with fail
      refine (quorum_is _ q HM.out HQ.out _).mono ?_
      rintro e w' ⟨rfl, rfl⟩
      go_wp2_with fail
      refine (few_is _ v HM.out HV.out _).mono ?_
      rintro e w' ⟨rfl, rfl⟩
      go_wp2_with fail
      refine (num_any _ _).mono ?_
      rintro e w' ⟨rfl, rfl⟩
      go_wp2_with fail
      refine (num_any _ _).mono ?_
      rintro e w' ⟨rfl, rfl⟩
      go_wp2_with fail
      refine (num_any _ _).mono ?_
      rintro e w' ⟨rfl, rfl⟩
      go_wp2_with fail
      obtain ⟨wo, hwo⟩ : ∃ wo : World, wo = wr := ⟨_, rfl⟩
      rw [← hwo] at hb ⊢
      clear hwo wr
      go_loopw [10] (fun v wr => ∃ a : Nat, v = .int .i64 a ∧ a ≤ 1100 ∧ Below w.heap.size w wr) (fun v _ => 1100 - (intOf v).toNat)
      case atStart => exact ⟨0, rfl, by omega, hb⟩
      case round =>
        obtain ⟨a, rfl, ha1, hbi⟩ := hrel
        clear hb
        by_cases hap : a < P
        · have hai : (a : Int) < (P : Int) := by omega
          have hHT : tal (m : Int) (bitsOf a 16) = (bitsOf a 16).length := tal_bits rfl (by have := HP.out; omega) 16 (by omega)
          have hnl16 := bitsOf_le a 16
          obtain ⟨nl, hnl⟩ : ∃ nl, (bitsOf a 16).length = nl := ⟨_, rfl⟩
          rw [hnl] at hHT hnl16
          have HNL := Lib.hid hnl
          have HTL := Lib.hid hHT
          clear hnl hHT
          go_wp2_with fail
          refine (set_any a _ (by omega)).mono ?_
          rintro e w2 ⟨v2, rfl, ho2, hc2⟩
          have hb2 := hbi.trans (hc2.mono hbi.size)
          have ho2b := own_cast ho2 ((i64s_length _).trans HNL.out)
          obtain ⟨A2, d2, rfl, hd2, _, hr2, _, hl2⟩ := own_val ho2b
          clear hl2 ho2 ho2b hc2 hbi
          by_cases hq : q ≤ (nl : Int)
          · have hf : v ≤ (nl : Int) := by omega
            go_wp2_with fail
            refine (enough_is true _ A2 d2 nl nl _ _ HTL.out (by rw [HQ.out]; simp; omega) HM.out HNL.out hr2 (by omega)).mono ?_
            rintro e w3 ⟨rfl, hc3⟩
            have hb3 := hb2.trans (hc3.mono hb2.size)
            have hr3 := hr2.below hc3
            clear hc3 hr2 hb2
            go_wp2_with fail
            refine (some_is true _ A2 d2 nl nl _ _ HTL.out (by rw [HV.out]; simp; omega) HM.out HNL.out hr3 (by omega)).mono ?_
            rintro e w4 ⟨rfl, hc4⟩
            have hb4 := hb3.trans (hc4.mono hb3.size)
            clear hc4 hb3 hr3
            go_wp2_with fail
            refine (num_any _ _).mono ?_
            rintro e w' ⟨rfl, rfl⟩
            go_wp2_with fail
            refine (num_any _ _).mono ?_
            rintro e w' ⟨rfl, rfl⟩
            go_wp2_with fail
            go_roundw
            case rel => exact ⟨a + 1 + a / 50, by go_num, by omega, hb4⟩
            case measure => simp [intOf]; omega
          · have hqd : decide (q ≤ (nl : Int)) = false := by simp; omega
            by_cases hf : v ≤ (nl : Int)
            · go_wp2_with fail
              refine (enough_is false _ A2 d2 nl nl _ _ HTL.out (by rw [HQ.out]; simp; omega) HM.out HNL.out hr2 (by omega)).mono ?_
              rintro e w3 ⟨rfl, hc3⟩
              have hb3 := hb2.trans (hc3.mono hb2.size)
              have hr3 := hr2.below hc3
              clear hc3 hr2 hb2
              go_wp2_with fail
              refine (some_is true _ A2 d2 nl nl _ _ HTL.out (by rw [HV.out]; simp; omega) HM.out HNL.out hr3 (by omega)).mono ?_
              rintro e w4 ⟨rfl, hc4⟩
              have hb4 := hb3.trans (hc4.mono hb3.size)
              clear hc4 hb3 hr3
              go_wp2_with fail
              refine (num_any _ _).mono ?_
              rintro e w' ⟨rfl, rfl⟩
              go_wp2_with fail
              refine (num_any _ _).mono ?_
              rintro e w' ⟨rfl, rfl⟩
              go_wp2_with fail
              go_roundw
              case rel => exact ⟨a + 1 + a / 50, by go_num, by omega, hb4⟩
              case measure => simp [intOf]; omega
            · have hfd : decide (v ≤ (nl : Int)) = false := by simp; omega
              go_wp2_with fail
              refine (enough_is false _ A2 d2 nl nl _ _ HTL.out (by rw [HQ.out]; simp; omega) HM.out HNL.out hr2 (by omega)).mono ?_
              rintro e w3 ⟨rfl, hc3⟩
              have hb3 := hb2.trans (hc3.mono hb2.size)
              have hr3 := hr2.below hc3
              clear hc3 hr2 hb2
              go_wp2_with fail
              refine (some_is false _ A2 d2 nl nl _ _ HTL.out (by rw [HV.out]; simp; omega) HM.out HNL.out hr3 (by omega)).mono ?_
              rintro e w4 ⟨rfl, hc4⟩
              have hb4 := hb3.trans (hc4.mono hb3.size)
              clear hc4 hb3 hr3
              go_wp2_with fail
              refine (num_any _ _).mono ?_
              rintro e w' ⟨rfl, rfl⟩
              go_wp2_with fail
              refine (num_any _ _).mono ?_
              rintro e w' ⟨rfl, rfl⟩
              go_wp2_with fail
              go_roundw
              case rel => exact ⟨a + 1 + a / 50, by go_num, by omega, hb4⟩
              case measure => simp [intOf]; omega
        · have hai : ¬ ((a : Int) < (P : Int)) := by omega
          go_wp2_with fail
          go_roundw
          case rel => exact ⟨m + 3, by go_num, by omega, by omega, by show (m + 3) % 3 = 1; have := h3.out; omega, hbi⟩
          case measure => simp [intOf]; omega
    · have j0 : ¬ ((m : Int) ≤ 10) := by omega
      go_wp2_with fail
      refine (wakes_any _).mono ?_
      rintro e w' ⟨rfl, rfl⟩
      go_wp2_with fail
      go_ret
      exact ⟨rfl, hb⟩

set_option maxRecDepth 100000 in
theorem committeeMeet_lifted (os : Os) (started : os.Started) (H : Type) (enc : TypeId × Value → H) :
    ReturnsInHanded {} Try.checked os 6 .any (Rows.committeeMeetSpec.pre6 enc Try.prog Try.f6 Rows.committeeMeetRow.domain false) (Rows.committeeMeetSpec.post enc Try.prog Try.f6 false true false false) := by
  refine returnsInHanded_of_change (C := Try.checked) (by kernel_rfl) started (by kernel_rfl) Try.func6
    (ChangeSpec.witness6 (enc := enc) (C := Try.checked) false ⟨#[], #[.slice none 0 0], []⟩ 8 (by kernel_rfl) (by kernel_rfl) (by kernel_rfl) (by kernel_rfl)) ?_
  intro W base args ds gs before hval0 hW hcnd _
  have hval : ∀ (j : Nat) t v, Try.f6.params[j]? = some t → args[j]? = some v → Value.okWide Try.prog W .any base t v := hval0
  have hW' := hW
  obtain ⟨p, q, hA0, hV, rfl, hfz, hnd⟩ := hW
  have hA : DataW.TrodAll enc Try.prog W 0 (fun _ => true) true Try.f6.params.toList args.toList ds p := hA0
  rw [Try.params6] at hA hval
  obtain ⟨v0, d0, rfl, rfl, h0⟩ := trodAll_one hA
  obtain ⟨rfl, rfl⟩ := trodVars_none hV
  obtain ⟨a0, len, cap, rfl⟩ := okWide_slice Try.underlying22 (hval 0 22 v0 rfl rfl)
  have k0 := h0
  have lt0 : ∀ x ∈ p, x.block < W.heap.size := by obtain ⟨m, hm⟩ := k0; exact DataW.trod_lt m _ _ _ hm
  obtain ⟨fuel, hf⟩ := h0
  clear hA0 hval0
  refine (committeeMeet_walk a0 len cap W (open_asks hf)).mono fun e W' ⟨he, bel⟩ => ?_
  subst he
  exact ⟨_, rfl, _, _, _, [], _, [], hW', trodAll_mk1 (shut_bool Try.underlying4 _), trodAll_mk1 (Below.trod (by kernel_rfl) (by kernel_rfl) (of_decide_eq_true (by kernel_rfl)) k0 bel lt0), rfl, bel.frame _, fun h => by cases h⟩

theorem committeeMeet_holds : Rows.CommitteeMeetSaid :=
  OpenClaim.holds_of_wide 6 Try.f6 rfl rfl rfl rfl rfl rfl rfl ⟨rfl, rfl, rfl, rfl, rfl⟩ rfl rfl rfl rfl rfl (by kernel_rfl) Try.func6 (by kernel_rfl)
    (of_decide_eq_true (by kernel_rfl)) (by unfold Func.isWrapper; first | (rw [if_pos (by decide +kernel)]; kernel_rfl) | (rw [if_neg (by decide +kernel)]; exact ⟨rfl, rfl⟩))
    (fun os started H enc _ => committeeMeet_lifted os started H enc)

end Go.Proofs.Ytoiofpmhniolnaa
