/-
  'PlaceAll': for every input the law returns true, and its argument reads as it did.
-/
import Derived.Test.YtggehfildaeajaaWholes
import Derived.ChangeOld
import Derived.Carry
namespace Go.Proofs.Ytggehfildaeajaa
open Go.RowKit Go.ChangeShapes Go.WideShapes Go.ChangeAt Fl

theorem bef_next (r n : Int) : bef r (n - 1) r n = true := by unfold bef; simp; omega

set_option maxRecDepth 100000 in
set_option maxHeartbeats 2000000 in
theorem placeAll_walk (a : Option Addr) (len cap : Nat) (w : World) (ha : Asks w a len cap) :
    Calls Try.prog 8 #[.slice a len cap] w fun e w' => e = .returned (.bool true) ∧ Below w.heap.size w w' := by
  obtain ⟨hl, hm, hi⟩ := ha
  unfold maxLen at hm
  have HI : Hid (∀ i, i < len → AskAt w a i) := hi
  clear hi
  go_enter Try.func8, Try.ntmps8
  go_wp2
  go_loopw [3] (fun i wr => ∃ k : Nat, i = .int .i64 k ∧ k ≤ len ∧ k ≤ 4 ∧ Below w.heap.size w wr) (fun i _ => 4 - (intOf i).toNat)
  case atStart => exact ⟨0, rfl, by omega, by omega, Below.refl _ _⟩
  case round =>
    obtain ⟨k, rfl, hk, hk30, hb⟩ := hrel
    by_cases hlt : k < len
    · by_cases hlt30 : k < 4
      · obtain ⟨b, off, r, s, x, y, u, v, rfl, hbl, wr', ws', c0, c1, c2, c3, c4, c5⟩ := AskAt.below (HI.out k hlt) hb
        clear c1 c2 c3 c4 c5 ws'
        have i0 : (0 : Int) ≤ (k : Int) := by omega
        have i1 : (k : Int) < (len : Int) := by omega
        have i2 : (k : Int) < 4 := by omega
        by_cases hr0 : r < 0
        · go_wp2_with fail
          go_roundw
          case rel => exact ⟨k + 1, by go_num, by omega, by omega, hb⟩
          case measure => simp [intOf]; omega
        · by_cases hr1 : 1099511627776 < r
          · go_wp2_with fail
            go_roundw
            case rel => exact ⟨k + 1, by go_num, by omega, by omega, hb⟩
            case measure => simp [intOf]; omega
          · have hm1 : may r 1 = true := may_of (by omega)
            have f1 := is_F r (by omega)
            have f2 := is_F 1 (by omega)
            have e1 := order_F r (by omega)
            have H1 := Lib.hid hm1
            have F1 := Lib.hid f1
            have F2 := Lib.hid f2
            clear hm1 f1 f2
            go_wp2_with (first | (go_at_call 11; refine (num_any _ _).mono ?_; rintro e w' ⟨rfl, rfl⟩))
            refine (at_yes r 1 H1.out _).mono ?_
            rintro e w' ⟨rfl, rfl⟩
            go_wp2_with (first | (go_at_call 11; refine (num_any _ _).mono ?_; rintro e w' ⟨rfl, rfl⟩))
            refine (move_isn F1.out F2.out is_zero is_neg_one H1.out (by omega) (may_not (by omega)) _).mono ?_
            rintro e w' ⟨rfl, rfl⟩
            go_wp2_with (first | (go_at_call 11; refine (num_any _ _).mono ?_; rintro e w' ⟨rfl, rfl⟩))
            go_loop [5, 9] (fun p a => ∃ n : Int, 2 ≤ n ∧ n ≤ 17 ∧ a = .int .i64 n ∧ p = .complex .f64 (F r) (F (n - 1))) (fun _ a => (17 - intOf a).toNat)
            case atStart => exact ⟨2, by omega, by omega, rfl, rfl⟩
            case round =>
              obtain ⟨n, hn1, hn2, rfl, rfl⟩ := hrel
              by_cases hn : n ≤ 16
              · have H2 : Hid (may r (n - 1) = true) := may_of (by omega)
                have H3 : Hid (may r n = true) := may_of (by omega)
                have F3 : Hid (Is (D.read (F (n - 1))) (n - 1)) := is_F _ (by omega)
                have F4 : Hid (Is (D.read (F n)) n) := is_F _ (by omega)
                have e2 := order_F n (by omega)
                have b3 := bef_next r n
                have K3 := Lib.hid b3
                clear b3
                go_wp2_with (first | (go_at_call 11; refine (num_any _ _).mono ?_; rintro e w' ⟨rfl, rfl⟩))
                refine (move_is F1.out F3.out is_zero is_one H2.out (by omega) (show r + 0 = r by omega) (show n - 1 + 1 = n by omega) H3.out _).mono ?_
                rintro e w' ⟨rfl, rfl⟩
                go_wp2_with (first | (go_at_call 11; refine (num_any _ _).mono ?_; rintro e w' ⟨rfl, rfl⟩))
                refine (at_yes r n H3.out _).mono ?_
                rintro e w' ⟨rfl, rfl⟩
                go_wp2_with (first | (go_at_call 11; refine (num_any _ _).mono ?_; rintro e w' ⟨rfl, rfl⟩))
                refine (before_is F1.out F3.out F1.out F4.out H2.out H3.out _).mono ?_
                rintro e w' ⟨rfl, rfl⟩
                rw [K3.out]
                go_wp2_with (first | (go_at_call 11; refine (num_any _ _).mono ?_; rintro e w' ⟨rfl, rfl⟩))
                go_round
                case rel => exact ⟨n + 1, by omega, by omega, rfl, by rw [show n + 1 - 1 = n by omega]⟩
                case measure => simp [intOf]; omega
              · obtain rfl : n = 17 := by omega
                have H2 : Hid (may r (17 - 1) = true) := may_of (by omega)
                have F3 : Hid (Is (D.read (F (17 - 1))) (17 - 1)) := is_F _ (by omega)
                have HM : Hid (mv (F r) (F (17 - 1)) 4602678819172646912 0 = false) := Lib.hid (by unfold mv; rw [half_no, Bool.and_false, Bool.false_and])
                go_wp2_with (first | (go_at_call 11; refine (num_any _ _).mono ?_; rintro e w' ⟨rfl, rfl⟩))
                refine (move_isn F1.out F3.out is_zero is_one H2.out (by omega) (may_not (by omega)) _).mono ?_
                rintro e w' ⟨rfl, rfl⟩
                go_wp2_with (first | (go_at_call 11; refine (num_any _ _).mono ?_; rintro e w' ⟨rfl, rfl⟩))
                refine (move_no _ _ _ _ HM.out _).mono ?_
                rintro e w' ⟨rfl, rfl⟩
                go_wp2_with (first | (go_at_call 11; refine (num_any _ _).mono ?_; rintro e w' ⟨rfl, rfl⟩))
                go_roundw
                case rel => exact ⟨k + 1, by go_num, by omega, by omega, hb⟩
                case measure => simp [intOf]; omega
      · have i1 : (k : Int) < (len : Int) := by omega
        have i2 : ¬ ((k : Int) < 4) := by omega
        go_wp2_with (go_at_call 13; refine (wakes_any _).mono ?_; rintro e w' ⟨rfl, rfl⟩)
        go_ret
        exact ⟨rfl, hb⟩
    · have i1 : ¬ ((k : Int) < (len : Int)) := by omega
      go_wp2_with (go_at_call 13; refine (wakes_any _).mono ?_; rintro e w' ⟨rfl, rfl⟩)
      go_ret
      exact ⟨rfl, hb⟩


set_option maxRecDepth 100000 in
theorem placeAll_lifted (os : Os) (started : os.Started) (H : Type) (enc : TypeId × Value → H) :
    ReturnsInHanded {} Try.checked os 8 .any (Rows.placeAllSpec.pre6 enc Try.prog Try.f8 Rows.placeAllRow.domain false) (Rows.placeAllSpec.post enc Try.prog Try.f8 false true false false) := by
  refine returnsInHanded_of_change (C := Try.checked) (by kernel_rfl) started (by kernel_rfl) Try.func8
    (ChangeSpec.witness6 (enc := enc) (C := Try.checked) false ⟨#[], #[.slice none 0 0], []⟩ 8 (by kernel_rfl) (by kernel_rfl) (by kernel_rfl) (by kernel_rfl)) ?_
  intro W base args ds gs before hval0 hW hcnd _
  have hval : ∀ (j : Nat) t v, Try.f8.params[j]? = some t → args[j]? = some v → Value.okWide Try.prog W .any base t v := hval0
  have hW' := hW
  obtain ⟨p, q, hA0, hV, rfl, hfz, hnd⟩ := hW
  have hA : DataW.TrodAll enc Try.prog W 0 (fun _ => true) true Try.f8.params.toList args.toList ds p := hA0
  rw [Try.params8] at hA hval
  obtain ⟨v0, d0, rfl, rfl, h0⟩ := trodAll_one hA
  obtain ⟨rfl, rfl⟩ := trodVars_none hV
  obtain ⟨a0, len, cap, rfl⟩ := okWide_slice Try.underlying22 (hval 0 22 v0 rfl rfl)
  have k0 := h0
  have lt0 : ∀ x ∈ p, x.block < W.heap.size := by obtain ⟨m, hm⟩ := k0; exact DataW.trod_lt m _ _ _ hm
  obtain ⟨fuel, hf⟩ := h0
  clear hA0 hval0
  refine (placeAll_walk a0 len cap W (open_asks hf)).mono fun e W' ⟨he, bel⟩ => ?_
  subst he
  exact ⟨_, rfl, _, _, _, [], _, [], hW', trodAll_mk1 (shut_bool Try.underlying4 _), trodAll_mk1 (Below.trod (by kernel_rfl) (by kernel_rfl) (of_decide_eq_true (by kernel_rfl)) k0 bel lt0), rfl, bel.frame _, fun h => by cases h⟩

theorem placeAll_holds : Rows.PlaceAllSaid :=
  OpenClaim.holds_of_wide 8 Try.f8 rfl rfl rfl rfl rfl rfl rfl ⟨rfl, rfl, rfl, rfl, rfl⟩ rfl rfl rfl rfl rfl (by kernel_rfl) Try.func8 (by kernel_rfl)
    (of_decide_eq_true (by kernel_rfl)) (by unfold Func.isWrapper; first | (rw [if_pos (by decide +kernel)]; kernel_rfl) | (rw [if_neg (by decide +kernel)]; exact ⟨rfl, rfl⟩))
    (fun os started H enc _ => placeAll_lifted os started H enc)


end Go.Proofs.Ytggehfildaeajaa
