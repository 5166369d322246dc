/-
  'PlaceAts': for every input the law returns true, and its argument reads as it did.
-/
import Derived.Test.YtggehfildaeajaaWholes
import Derived.ChangeOld
import Derived.Carry
namespace Go.Proofs.Ytggehfildaeajaa
open Go.RowKit Go.ChangeShapes Go.WideShapes Go.ChangeAt Fl



set_option maxHeartbeats 1000000 in
theorem placeAts_walk (a : Option Addr) (len cap : Nat) (w : World) (ha : Asks w a len cap) :
    Calls Try.prog 3 #[.slice a len cap] w fun e w' => e = .returned (.bool true) ∧ Below w.heap.size w w' := by
  obtain ⟨hl, hm, hi⟩ := ha
  unfold maxLen at hm
  have HI : Hid (∀ i, i < len → AskAt w a i) := hi
  clear hi
  go_enter Try.func3, Try.ntmps3
  go_wp2
  go_loopw [3] (fun i wr => ∃ k : Nat, i = .int .i64 k ∧ k ≤ len ∧ k ≤ 30 ∧ Below w.heap.size w wr) (fun i _ => 30 - (intOf i).toNat)
  case atStart => exact ⟨0, rfl, by omega, by omega, Below.refl _ _⟩
  case round =>
    obtain ⟨k, rfl, hk, hk30, hb⟩ := hrel
    by_cases hlt : k < len
    · by_cases hlt30 : k < 30
      · obtain ⟨b, off, r, s, x, y, u, v, rfl, hbl, wr', ws', c0, c1, c2, c3, c4, c5⟩ := AskAt.below (HI.out k hlt) hb
        clear c2 c3 c4 c5
        have i0 : (0 : Int) ≤ (k : Int) := by omega
        have i1 : (k : Int) < (len : Int) := by omega
        have i2 : (k : Int) < 30 := by omega
        cases hmay : may r s
        · have HM := Lib.hid hmay
          clear hmay
          have hz := zero_zero
          go_wp2_with fail
          go_quiet ((go_at_call 9; exact quiet_left (at_no r s HM.out _)))
          go_wp2_with fail
          go_quiet ((go_at_call 10; exact quiet_add_left (HM.out ▸ may_any r s _)))
          go_wp2_with (go_at_call 11; refine (num_any _ _).mono ?_; rintro e w' ⟨rfl, rfl⟩)
          go_roundw
          case rel => exact ⟨k + 1, by go_num, by omega, by omega, below_drewN hb _⟩
          case measure => simp [intOf]; omega
        · have hr : (0 ≤ r ∧ r ≤ 1099511627776) ∧ 1 ≤ s ∧ s ≤ 16 := by unfold may at hmay; simp at hmay; omega
          have e1 : FloatKind.f64.format.order (floatOfInt .f64 r) (floatOfInt .f64 r) = some .eq := by
            have := order_ints (is_F r (by omega)) (is_F r (by omega)); simpa using this
          have e2 : FloatKind.f64.format.order (floatOfInt .f64 s) (floatOfInt .f64 s) = some .eq := by
            have := order_ints (is_F s (by omega)) (is_F s (by omega)); simpa using this
          have HM := Lib.hid hmay
          clear hmay
          go_wp2_with fail
          go_quiet ((go_at_call 9; exact quiet_left (at_yes r s HM.out _)))
          go_wp2_with fail
          go_quiet ((go_at_call 10; exact quiet_add_left (HM.out ▸ may_any r s _)))
          go_wp2_with fail
          go_quiet ((first | (go_at_call 11; exact quiet_add_left (num_any _ _)) | (go_at_call 12; exact quiet_add_left (rat_any r s _))))
          go_wp2_with fail
          go_roundw
          case rel => exact ⟨k + 1, by go_num, by omega, by omega, below_drewN hb _⟩
          case measure => simp [intOf]; omega
      · have i1 : (k : Int) < (len : Int) := by omega
        have i2 : ¬ ((k : Int) < 30) := by omega
        go_wp2_with (go_at_call 13; refine (wakes_any _).mono ?_; rintro e w' ⟨rfl, rfl⟩)
        go_ret
        exact ⟨rfl, hb⟩
    · have i1 : ¬ ((k : Int) < (len : Int)) := by omega
      go_wp2_with (go_at_call 13; refine (wakes_any _).mono ?_; rintro e w' ⟨rfl, rfl⟩)
      go_ret
      exact ⟨rfl, hb⟩

set_option maxRecDepth 100000 in
theorem placeAts_lifted (os : Os) (started : os.Started) (H : Type) (enc : TypeId × Value → H) :
    ReturnsInHanded {} Try.checked os 3 .any (Rows.placeAtsSpec.pre6 enc Try.prog Try.f3 Rows.placeAtsRow.domain false) (Rows.placeAtsSpec.post enc Try.prog Try.f3 false true false false) := by
  refine returnsInHanded_of_change (C := Try.checked) (by kernel_rfl) started (by kernel_rfl) Try.func3
    (ChangeSpec.witness6 (enc := enc) (C := Try.checked) false ⟨#[], #[.slice none 0 0], []⟩ 8 (by kernel_rfl) (by kernel_rfl) (by kernel_rfl) (by kernel_rfl)) ?_
  intro W base args ds gs before hval0 hW hcnd _
  have hval : ∀ (j : Nat) t v, Try.f3.params[j]? = some t → args[j]? = some v → Value.okWide Try.prog W .any base t v := hval0
  have hW' := hW
  obtain ⟨p, q, hA0, hV, rfl, hfz, hnd⟩ := hW
  have hA : DataW.TrodAll enc Try.prog W 0 (fun _ => true) true Try.f3.params.toList args.toList ds p := hA0
  rw [Try.params3] at hA hval
  obtain ⟨v0, d0, rfl, rfl, h0⟩ := trodAll_one hA
  obtain ⟨rfl, rfl⟩ := trodVars_none hV
  obtain ⟨a0, len, cap, rfl⟩ := okWide_slice Try.underlying22 (hval 0 22 v0 rfl rfl)
  have k0 := h0
  have lt0 : ∀ x ∈ p, x.block < W.heap.size := by obtain ⟨m, hm⟩ := k0; exact DataW.trod_lt m _ _ _ hm
  obtain ⟨fuel, hf⟩ := h0
  clear hA0 hval0
  refine (placeAts_walk a0 len cap W (open_asks hf)).mono fun e W' ⟨he, bel⟩ => ?_
  subst he
  exact ⟨_, rfl, _, _, _, [], _, [], hW', trodAll_mk1 (shut_bool Try.underlying4 _), trodAll_mk1 (Below.trod (by kernel_rfl) (by kernel_rfl) (of_decide_eq_true (by kernel_rfl)) k0 bel lt0), rfl, bel.frame _, fun h => by cases h⟩

theorem placeAts_holds : Rows.PlaceAtsSaid :=
  OpenClaim.holds_of_wide 3 Try.f3 rfl rfl rfl rfl rfl rfl rfl ⟨rfl, rfl, rfl, rfl, rfl⟩ rfl rfl rfl rfl rfl (by kernel_rfl) Try.func3 (by kernel_rfl)
    (of_decide_eq_true (by kernel_rfl)) (by unfold Func.isWrapper; first | (rw [if_pos (by decide +kernel)]; kernel_rfl) | (rw [if_neg (by decide +kernel)]; exact ⟨rfl, rfl⟩))
    (fun os started H enc _ => placeAts_lifted os started H enc)


end Go.Proofs.Ytggehfildaeajaa
