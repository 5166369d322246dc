/-
  'PlaceBack': for every input the law returns true, and its argument reads as it did.
-/
import Derived.Test.YtggehfildaeajaaWholes
import Derived.ChangeOld
import Derived.Carry
namespace Go.Proofs.Ytggehfildaeajaa
open Go.RowKit Go.ChangeShapes Go.WideShapes Go.ChangeAt Fl

theorem order_cases (r s m n : Int) (h : may r s = true) (h' : may m n = true) :
    (FloatKind.f64.format.order (floatOfInt .f64 r) (floatOfInt .f64 m) = some .lt ∧ bef r s m n = true ∧ bef m n r s = false) ∨
    (FloatKind.f64.format.order (floatOfInt .f64 r) (floatOfInt .f64 m) = some .gt ∧ bef r s m n = false ∧ bef m n r s = true) ∨
    (FloatKind.f64.format.order (floatOfInt .f64 r) (floatOfInt .f64 m) = some .eq ∧ FloatKind.f64.format.order (floatOfInt .f64 s) (floatOfInt .f64 n) = some .lt ∧ bef r s m n = true ∧ bef m n r s = false) ∨
    (FloatKind.f64.format.order (floatOfInt .f64 r) (floatOfInt .f64 m) = some .eq ∧ FloatKind.f64.format.order (floatOfInt .f64 s) (floatOfInt .f64 n) = some .gt ∧ bef r s m n = false ∧ bef m n r s = true) ∨
    (FloatKind.f64.format.order (floatOfInt .f64 r) (floatOfInt .f64 m) = some .eq ∧ FloatKind.f64.format.order (floatOfInt .f64 s) (floatOfInt .f64 n) = some .eq ∧ bef r s m n = false ∧ bef m n r s = false) := by
  obtain ⟨a, b, c, d⟩ := may_iff h
  obtain ⟨a', b', c', d'⟩ := may_iff h'
  rw [order_ints (is_F r (by omega)) (is_F m (by omega)), order_ints (is_F s (by omega)) (is_F n (by omega))]
  unfold bef
  rcases Int.lt_trichotomy r m with hl | hl | hl
  · exact .inl ⟨by rw [Int.compare_eq_lt.2 hl], by simp [hl], by simp; omega⟩
  · subst hl
    rcases Int.lt_trichotomy s n with hk | hk | hk
    · exact .inr (.inr (.inl ⟨by simp, by rw [Int.compare_eq_lt.2 hk], by simp [hk], by simp; omega⟩))
    · subst hk; exact .inr (.inr (.inr (.inr ⟨by simp, by simp, by simp, by simp⟩)))
    · exact .inr (.inr (.inr (.inl ⟨by simp, by rw [Int.compare_eq_gt.2 hk], by simp; omega, by simp [hk]⟩)))
  · exact .inr (.inl ⟨by rw [Int.compare_eq_gt.2 hl], by simp; omega, by simp [hl]⟩)

theorem bef_up (r s : Int) : bef r s (r + 1) s = true := by unfold bef; simp; omega

set_option maxRecDepth 100000 in
set_option maxHeartbeats 2000000 in
theorem placeBack_walk (a : Option Addr) (len cap : Nat) (w : World) (ha : Asks w a len cap) :
    Calls Try.prog 7 #[.slice a len cap] w fun e w' => e = .returned (.bool true) ∧ Below w.heap.size w w' := by
  obtain ⟨hl, hm, hi⟩ := ha
  unfold maxLen at hm
  have HI : Hid (∀ i, i < len → AskAt w a i) := hi
  clear hi
  go_enter Try.func7, Try.ntmps7
  go_wp2
  go_loopw [3] (fun i wr => ∃ k : Nat, i = .int .i64 k ∧ k ≤ len ∧ k ≤ 30 ∧ Below w.heap.size w wr) (fun i _ => 30 - (intOf i).toNat)
  case atStart => exact ⟨0, rfl, by omega, by omega, Below.refl _ _⟩
  case round =>
    obtain ⟨k, rfl, hk, hk30, hb⟩ := hrel
    by_cases hlt : k + 1 < len
    · by_cases hlt30 : k < 30
      · obtain ⟨b, off, r, s, x, y, u, v, rfl, hbl, wr', ws', c0, c1, c2, c3, c4, c5⟩ := AskAt.below (HI.out k (by omega)) hb
        obtain ⟨b', off', r', s', x', y', u', v', hab, hbl', wr'', ws'', d0, d1, d2, d3, d4, d5⟩ := AskAt.below (HI.out (k + 1) hlt) hb
        clear c2 c3 c4 c5 d2 d3 d4 d5
        simp only [Option.some.injEq, Addr.mk.injEq, and_true] at hab
        obtain ⟨rfl, rfl⟩ := hab
        have i0 : (0 : Int) ≤ (k : Int) := by omega
        have i1 : (k : Int) + 1 < (len : Int) := by omega
        have i2 : (k : Int) < 30 := by omega
        cases hm1 : may r s
        · cases hm2 : may r' s'
          all_goals
            have H1 := Lib.hid hm1
            have H2 := Lib.hid hm2
            clear hm1 hm2
            go_wp2_with fail
            go_quiet ((go_at_call 9; exact quiet_left (at_no r s H1.out _)))
            go_wp2_with fail
            go_quiet ((go_at_call 9; first | exact quiet_add_left (at_no r' s' H2.out _) | exact quiet_add_left (at_yes r' s' H2.out _)))
            go_wp2_with (first | (go_at_call 11; refine (num_any _ _).mono ?_; rintro e w' ⟨rfl, rfl⟩))
            go_roundw
            case rel => exact ⟨k + 1, by go_num, by omega, by omega, below_drewN hb _⟩
            case measure => simp [intOf]; omega
        · cases hm2 : may r' s'
          · have H1 := Lib.hid hm1
            have H2 := Lib.hid hm2
            clear hm1 hm2
            go_wp2_with fail
            go_quiet ((go_at_call 9; exact quiet_left (at_yes r s H1.out _)))
            go_wp2_with fail
            go_quiet ((go_at_call 9; exact quiet_add_left (at_no r' s' H2.out _)))
            go_wp2_with (first | (go_at_call 11; refine (num_any _ _).mono ?_; rintro e w' ⟨rfl, rfl⟩))
            go_roundw
            case rel => exact ⟨k + 1, by go_num, by omega, by omega, below_drewN hb _⟩
            case measure => simp [intOf]; omega
          · obtain ⟨g1, g2, g3, g4⟩ := may_iff hm1
            obtain ⟨g5, g6, g7, g8⟩ := may_iff hm2
            have f1 := is_F r (by omega)
            have f2 := is_F s (by omega)
            have f3 := is_F r' (by omega)
            have f4 := is_F s' (by omega)
            obtain ⟨p, q, hpq, jp, jq⟩ := diff_is f3 f4 f1 f2 hm2 hm1
            obtain ⟨p', q', hpq', jp', jq'⟩ := diff_is f1 f2 f3 f4 hm1 hm2
            have e1 := order_F r (by omega)
            have e2 := order_F s (by omega)
            have e3 := order_F r' (by omega)
            have e4 := order_F s' (by omega)
            have t := order_cases r s r' s' hm1 hm2
            have H1 := Lib.hid hm1
            have H2 := Lib.hid hm2
            have F1 := Lib.hid f1
            have F2 := Lib.hid f2
            have F3 := Lib.hid f3
            have F4 := Lib.hid f4
            have J1 := Lib.hid jp
            have J2 := Lib.hid jq
            have J3 := Lib.hid jp'
            have J4 := Lib.hid jq'
            clear hm1 hm2 f1 f2 f3 f4 jp jq jp' jq'
            have b3 := bef_up r s
            have K3 := Lib.hid b3
            clear b3
            rcases t with ⟨o1, b1, b2⟩ | ⟨o1, b1, b2⟩ | ⟨o1, o2, b1, b2⟩ | ⟨o1, o2, b1, b2⟩ | ⟨o1, o2, b1, b2⟩
            all_goals
              have K1 := Lib.hid b1
              have K2 := Lib.hid b2
              clear b1 b2
              go_wp2_with fail
              go_quiet ((go_at_call 9; exact quiet_left (at_yes r s H1.out _)))
              go_wp2_with fail
              go_quiet ((go_at_call 9; exact quiet_add_left (at_yes r' s' H2.out _)))
              go_wp2_with (first | (go_at_call 11; refine (num_any _ _).mono ?_; rintro e w' ⟨rfl, rfl⟩))
              refine (parts_is F1.out F2.out H1.out _).mono ?_
              rintro e w' ⟨rfl, rfl⟩
              go_wp2_with (first | (go_at_call 11; refine (num_any _ _).mono ?_; rintro e w' ⟨rfl, rfl⟩))
              refine (move_is F1.out F2.out J1.out J2.out H1.out (by omega) (by omega) (by omega) H2.out _).mono ?_
              rintro e w' ⟨rfl, rfl⟩
              go_wp2_with (first | (go_at_call 11; refine (num_any _ _).mono ?_; rintro e w' ⟨rfl, rfl⟩))
              refine (move_is F3.out F4.out J3.out J4.out H2.out (by omega) (by omega) (by omega) H1.out _).mono ?_
              rintro e w' ⟨rfl, rfl⟩
              go_wp2_with (first | (go_at_call 11; refine (num_any _ _).mono ?_; rintro e w' ⟨rfl, rfl⟩))
              refine (before_is F1.out F2.out F3.out F4.out H1.out H2.out _).mono ?_
              rintro e w' ⟨rfl, rfl⟩
              rw [K1.out]
              go_wp2_with (first | (go_at_call 11; refine (num_any _ _).mono ?_; rintro e w' ⟨rfl, rfl⟩))
              refine (before_is F3.out F4.out F1.out F2.out H2.out H1.out _).mono ?_
              rintro e w' ⟨rfl, rfl⟩
              rw [K2.out]
              go_wp2_with (first | (go_at_call 11; refine (num_any _ _).mono ?_; rintro e w' ⟨rfl, rfl⟩))
              by_cases hmax : r = 1099511627776
              · have hmx : (r == 1099511627776) = true := by simp [hmax]
                have HX : Hid (r = 1099511627776) := hmax
                clear hmax
                refine (move_isn F1.out F2.out is_one is_zero H1.out (by omega) (may_not (by have := HX.out; omega)) _).mono ?_
                rintro e w' ⟨rfl, rfl⟩
                go_wp2_with (first | (go_at_call 11; refine (num_any _ _).mono ?_; rintro e w' ⟨rfl, rfl⟩))
                go_roundw
                case rel => exact ⟨k + 1, by go_num, by omega, by omega, below_drewN hb _⟩
                case measure => simp [intOf]; omega
              · have hmx : (r == 1099511627776) = false := by simp [hmax]
                have H3 : Hid (may (r + 1) s = true) := may_of (by omega)
                have F5 : Hid (Is (D.read (F (r + 1))) (r + 1)) := is_F _ (by omega)
                have HX : Hid (r ≠ 1099511627776) := hmax
                clear hmax
                refine (move_is F1.out F2.out is_one is_zero H1.out (by omega) rfl (by omega) H3 _).mono ?_
                rintro e w' ⟨rfl, rfl⟩
                go_wp2_with (first | (go_at_call 11; refine (num_any _ _).mono ?_; rintro e w' ⟨rfl, rfl⟩))
                refine (before_is F1.out F2.out F5 F2.out H1.out H3 _).mono ?_
                rintro e w' ⟨rfl, rfl⟩
                rw [K3.out]
                go_wp2_with (first | (go_at_call 11; refine (num_any _ _).mono ?_; rintro e w' ⟨rfl, rfl⟩))
                go_roundw
                case rel => exact ⟨k + 1, by go_num, by omega, by omega, below_drewN hb _⟩
                case measure => simp [intOf]; omega
      · have i1 : (k : Int) + 1 < (len : Int) := by omega
        have i2 : ¬ ((k : Int) < 30) := by omega
        go_wp2_with (go_at_call 13; refine (wakes_any _).mono ?_; rintro e w' ⟨rfl, rfl⟩)
        go_ret
        exact ⟨rfl, hb⟩
    · have i1 : ¬ ((k : Int) + 1 < (len : Int)) := by omega
      go_wp2_with (go_at_call 13; refine (wakes_any _).mono ?_; rintro e w' ⟨rfl, rfl⟩)
      go_ret
      exact ⟨rfl, hb⟩


set_option maxRecDepth 100000 in
theorem placeBack_lifted (os : Os) (started : os.Started) (H : Type) (enc : TypeId × Value → H) :
    ReturnsInHanded {} Try.checked os 7 .any (Rows.placeBackSpec.pre6 enc Try.prog Try.f7 Rows.placeBackRow.domain false) (Rows.placeBackSpec.post enc Try.prog Try.f7 false true false false) := by
  refine returnsInHanded_of_change (C := Try.checked) (by kernel_rfl) started (by kernel_rfl) Try.func7
    (ChangeSpec.witness6 (enc := enc) (C := Try.checked) false ⟨#[], #[.slice none 0 0], []⟩ 8 (by kernel_rfl) (by kernel_rfl) (by kernel_rfl) (by kernel_rfl)) ?_
  intro W base args ds gs before hval0 hW hcnd _
  have hval : ∀ (j : Nat) t v, Try.f7.params[j]? = some t → args[j]? = some v → Value.okWide Try.prog W .any base t v := hval0
  have hW' := hW
  obtain ⟨p, q, hA0, hV, rfl, hfz, hnd⟩ := hW
  have hA : DataW.TrodAll enc Try.prog W 0 (fun _ => true) true Try.f7.params.toList args.toList ds p := hA0
  rw [Try.params7] at hA hval
  obtain ⟨v0, d0, rfl, rfl, h0⟩ := trodAll_one hA
  obtain ⟨rfl, rfl⟩ := trodVars_none hV
  obtain ⟨a0, len, cap, rfl⟩ := okWide_slice Try.underlying22 (hval 0 22 v0 rfl rfl)
  have k0 := h0
  have lt0 : ∀ x ∈ p, x.block < W.heap.size := by obtain ⟨m, hm⟩ := k0; exact DataW.trod_lt m _ _ _ hm
  obtain ⟨fuel, hf⟩ := h0
  clear hA0 hval0
  refine (placeBack_walk a0 len cap W (open_asks hf)).mono fun e W' ⟨he, bel⟩ => ?_
  subst he
  exact ⟨_, rfl, _, _, _, [], _, [], hW', trodAll_mk1 (shut_bool Try.underlying4 _), trodAll_mk1 (Below.trod (by kernel_rfl) (by kernel_rfl) (of_decide_eq_true (by kernel_rfl)) k0 bel lt0), rfl, bel.frame _, fun h => by cases h⟩

theorem placeBack_holds : Rows.PlaceBackSaid :=
  OpenClaim.holds_of_wide 7 Try.f7 rfl rfl rfl rfl rfl rfl rfl ⟨rfl, rfl, rfl, rfl, rfl⟩ rfl rfl rfl rfl rfl (by kernel_rfl) Try.func7 (by kernel_rfl)
    (of_decide_eq_true (by kernel_rfl)) (by unfold Func.isWrapper; first | (rw [if_pos (by decide +kernel)]; kernel_rfl) | (rw [if_neg (by decide +kernel)]; exact ⟨rfl, rfl⟩))
    (fun os started H enc _ => placeBack_lifted os started H enc)


end Go.Proofs.Ytggehfildaeajaa
