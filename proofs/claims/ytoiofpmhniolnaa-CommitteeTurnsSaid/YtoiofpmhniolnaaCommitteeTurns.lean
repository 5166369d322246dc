/-
  'CommitteeTurns': for every input the law returns true, and its argument reads as it did. 
-/
import Derived.Test.YtoiofpmhniolnaaAsk
namespace Go.Proofs.Ytoiofpmhniolnaa
open Go.RowKit Go.ChangeShapes Go.WideShapes Go.ChangeAt

set_option maxRecDepth 100000 in
set_option maxHeartbeats 4000000 in
theorem committeeTurns_walk (a : Option Addr) (len cap : Nat) (w : World) (ha : Asks w a len cap) :
    Calls Try.prog 7 #[.slice a len cap] w fun e w' => e = .returned (.bool true) ∧ Below w.heap.size w w' := by
  obtain ⟨hl, hm, _⟩ := ha
  unfold maxLen at hm
  have hl0 : (0 : Int) ≤ (len : Int) := by omega
  go_enter Try.func7, Try.ntmps7
  go_wp2_with fail
  go_loop [3] (fun v => ∃ N : Int, v = .int .i64 N ∧ 1 ≤ N ∧ N ≤ 19 ∧ Hid (N % 3 = 1)) (fun v => 19 - (intOf v).toNat)
  case atStart => exact ⟨1, rfl, by omega, by omega, by show (1 : Int) % 3 = 1; omega⟩
  case round =>
    obtain ⟨N, rfl, h1, h2, h3⟩ := hrel
    by_cases hlt : N ≤ 16
    · have HM : Hid (may N = true) := by
        show may N = true
        have := h3.out
        simp only [may, decide_eq_true_eq]
        exact ⟨h1, hlt, this⟩
      go_wp2_with fail
      go_loop [4] (fun v => ∃ r : Int, v = .int .i64 r ∧ 0 ≤ r ∧ r ≤ 100) (fun v => 100 - (intOf v).toNat)
      case atStart => exact ⟨0, rfl, by omega, by omega⟩
      case round =>
        obtain ⟨r, rfl, hr0, hr1⟩ := hrel
        by_cases hr : r < 100
        · cases hev : evn r with
          | false =>
            have HE := Lib.hid hev
            by_cases hz : r = 0
            · subst hz
              clear hev
              go_wp2_with fail
              refine (leader_odd N 0 HM.out HE.out _).mono ?_
              rintro e w' ⟨rfl, rfl⟩
              go_wp2_with fail
              refine (num_any _ _).mono ?_
              rintro e w' ⟨rfl, rfl⟩
              go_wp2_with fail
              go_round
              case rel => exact ⟨1, by go_num, by omega, by omega⟩
              case measure => simp [intOf]
            · have ho : (r % 2 == 1) = true := by
                have := evn_no hev
                simp; omega
              clear hev
              have hz2 : (r == 0) = false := by simp [hz]
              clear hz
              go_wp2_with fail
              refine (leader_odd N r HM.out HE.out _).mono ?_
              rintro e w' ⟨rfl, rfl⟩
              go_wp2_with fail
              refine (num_any _ _).mono ?_
              rintro e w' ⟨rfl, rfl⟩
              go_wp2_with fail
              go_round
              case rel => exact ⟨r + 1, by go_num, by omega, by omega⟩
              case measure => simp [intOf]; omega
          | true =>
            obtain ⟨g1, g2, g3⟩ := evn_yes hev
            have HE := Lib.hid hev
            have HE2 : Hid (evn (r + 2 * N) = true) := by
              show evn (r + 2 * N) = true
              simp only [evn, decide_eq_true_eq]; omega
            have HE3 : Hid (evn (r + 2) = true) := by
              show evn (r + 2) = true
              simp only [evn, decide_eq_true_eq]; omega
            have ho : (r % 2 == 1) = false := by simp; omega
            have hz2 : (r == 0) = false := by simp; omega
            have q0 : 0 ≤ (r / 2 - 1) % N := Int.emod_nonneg _ (by omega)
            have q1 : (r / 2 - 1) % N < N := Int.emod_lt_of_pos _ (by omega)
            obtain ⟨A, hA⟩ : ∃ A, (r / 2 - 1) % N + 1 = A := ⟨_, rfl⟩
            have q2 : 0 ≤ A % N := Int.emod_nonneg _ (by omega)
            have q3 : A % N < N := Int.emod_lt_of_pos _ (by omega)
            obtain ⟨C, hC⟩ : ∃ C, A % N + 1 = C := ⟨_, rfl⟩
            have a0 : 1 ≤ A := by omega
            have a1 : A ≤ N := by omega
            have n0 : (N == 0) = false := by simp; omega
            have e1 : (C != A % N + 1) = false := by simp [hC]
            have HA := Lib.hid hA
            have HA2 := Lib.hid ((turn_round N r).trans hA)
            have HC := Lib.hid ((turn_next N r).trans (by rw [hA, hC]))
            clear hA hC hev g3 q0 q1
            go_wp2_with fail
            refine (leader_is N r A HM.out HE.out HA.out _).mono ?_
            rintro e w' ⟨rfl, rfl⟩
            go_wp2_with fail
            refine (leader_is N (r + 2 * N) A HM.out HE2.out HA2.out _).mono ?_
            rintro e w' ⟨rfl, rfl⟩
            go_wp2_with fail
            refine (leader_is N (r + 2) C HM.out HE3.out HC.out _).mono ?_
            rintro e w' ⟨rfl, rfl⟩
            go_wp2_with fail
            refine (num_any _ _).mono ?_
            rintro e w' ⟨rfl, rfl⟩
            go_wp2_with fail
            refine (num_any _ _).mono ?_
            rintro e w' ⟨rfl, rfl⟩
            go_wp2_with fail
            refine (num_any _ _).mono ?_
            rintro e w' ⟨rfl, rfl⟩
            go_wp2_with fail
            go_round
            case rel => exact ⟨r + 1, by go_num, by omega, by omega⟩
            case measure => simp [intOf]; omega
        · go_wp2_with fail
          refine (leader_is N 2 1 HM.out (by decide) (by simp) _).mono ?_
          rintro e w' ⟨rfl, rfl⟩
          go_wp2_with fail
          refine (num_any _ _).mono ?_
          rintro e w' ⟨rfl, rfl⟩
          go_wp2_with fail
          go_round
          case rel => exact ⟨N + 3, by go_num, by omega, by omega, by show (N + 3) % 3 = 1; have := h3.out; omega⟩
          case measure => simp [intOf]; omega
    · have hlz : ¬ ((len : Int) < 0) := by omega
      go_wp2_with fail
      refine (wakes_any _).mono ?_
      rintro e w' ⟨rfl, rfl⟩
      go_wp2_with fail
      go_ret
      exact ⟨rfl, Below.refl _ _⟩

set_option maxRecDepth 100000 in
theorem committeeTurns_lifted (os : Os) (started : os.Started) (H : Type) (enc : TypeId × Value → H) :
    ReturnsInHanded {} Try.checked os 7 .any (Rows.committeeTurnsSpec.pre6 enc Try.prog Try.f7 Rows.committeeTurnsRow.domain false) (Rows.committeeTurnsSpec.post enc Try.prog Try.f7 false true false false) := by
  refine returnsInHanded_of_change (C := Try.checked) (by kernel_rfl) started (by kernel_rfl) Try.func7
    (ChangeSpec.witness6 (enc := enc) (C := Try.checked) false ⟨#[], #[.slice none 0 0], []⟩ 8 (by kernel_rfl) (by kernel_rfl) (by kernel_rfl) (by kernel_rfl)) ?_
  intro W base args ds gs before hval0 hW hcnd _
  have hval : ∀ (j : Nat) t v, Try.f7.params[j]? = some t → args[j]? = some v → Value.okWide Try.prog W .any base t v := hval0
  have hW' := hW
  obtain ⟨p, q, hA0, hV, rfl, hfz, hnd⟩ := hW
  have hA : DataW.TrodAll enc Try.prog W 0 (fun _ => true) true Try.f7.params.toList args.toList ds p := hA0
  rw [Try.params7] at hA hval
  obtain ⟨v0, d0, rfl, rfl, h0⟩ := trodAll_one hA
  obtain ⟨rfl, rfl⟩ := trodVars_none hV
  obtain ⟨a0, len, cap, rfl⟩ := okWide_slice Try.underlying22 (hval 0 22 v0 rfl rfl)
  have k0 := h0
  have lt0 : ∀ x ∈ p, x.block < W.heap.size := by obtain ⟨m, hm⟩ := k0; exact DataW.trod_lt m _ _ _ hm
  obtain ⟨fuel, hf⟩ := h0
  clear hA0 hval0
  refine (committeeTurns_walk a0 len cap W (open_asks hf)).mono fun e W' ⟨he, bel⟩ => ?_
  subst he
  exact ⟨_, rfl, _, _, _, [], _, [], hW', trodAll_mk1 (shut_bool Try.underlying4 _), trodAll_mk1 (Below.trod (by kernel_rfl) (by kernel_rfl) (of_decide_eq_true (by kernel_rfl)) k0 bel lt0), rfl, bel.frame _, fun h => by cases h⟩

theorem committeeTurns_holds : Rows.CommitteeTurnsSaid :=
  OpenClaim.holds_of_wide 7 Try.f7 rfl rfl rfl rfl rfl rfl rfl ⟨rfl, rfl, rfl, rfl, rfl⟩ rfl rfl rfl rfl rfl (by kernel_rfl) Try.func7 (by kernel_rfl)
    (of_decide_eq_true (by kernel_rfl)) (by unfold Func.isWrapper; first | (rw [if_pos (by decide +kernel)]; kernel_rfl) | (rw [if_neg (by decide +kernel)]; exact ⟨rfl, rfl⟩))
    (fun os started H enc _ => committeeTurns_lifted os started H enc)

end Go.Proofs.Ytoiofpmhniolnaa
