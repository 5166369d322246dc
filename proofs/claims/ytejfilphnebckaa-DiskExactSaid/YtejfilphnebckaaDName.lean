/-
  The page's own question whether a text is a file's name.
-/
import Derived.Test.YtejfilphnebckaaDWakes
namespace Go.Proofs.Ytejfilphnebckaa
open Go.RowKit

set_option maxRecDepth 100000 in
set_option maxHeartbeats 8000000 in
theorem refName_any (s : ByteArray) (w : World) : Calls Try.prog 31 #[.string s] w fun e w' => e = .returned (.bool (okName s)) ∧ w = w' := by
  by_cases h1 : s.size < 1
  · have j1 : (s.size : Int) < 1 := by omega
    have hf : okName s = false := by simp only [okName, Bool.and_eq_false_imp, decide_eq_true_eq]; intro h; omega
    rw [hf]
    go_enter Try.func31, Try.ntmps31
    go_wp2_with fail
    go_ret
    exact ⟨rfl, rfl⟩
  have j1 : ¬ ((s.size : Int) < 1) := by omega
  by_cases h2 : 32 < s.size
  · have j2 : (32 : Int) < (s.size : Int) := by omega
    have hf : okName s = false := by simp only [okName, Bool.and_eq_false_imp, decide_eq_true_eq]; intro h h'; omega
    rw [hf]
    go_enter Try.func31, Try.ntmps31
    go_wp2_with fail
    go_ret
    exact ⟨rfl, rfl⟩
  have j2 : ¬ ((32 : Int) < (s.size : Int)) := by omega
  obtain ⟨b, hb⟩ : ∃ b, okName s = b := ⟨_, rfl⟩
  have HB : Hid (okName s = b) := hb
  have HA : Hid ((byt s).all okC = b) := by
    show _ = b
    rw [← hb]
    simp only [okName]
    rw [decide_eq_true (by omega : 1 ≤ s.size), decide_eq_true (by omega : s.size ≤ 32), Bool.true_and, Bool.true_and]
  rw [hb]
  clear hb
  go_enter Try.func31, Try.ntmps31
  go_wp2_with fail
  go_loop [3] (fun i => ∃ k : Nat, i = .int .i64 k ∧ k ≤ s.size ∧ Hid (((byt s).drop k).all okC = b)) (fun i => s.size - (intOf i).toNat)
  case atStart => exact ⟨0, rfl, by omega, by rw [List.drop_zero]; exact HA.out⟩
  case round =>
    obtain ⟨k, rfl, hk, HR⟩ := hrel
    by_cases hlt : k < s.size
    · have hx := all_drop (p := okC) (byt_at hlt)
      rw [HR.out] at hx
      have HX := Lib.hid hx
      clear hx
      have i0 : (0 : Int) ≤ (k : Int) := by omega
      have i1 : (k : Int) < (s.size : Int) := by omega
      cases hoc : okC ((s[k]'hlt).toNat : Int) with
      | true =>
        have HN : Hid (((byt s).drop (k + 1)).all okC = b) := by
          show _ = b
          have h3 := HX.out
          rw [hoc, Bool.true_and] at h3
          exact h3.symm
        go_upto_region 7 with fail
        obtain ⟨c, hc⟩ : ∃ c : Int, ((s[k]'hlt).toNat : Int) = c := ⟨_, rfl⟩
        rw [hc] at hoc ⊢
        clear hc
        by_cases h1 : c < 97 <;> by_cases h2 : 122 < c <;> by_cases h3 : c < 48 <;> by_cases h4 : 57 < c <;> by_cases h5 : c = 46 <;> by_cases h6 : c = 45
        all_goals first | (exfalso; omega) | skip
        all_goals first | (exfalso; simp [okC] at hoc; omega) | skip
        all_goals
          clear hoc
          go_wp2_with fail
          go_round
          case rel => exact ⟨k + 1, by go_num, by omega, HN⟩
          case measure => simp [intOf]; omega
      | false =>
        have HN : Hid (b = false) := by
          show b = false
          have h3 := HX.out
          rw [hoc, Bool.false_and] at h3
          exact h3
        go_upto_region 7 with fail
        obtain ⟨c, hc⟩ : ∃ c : Int, ((s[k]'hlt).toNat : Int) = c := ⟨_, rfl⟩
        rw [hc] at hoc ⊢
        clear hc
        by_cases h1 : c < 97 <;> by_cases h2 : 122 < c <;> by_cases h3 : c < 48 <;> by_cases h4 : 57 < c <;> by_cases h5 : c = 46 <;> by_cases h6 : c = 45
        all_goals first | (exfalso; omega) | skip
        all_goals first | (exfalso; simp [okC] at hoc; omega) | skip
        all_goals
          clear hoc
          have e5 : (c != 46) = true := by simp [h5]
          have e6 : (c != 45) = true := by simp [h6]
          go_wp2_with fail
          go_ret
          exact ⟨ret_bool HN.out.symm, rfl⟩
    · have HN : Hid (b = true) := by
        show b = true
        rw [← HR.out, List.drop_eq_nil_of_le (by rw [byt_length]; omega)]
        rfl
      have i1 : ¬ ((k : Int) < (s.size : Int)) := by omega
      go_wp2_with fail
      go_ret
      exact ⟨ret_bool HN.out.symm, rfl⟩

end Go.Proofs.Ytejfilphnebckaa
