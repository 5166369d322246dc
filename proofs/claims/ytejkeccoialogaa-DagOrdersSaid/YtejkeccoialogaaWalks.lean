/-
  The walks of package committee that only reckon, of the page's own, and of what the statements share.
-/
import Derived.Test.YtejkeccoialogaaRows
import Derived.Test.YtejkeccoialogaaPlain
import Derived.WalkSpells
import Derived.WalkLawsBesides
import Derived.Deep.QuietTactic
import Derived.BigQuiet
import Derived.LoopTactic
import Derived.Outline
namespace Go.Proofs.Ytejkeccoialogaa
open Go.RowKit

/-- a committee? -/
def may (n : Int) : Bool := decide (1 ≤ n ∧ n ≤ 16 ∧ n % 3 = 1)
theorem may_yes {n : Int} (h : may n = true) : 1 ≤ n ∧ n ≤ 16 ∧ n % 3 = 1 := by simpa [may] using h
theorem may_no {n : Int} (h : may n = false) : n < 1 ∨ (1 ≤ n ∧ 16 < n) ∨ (1 ≤ n ∧ n ≤ 16 ∧ n % 3 ≠ 1) := by
  have : ¬ (1 ≤ n ∧ n ≤ 16 ∧ n % 3 = 1) := by simpa [may] using h
  omega

theorem ret_pair {k : IntKind} {a b : Int} {x : Value} (h : a = b) : Ending.returned (.tuple #[.int k a, x]) = .returned (.tuple #[.int k b, x]) := by rw [h]
/-- some number, and nothing turned -/
def SomeI (w : World) (e : Ending) (w' : World) : Prop := ∃ m, e = .returned (.int .i64 m) ∧ w = w'

theorem check_yes (n : Int) (h : may n = true) (w : World) : Calls Try.prog 61 #[.int .i64 n] w fun e w' => e = .returned (.int .i64 0) ∧ w = w' := by
  obtain ⟨h1, h2, h3⟩ := may_yes h
  have e1 : (n % 3 == 1) = true := by simp [h3]
  have e2 : (n % 3 != 1) = false := by simp [h3]
  clear h h3
  go_enter Try.func61, Try.ntmps61
  go_wp2
  go_ret
  exact ⟨rfl, rfl⟩
theorem check_no (n : Int) (h : may n = false) (w : World) : Calls Try.prog 61 #[.int .i64 n] w fun e w' => e = .returned (.int .i64 1) ∧ w = w' := by
  rcases may_no h with h1 | ⟨h1, h2⟩ | ⟨h1, h2, h3⟩
  · clear h
    go_enter Try.func61, Try.ntmps61
    go_wp2
    go_ret
    exact ⟨rfl, rfl⟩
  · clear h
    go_enter Try.func61, Try.ntmps61
    go_wp2
    go_ret
    exact ⟨rfl, rfl⟩
  · have e1 : (n % 3 == 1) = false := by simp [h3]
    have e2 : (n % 3 != 1) = true := by simp [h3]
    clear h h3
    go_enter Try.func61, Try.ntmps61
    go_wp2
    go_ret
    exact ⟨rfl, rfl⟩

theorem rmay_yes (n : Int) (h : may n = true) (w : World) : Calls Try.prog 63 #[.int .i64 n] w fun e w' => e = .returned (.bool true) ∧ w = w' := by
  obtain ⟨h1, h2, h3⟩ := may_yes h
  have e1 : (n % 3 == 1) = true := by simp [h3]
  have e2 : (n % 3 != 1) = false := by simp [h3]
  clear h h3
  go_enter Try.func63, Try.ntmps63
  go_wp2
  go_ret
  exact ⟨rfl, rfl⟩
theorem rmay_no (n : Int) (h : may n = false) (w : World) : Calls Try.prog 63 #[.int .i64 n] w fun e w' => e = .returned (.bool false) ∧ w = w' := by
  rcases may_no h with h1 | ⟨h1, h2⟩ | ⟨h1, h2, h3⟩
  · clear h
    go_enter Try.func63, Try.ntmps63
    go_wp2
    go_ret
    exact ⟨rfl, rfl⟩
  · clear h
    go_enter Try.func63, Try.ntmps63
    go_wp2
    go_ret
    exact ⟨rfl, rfl⟩
  · have e1 : (n % 3 == 1) = false := by simp [h3]
    have e2 : (n % 3 != 1) = true := by simp [h3]
    clear h h3
    go_enter Try.func63, Try.ntmps63
    go_wp2
    go_ret
    exact ⟨rfl, rfl⟩

theorem faults_yes (n : Int) (h : may n = true) (w : World) : Calls Try.prog 94 #[.int .i64 n] w fun e w' => e = .returned (.tuple #[.int .i64 (n / 3), .int .i64 0]) ∧ w = w' := by
  obtain ⟨h1, h2, h3⟩ := may_yes h
  have HE := Lib.hid (show (n - 1) / 3 = n / 3 by omega)
  have HM := Lib.hid h
  clear h h3
  go_enter Try.func94, Try.ntmps94
  go_wp2_with (go_at_call 61; refine (check_yes _ HM.out _).mono ?_; rintro e w' ⟨rfl, rfl⟩)
  go_ret2
  exact ⟨ret_pair HE.out, rfl⟩
theorem faults_no (n : Int) (h : may n = false) (w : World) : Calls Try.prog 94 #[.int .i64 n] w fun e w' => e = .returned (.tuple #[.int .i64 0, .int .i64 1]) ∧ w = w' := by
  have HM := Lib.hid h
  clear h
  go_enter Try.func94, Try.ntmps94
  go_wp2_with (go_at_call 61; refine (check_no _ HM.out _).mono ?_; rintro e w' ⟨rfl, rfl⟩)
  go_ret2
  exact ⟨rfl, rfl⟩

theorem quorum_yes (n : Int) (h : may n = true) (w : World) : Calls Try.prog 110 #[.int .i64 n] w fun e w' => e = .returned (.tuple #[.int .i64 (2 * (n / 3) + 1), .int .i64 0]) ∧ w = w' := by
  obtain ⟨h1, h2, h3⟩ := may_yes h
  have HM := Lib.hid h
  have i1 : 0 ≤ n / 3 := by omega
  have i2 : n / 3 ≤ 5 := by omega
  clear h h3
  go_enter Try.func110, Try.ntmps110
  go_wp2_with (go_at_call 94; refine (faults_yes _ HM.out _).mono ?_; rintro e w' ⟨rfl, rfl⟩)
  go_ret2
  exact ⟨rfl, rfl⟩
theorem quorum_no (n : Int) (h : may n = false) (w : World) : Calls Try.prog 110 #[.int .i64 n] w fun e w' => e = .returned (.tuple #[.int .i64 0, .int .i64 1]) ∧ w = w' := by
  have HM := Lib.hid h
  clear h
  go_enter Try.func110, Try.ntmps110
  go_wp2_with (go_at_call 94; refine (faults_no _ HM.out _).mono ?_; rintro e w' ⟨rfl, rfl⟩)
  go_ret2
  exact ⟨rfl, rfl⟩
theorem few_yes (n : Int) (h : may n = true) (w : World) : Calls Try.prog 70 #[.int .i64 n] w fun e w' => e = .returned (.tuple #[.int .i64 (n / 3 + 1), .int .i64 0]) ∧ w = w' := by
  obtain ⟨h1, h2, h3⟩ := may_yes h
  have HM := Lib.hid h
  have i1 : 0 ≤ n / 3 := by omega
  have i2 : n / 3 ≤ 5 := by omega
  clear h h3
  go_enter Try.func70, Try.ntmps70
  go_wp2_with (go_at_call 94; refine (faults_yes _ HM.out _).mono ?_; rintro e w' ⟨rfl, rfl⟩)
  go_ret2
  exact ⟨rfl, rfl⟩
theorem few_no (n : Int) (h : may n = false) (w : World) : Calls Try.prog 70 #[.int .i64 n] w fun e w' => e = .returned (.tuple #[.int .i64 0, .int .i64 1]) ∧ w = w' := by
  have HM := Lib.hid h
  clear h
  go_enter Try.func70, Try.ntmps70
  go_wp2_with (go_at_call 94; refine (faults_no _ HM.out _).mono ?_; rintro e w' ⟨rfl, rfl⟩)
  go_ret2
  exact ⟨rfl, rfl⟩


theorem rquorum_yes (n : Int) (h : may n = true) (w : World) : Calls Try.prog 79 #[.int .i64 n] w fun e w' => e = .returned (.int .i64 (2 * (n / 3) + 1)) ∧ w = w' := by
  obtain ⟨h1, h2, h3⟩ := may_yes h
  have i1 : 0 ≤ n / 3 := by omega
  have i2 : n / 3 ≤ 5 := by omega
  clear h h3
  go_enter Try.func79, Try.ntmps79
  go_wp2
  go_ret
  exact ⟨rfl, rfl⟩
theorem rquorum_some (n : Int) (w : World) : Calls Try.prog 79 #[.int .i64 n] w (SomeI w) := by
  go_enter Try.func79, Try.ntmps79
  go_wp2
  go_ret
  exact ⟨_, rfl, rfl⟩

theorem rfew_yes (n : Int) (h : may n = true) (w : World) : Calls Try.prog 67 #[.int .i64 n] w fun e w' => e = .returned (.int .i64 (n / 3 + 1)) ∧ w = w' := by
  obtain ⟨h1, h2, h3⟩ := may_yes h
  have i1 : 0 ≤ n / 3 := by omega
  have i2 : n / 3 ≤ 5 := by omega
  clear h h3
  go_enter Try.func67, Try.ntmps67
  go_wp2
  go_ret
  exact ⟨rfl, rfl⟩
theorem rfew_some (n : Int) (w : World) : Calls Try.prog 67 #[.int .i64 n] w (SomeI w) := by
  go_enter Try.func67, Try.ntmps67
  go_wp2
  go_ret
  exact ⟨_, rfl, rfl⟩

/-- an even round? -/
def evn (r : Int) : Bool := decide (2 ≤ r ∧ r ≤ 1099511627776 ∧ r % 2 = 0)
theorem evn_yes {r : Int} (h : evn r = true) : 2 ≤ r ∧ r ≤ 1099511627776 ∧ r % 2 = 0 := by simpa [evn] using h
theorem evn_no {r : Int} (h : evn r = false) : r < 2 ∨ (2 ≤ r ∧ 1099511627776 < r) ∨ (2 ≤ r ∧ r ≤ 1099511627776 ∧ r % 2 ≠ 0) := by
  have : ¬ (2 ≤ r ∧ r ≤ 1099511627776 ∧ r % 2 = 0) := by simpa [evn] using h
  omega

theorem reven_yes (r : Int) (h : evn r = true) (w : World) : Calls Try.prog 26 #[.int .i64 r] w fun e w' => e = .returned (.bool true) ∧ w = w' := by
  obtain ⟨h1, h2, h3⟩ := evn_yes h
  have e1 : (r % 2 == 0) = true := by simp [h3]
  have e2 : (r % 2 != 0) = false := by simp [h3]
  clear h h3
  go_enter Try.func26, Try.ntmps26
  go_wp2
  go_ret
  exact ⟨rfl, rfl⟩

theorem reven_no (r : Int) (h : evn r = false) (w : World) : Calls Try.prog 26 #[.int .i64 r] w fun e w' => e = .returned (.bool false) ∧ w = w' := by
  rcases evn_no h with h1 | ⟨h1, h2⟩ | ⟨h1, h2, h3⟩
  · clear h
    go_enter Try.func26, Try.ntmps26
    go_wp2
    go_ret
    exact ⟨rfl, rfl⟩
  · clear h
    go_enter Try.func26, Try.ntmps26
    go_wp2
    go_ret
    exact ⟨rfl, rfl⟩
  · have e1 : (r % 2 == 0) = false := by simp [h3]
    have e2 : (r % 2 != 0) = true := by simp [h3]
    clear h h3
    go_enter Try.func26, Try.ntmps26
    go_wp2
    go_ret
    exact ⟨rfl, rfl⟩

theorem leader_yes (n r : Int) (hm : may n = true) (h : evn r = true) (w : World) : Calls Try.prog 66 #[.int .i64 n, .int .i64 r] w fun e w' => e = .returned (.tuple #[.int .i64 ((r / 2 - 1) % n + 1), .int .i64 0]) ∧ w = w' := by
  obtain ⟨h1, h2, h3⟩ := evn_yes h
  obtain ⟨m1, m2, m3⟩ := may_yes hm
  have e1 : (r % 2 == 0) = true := by simp [h3]
  have e2 : (r % 2 != 0) = false := by simp [h3]
  have j0 : (n == 0) = false := by simp; omega
  have j1 : 0 ≤ r / 2 - 1 := by omega
  have j2 : r / 2 - 1 ≤ 1099511627776 := by omega
  have j3 : 0 ≤ (r / 2 - 1) % n := Int.emod_nonneg _ (by omega)
  have j4 : (r / 2 - 1) % n < n := Int.emod_lt_of_pos _ (by omega)
  have HM := Lib.hid hm
  clear h h3 m3 hm
  go_enter Try.func66, Try.ntmps66
  go_wp2_with (go_at_call 61; refine (check_yes _ HM.out _).mono ?_; rintro e w' ⟨rfl, rfl⟩)
  go_ret2
  exact ⟨rfl, rfl⟩
theorem leader_not (n r : Int) (hm : may n = false) (w : World) : Calls Try.prog 66 #[.int .i64 n, .int .i64 r] w fun e w' => e = .returned (.tuple #[.int .i64 0, .int .i64 1]) ∧ w = w' := by
  have HM := Lib.hid hm
  clear hm
  go_enter Try.func66, Try.ntmps66
  go_wp2_with (go_at_call 61; refine (check_no _ HM.out _).mono ?_; rintro e w' ⟨rfl, rfl⟩)
  go_ret2
  exact ⟨rfl, rfl⟩

theorem leader_odd (n r : Int) (hm : may n = true) (h : evn r = false) (w : World) : Calls Try.prog 66 #[.int .i64 n, .int .i64 r] w fun e w' => e = .returned (.tuple #[.int .i64 0, .int .i64 1]) ∧ w = w' := by
  have HM := Lib.hid hm
  clear hm
  rcases evn_no h with h1 | ⟨h1, h2⟩ | ⟨h1, h2, h3⟩
  · clear h
    go_enter Try.func66, Try.ntmps66
    go_wp2_with (go_at_call 61; refine (check_yes _ HM.out _).mono ?_; rintro e w' ⟨rfl, rfl⟩)
    go_ret2
    exact ⟨rfl, rfl⟩
  · clear h
    go_enter Try.func66, Try.ntmps66
    go_wp2_with (go_at_call 61; refine (check_yes _ HM.out _).mono ?_; rintro e w' ⟨rfl, rfl⟩)
    go_ret2
    exact ⟨rfl, rfl⟩
  · have e1 : (r % 2 == 0) = false := by simp [h3]
    have e2 : (r % 2 != 0) = true := by simp [h3]
    clear h h3
    go_enter Try.func66, Try.ntmps66
    go_wp2_with (go_at_call 61; refine (check_yes _ HM.out _).mono ?_; rintro e w' ⟨rfl, rfl⟩)
    go_ret2
    exact ⟨rfl, rfl⟩

theorem rleader_yes (n r : Int) (hm : may n = true) (h : evn r = true) (w : World) : Calls Try.prog 64 #[.int .i64 n, .int .i64 r] w fun e w' => e = .returned (.int .i64 ((r / 2 - 1) % n + 1)) ∧ w = w' := by
  obtain ⟨h1, h2, h3⟩ := evn_yes h
  obtain ⟨m1, m2, m3⟩ := may_yes hm
  have j0 : (n == 0) = false := by simp; omega
  have j1 : 0 ≤ r / 2 - 1 := by omega
  have j2 : r / 2 - 1 ≤ 1099511627776 := by omega
  have j3 : 0 ≤ (r / 2 - 1) % n := Int.emod_nonneg _ (by omega)
  have j4 : (r / 2 - 1) % n < n := Int.emod_lt_of_pos _ (by omega)
  clear h h3 m3 hm
  go_enter Try.func64, Try.ntmps64
  go_wp2
  go_ret
  exact ⟨rfl, rfl⟩

theorem faults_is (n x : Int) (h : may n = true) (hx : n / 3 = x) (w : World) : Calls Try.prog 94 #[.int .i64 n] w fun e w' => e = .returned (.tuple #[.int .i64 x, .int .i64 0]) ∧ w = w' :=
  hx ▸ faults_yes n h w
theorem quorum_is (n x : Int) (h : may n = true) (hx : 2 * (n / 3) + 1 = x) (w : World) : Calls Try.prog 110 #[.int .i64 n] w fun e w' => e = .returned (.tuple #[.int .i64 x, .int .i64 0]) ∧ w = w' :=
  hx ▸ quorum_yes n h w
theorem few_is (n x : Int) (h : may n = true) (hx : n / 3 + 1 = x) (w : World) : Calls Try.prog 70 #[.int .i64 n] w fun e w' => e = .returned (.tuple #[.int .i64 x, .int .i64 0]) ∧ w = w' :=
  hx ▸ few_yes n h w

/-- the leader, by its name -/
theorem leader_is (n r x : Int) (hm : may n = true) (h : evn r = true) (hx : (r / 2 - 1) % n + 1 = x) (w : World) : Calls Try.prog 66 #[.int .i64 n, .int .i64 r] w fun e w' => e = .returned (.tuple #[.int .i64 x, .int .i64 0]) ∧ w = w' :=
  hx ▸ leader_yes n r hm h w
theorem turn_round (n r : Int) : ((r + 2 * n) / 2 - 1) % n + 1 = (r / 2 - 1) % n + 1 := by
  have e : (r + 2 * n) / 2 - 1 = r / 2 - 1 + n := by omega
  rw [e, Int.add_emod_right]
theorem turn_next (n r : Int) : ((r + 2) / 2 - 1) % n + 1 = ((r / 2 - 1) % n + 1) % n + 1 := by
  have e : (r + 2) / 2 - 1 = r / 2 - 1 + 1 := by omega
  rw [e, Int.emod_add_emod]

end Go.Proofs.Ytejkeccoialogaa
