/-
  The walks of package place and of the page's own answers: what each call returns, said by 'fint' and 'isW' of the parts.
-/
import Derived.Test.YtlblhpbhcaljhaaRows
import Derived.Test.YtlblhpbhcaljhaaPFl
import Derived.WalkKit
import Derived.WalkSpells
import Derived.WalkLawsBesides
import Derived.Lib.Hide
import Derived.Laws.Cover2
import Derived.Laws.Cover3
import Derived.Laws.FloatArith
import Derived.Laws.ComplexArith
namespace Go.Proofs.Ytlblhpbhcaljhaa.Pl
open Go.RowKit Fl

theorem int_convert (x : Nat) (h : floatToIntVal .f64 x .i64 = some (fint x)) (w : World) :
    (convert 60 3 (.float .f64 x)).run Try.prog w = .ok (.int .i64 (fint x)) w :=
  run_convert_float_int w 60 3 .f64 .i64 x (fint x) (by rw [Try.underlying60]; rfl) Try.underlying3 h

theorem isW_parts {x : Nat} {lo hi : Int} (h : isW x lo hi = true) : geB x lo = true ∧ leB x hi = true ∧ eqB (fint x) x = true := by
  unfold isW at h
  simp only [Bool.and_eq_true] at h
  exact ⟨h.1.1, h.1.2, h.2⟩

theorem neq_of_eqB {x : Nat} {n : Int} {b : Bool} (h : eqB n x = b) : (FloatKind.f64.format.order (floatOfInt .f64 n) x != some .eq) = !b := by
  unfold eqB at h
  rw [bne, h]

set_option maxHeartbeats 400000 in
theorem whole_yes (x : Nat) (lo hi : Int) (b1 : lo.natAbs < 9007199254740992) (b2 : hi.natAbs < 9007199254740992) (h : isW x lo hi = true) (w : World) :
    Calls Try.prog 84 #[.float .f64 x, .int .i64 lo, .int .i64 hi] w fun e w' => e = .returned (.tuple #[.int .i64 (fint x), .bool true]) ∧ w = w' := by
  obtain ⟨h1, h2, h3⟩ := isW_parts h
  have hcv := int_convert x (int_between h1 h2 b1 b2).1
  have h4 := neq_of_eqB h3
  clear b1 b2 h h3
  unfold geB at h1
  unfold leB at h2
  simp only [Bool.not_true] at h4
  go_enter Try.func84, Try.ntmps84
  go_wp2
  go_ret2
  exact ⟨rfl, rfl⟩

set_option maxHeartbeats 400000 in
theorem whole_no (x : Nat) (lo hi : Int) (b1 : lo.natAbs < 9007199254740992) (b2 : hi.natAbs < 9007199254740992) (h : isW x lo hi = false) (w : World) :
    Calls Try.prog 84 #[.float .f64 x, .int .i64 lo, .int .i64 hi] w fun e w' => e = .returned (.tuple #[.int .i64 0, .bool false]) ∧ w = w' := by
  by_cases h1 : geB x lo = true
  · by_cases h2 : leB x hi = true
    · have h3 : eqB (fint x) x = false := by unfold isW at h; rw [h1, h2] at h; simpa using h
      have hcv := int_convert x (int_between h1 h2 b1 b2).1
      have h4 := neq_of_eqB h3
      clear b1 b2 h h3
      unfold geB at h1
      unfold leB at h2
      simp only [Bool.not_false] at h4
      go_enter Try.func84, Try.ntmps84
      go_wp2
      go_ret2
      exact ⟨rfl, rfl⟩
    · clear b1 b2 h
      simp only [Bool.not_eq_true] at h2
      unfold geB at h1
      unfold leB at h2
      go_enter Try.func84, Try.ntmps84
      go_wp2
      go_ret2
      exact ⟨rfl, rfl⟩
  · clear b1 b2 h
    simp only [Bool.not_eq_true] at h1
    unfold geB at h1
    go_enter Try.func84, Try.ntmps84
    go_wp2
    go_ret2
    exact ⟨rfl, rfl⟩

set_option maxHeartbeats 400000 in
theorem rwhole_yes (x : Nat) (lo hi : Int) (b1 : lo.natAbs < 9007199254740992) (b2 : hi.natAbs < 9007199254740992) (h : isW x lo hi = true) (w : World) :
    Calls Try.prog 68 #[.float .f64 x, .int .i64 lo, .int .i64 hi] w fun e w' => e = .returned (.tuple #[.int .i64 (fint x), .bool true]) ∧ w = w' := by
  obtain ⟨h1, h2, h3⟩ := isW_parts h
  have hcv := int_convert x (int_between h1 h2 b1 b2).1
  clear b1 b2 h
  unfold geB at h1
  unfold leB at h2
  unfold eqB at h3
  go_enter Try.func68, Try.ntmps68
  go_wp2
  go_ret2
  exact ⟨rfl, rfl⟩

set_option maxHeartbeats 400000 in
theorem rwhole_no (x : Nat) (lo hi : Int) (b1 : lo.natAbs < 9007199254740992) (b2 : hi.natAbs < 9007199254740992) (h : isW x lo hi = false) (w : World) :
    Calls Try.prog 68 #[.float .f64 x, .int .i64 lo, .int .i64 hi] w fun e w' => ∃ n : Int, e = .returned (.tuple #[.int .i64 n, .bool false]) ∧ w = w' := by
  by_cases h1 : geB x lo = true
  · by_cases h2 : leB x hi = true
    · have h3 : eqB (fint x) x = false := by unfold isW at h; rw [h1, h2] at h; simpa using h
      have hcv := int_convert x (int_between h1 h2 b1 b2).1
      clear b1 b2 h
      unfold geB at h1
      unfold leB at h2
      unfold eqB at h3
      go_enter Try.func68, Try.ntmps68
      go_wp2
      go_ret2
      exact ⟨_, rfl, rfl⟩
    · clear b1 b2 h
      simp only [Bool.not_eq_true] at h2
      unfold geB at h1
      unfold leB at h2
      go_enter Try.func68, Try.ntmps68
      go_wp2
      go_ret2
      exact ⟨_, rfl, rfl⟩
  · clear b1 b2 h
    simp only [Bool.not_eq_true] at h1
    unfold geB at h1
    go_enter Try.func68, Try.ntmps68
    go_wp2
    go_ret2
    exact ⟨_, rfl, rfl⟩

/-- the parts of a place, of a step -/
def isP (x y : Nat) : Bool := isW x 0 1099511627776 && isW y 1 16
def isS (x y : Nat) : Bool := isW x (-1099511627776) 1099511627776 && isW y (-1099511627776) 1099511627776

theorem isP_yes {x y : Nat} (h : isP x y = true) : isW x 0 1099511627776 = true ∧ isW y 1 16 = true := by
  unfold isP at h; simpa using h
theorem isP_no {x y : Nat} (h : isP x y = false) : isW x 0 1099511627776 = false ∨ (isW x 0 1099511627776 = true ∧ isW y 1 16 = false) := by
  unfold isP at h
  cases h1 : isW x 0 1099511627776
  · exact .inl rfl
  · rw [h1] at h; exact .inr ⟨rfl, by simpa using h⟩
theorem isS_yes {x y : Nat} (h : isS x y = true) : isW x (-1099511627776) 1099511627776 = true ∧ isW y (-1099511627776) 1099511627776 = true := by
  unfold isS at h; simpa using h

set_option maxHeartbeats 400000 in
theorem parts_yes (x y : Nat) (h : isP x y = true) (w : World) :
    Calls Try.prog 69 #[.complex .f64 x y] w fun e w' => e = .returned (.tuple #[.int .i64 (fint x), .int .i64 (fint y), .int .i64 0]) ∧ w = w' := by
  obtain ⟨h1, h2⟩ := isP_yes h
  have H1 := Lib.hid h1
  have H2 := Lib.hid h2
  clear h h1 h2
  go_enter Try.func69, Try.ntmps69
  go_wp2_with fail
  refine (whole_yes x 0 1099511627776 (by decide) (by decide) H1.out _).mono ?_
  rintro e w' ⟨rfl, rfl⟩
  go_wp2_with fail
  refine (whole_yes y 1 16 (by decide) (by decide) H2.out _).mono ?_
  rintro e w' ⟨rfl, rfl⟩
  go_wp2_with fail
  go_ret3
  exact ⟨rfl, rfl⟩

set_option maxHeartbeats 400000 in
theorem parts_no (x y : Nat) (h : isP x y = false) (w : World) :
    Calls Try.prog 69 #[.complex .f64 x y] w fun e w' => e = .returned (.tuple #[.int .i64 0, .int .i64 0, .int .i64 1]) ∧ w = w' := by
  rcases isP_no h with h1 | ⟨h1, h2⟩
  · have H1 := Lib.hid h1
    clear h h1
    cases h2 : isW y 1 16
    all_goals
      have H2 := Lib.hid h2
      clear h2
      go_enter Try.func69, Try.ntmps69
      go_wp2_with fail
      refine (whole_no x 0 1099511627776 (by decide) (by decide) H1.out _).mono ?_
      rintro e w' ⟨rfl, rfl⟩
      go_wp2_with fail
      first
        | refine (whole_no y 1 16 (by decide) (by decide) H2.out _).mono ?_
        | refine (whole_yes y 1 16 (by decide) (by decide) H2.out _).mono ?_
      rintro e w' ⟨rfl, rfl⟩
      go_wp2_with fail
      go_ret3
      exact ⟨rfl, rfl⟩
  · have H1 := Lib.hid h1
    have H2 := Lib.hid h2
    clear h h1 h2
    go_enter Try.func69, Try.ntmps69
    go_wp2_with fail
    refine (whole_yes x 0 1099511627776 (by decide) (by decide) H1.out _).mono ?_
    rintro e w' ⟨rfl, rfl⟩
    go_wp2_with fail
    refine (whole_no y 1 16 (by decide) (by decide) H2.out _).mono ?_
    rintro e w' ⟨rfl, rfl⟩
    go_wp2_with fail
    go_ret3
    exact ⟨rfl, rfl⟩

set_option maxHeartbeats 400000 in
theorem rparts_yes (x y : Nat) (h : isP x y = true) (w : World) :
    Calls Try.prog 33 #[.complex .f64 x y] w fun e w' => e = .returned (.tuple #[.int .i64 (fint x), .int .i64 (fint y), .bool true]) ∧ w = w' := by
  obtain ⟨h1, h2⟩ := isP_yes h
  have H1 := Lib.hid h1
  have H2 := Lib.hid h2
  clear h h1 h2
  go_enter Try.func33, Try.ntmps33
  go_wp2_with fail
  refine (rwhole_yes x 0 1099511627776 (by decide) (by decide) H1.out _).mono ?_
  rintro e w' ⟨rfl, rfl⟩
  go_wp2_with fail
  refine (rwhole_yes y 1 16 (by decide) (by decide) H2.out _).mono ?_
  rintro e w' ⟨rfl, rfl⟩
  go_wp2_with fail
  go_ret3
  exact ⟨rfl, rfl⟩

set_option maxHeartbeats 400000 in
theorem rparts_no (x y : Nat) (h : isP x y = false) (w : World) :
    Calls Try.prog 33 #[.complex .f64 x y] w fun e w' => e = .returned (.tuple #[.int .i64 0, .int .i64 0, .bool false]) ∧ w = w' := by
  rcases isP_no h with h1 | ⟨h1, h2⟩
  · have H1 := Lib.hid h1
    clear h h1
    cases h2 : isW y 1 16
    · have H2 := Lib.hid h2
      clear h2
      go_enter Try.func33, Try.ntmps33
      go_wp2_with fail
      refine (rwhole_no x 0 1099511627776 (by decide) (by decide) H1.out _).mono ?_
      rintro e w' ⟨n, rfl, rfl⟩
      go_wp2_with fail
      refine (rwhole_no y 1 16 (by decide) (by decide) H2.out _).mono ?_
      rintro e w' ⟨n', rfl, rfl⟩
      go_wp2_with fail
      go_ret3
      exact ⟨rfl, rfl⟩
    · have H2 := Lib.hid h2
      clear h2
      go_enter Try.func33, Try.ntmps33
      go_wp2_with fail
      refine (rwhole_no x 0 1099511627776 (by decide) (by decide) H1.out _).mono ?_
      rintro e w' ⟨n, rfl, rfl⟩
      go_wp2_with fail
      refine (rwhole_yes y 1 16 (by decide) (by decide) H2.out _).mono ?_
      rintro e w' ⟨rfl, rfl⟩
      go_wp2_with fail
      go_ret3
      exact ⟨rfl, rfl⟩
  · have H1 := Lib.hid h1
    have H2 := Lib.hid h2
    clear h h1 h2
    go_enter Try.func33, Try.ntmps33
    go_wp2_with fail
    refine (rwhole_yes x 0 1099511627776 (by decide) (by decide) H1.out _).mono ?_
    rintro e w' ⟨rfl, rfl⟩
    go_wp2_with fail
    refine (rwhole_no y 1 16 (by decide) (by decide) H2.out _).mono ?_
    rintro e w' ⟨n', rfl, rfl⟩
    go_wp2_with fail
    go_ret3
    exact ⟨rfl, rfl⟩

set_option maxHeartbeats 400000 in
theorem isPlace_any (x y : Nat) (w : World) :
    Calls Try.prog 91 #[.complex .f64 x y] w fun e w' => e = .returned (.bool (isP x y)) ∧ w = w' := by
  cases h : isP x y
  · have H := Lib.hid h
    clear h
    go_enter Try.func91, Try.ntmps91
    go_wp2_with fail
    refine (parts_no x y H.out _).mono ?_
    rintro e w' ⟨rfl, rfl⟩
    go_wp2_with fail
    go_ret
    exact ⟨rfl, rfl⟩
  · have H := Lib.hid h
    clear h
    go_enter Try.func91, Try.ntmps91
    go_wp2_with fail
    refine (parts_yes x y H.out _).mono ?_
    rintro e w' ⟨rfl, rfl⟩
    go_wp2_with fail
    go_ret
    exact ⟨rfl, rfl⟩

theorem isW_any {x : Nat} {lo hi : Int} (b1 : lo.natAbs < 9007199254740992) (b2 : hi.natAbs < 9007199254740992) (w : World) :
    Calls Try.prog 84 #[.float .f64 x, .int .i64 lo, .int .i64 hi] w fun e w' => ∃ n : Int, e = .returned (.tuple #[.int .i64 n, .bool (isW x lo hi)]) ∧ w = w' := by
  cases h : isW x lo hi
  · exact (whole_no x lo hi b1 b2 h w).mono fun _ _ ⟨a, b⟩ => ⟨_, a, b⟩
  · exact (whole_yes x lo hi b1 b2 h w).mono fun _ _ ⟨a, b⟩ => ⟨_, a, b⟩

/-- rounds and authors that may be -/
def may (r a : Int) : Bool := decide (0 ≤ r ∧ r ≤ 1099511627776 ∧ 1 ≤ a ∧ a ≤ 16)

set_option maxHeartbeats 400000 in
theorem at_yes (r a : Int) (h : may r a = true) (w : World) :
    Calls Try.prog 76 #[.int .i64 r, .int .i64 a] w fun e w' => e = .returned (.tuple #[.complex .f64 (F r) (F a), .int .i64 0]) ∧ w = w' := by
  unfold may at h
  simp only [decide_eq_true_eq] at h
  obtain ⟨h1, h2, h3, h4⟩ := h
  go_enter Try.func76, Try.ntmps76
  go_wp2
  go_ret2
  exact ⟨rfl, rfl⟩

set_option maxHeartbeats 400000 in
theorem at_no (r a : Int) (h : may r a = false) (w : World) :
    Calls Try.prog 76 #[.int .i64 r, .int .i64 a] w fun e w' => e = .returned (.tuple #[.complex .f64 0 0, .int .i64 1]) ∧ w = w' := by
  unfold may at h
  simp only [decide_eq_false_iff_not] at h
  have h' : r < 0 ∨ (0 ≤ r ∧ 1099511627776 < r) ∨ (0 ≤ r ∧ r ≤ 1099511627776 ∧ a < 1) ∨ (0 ≤ r ∧ r ≤ 1099511627776 ∧ 1 ≤ a ∧ 16 < a) := by omega
  clear h
  rcases h' with h1 | ⟨h1, h2⟩ | ⟨h1, h2, h3⟩ | ⟨h1, h2, h3, h4⟩
  all_goals
    go_enter Try.func76, Try.ntmps76
    go_wp2
    go_ret2
    exact ⟨rfl, rfl⟩

theorem three : (FloatKind.f64.format.order (floatOfInt .f64 3) 4613937818241073152 == some .eq) = true := by decide +kernel
theorem two : (FloatKind.f64.format.order (floatOfInt .f64 2) 4611686018427387904 == some .eq) = true := by decide +kernel

/-- ahead: an earlier round, or the same and a smaller author -/
def bef (r a s b : Int) : Bool := decide (r < s) || (decide (r = s) && decide (a < b))

theorem order_ints {x u : Nat} {r s : Int} (h1 : Is (D.read x) r) (h2 : Is (D.read u) s) : FloatKind.f64.format.order x u = some (compare r s) := order_both h1 h2
theorem neq_ints {x u : Nat} {r s : Int} (h1 : Is (D.read x) r) (h2 : Is (D.read u) s) : (FloatKind.f64.format.order x u != some .eq) = decide (r ≠ s) := by
  rw [order_ints h1 h2]
  rcases Int.lt_trichotomy r s with hl | hl | hl
  · rw [Int.compare_eq_lt.2 hl, decide_eq_true (show r ≠ s by omega)]; rfl
  · subst hl; simp
  · rw [Int.compare_eq_gt.2 hl, decide_eq_true (show r ≠ s by omega)]; rfl
theorem eq_ints {x u : Nat} {r s : Int} (h1 : Is (D.read x) r) (h2 : Is (D.read u) s) : (FloatKind.f64.format.order x u == some .eq) = decide (r = s) := by
  rw [order_ints h1 h2]
  rcases Int.lt_trichotomy r s with hl | hl | hl
  · rw [Int.compare_eq_lt.2 hl]; simp; omega
  · subst hl; simp
  · rw [Int.compare_eq_gt.2 hl]; simp; omega
theorem lt_ints {x u : Nat} {r s : Int} (h1 : Is (D.read x) r) (h2 : Is (D.read u) s) : (FloatKind.f64.format.order x u == some .lt) = decide (r < s) := by
  rw [order_ints h1 h2]
  rcases Int.lt_trichotomy r s with hl | hl | hl
  · rw [Int.compare_eq_lt.2 hl]; simp; omega
  · subst hl; simp
  · rw [Int.compare_eq_gt.2 hl]; simp; omega

theorem isP_is {x y : Nat} (h : isP x y = true) : Is (D.read x) (fint x) ∧ Is (D.read y) (fint y) ∧ 0 ≤ fint x ∧ fint x ≤ 1099511627776 ∧ 1 ≤ fint y ∧ fint y ≤ 16 := by
  obtain ⟨h1, h2⟩ := isP_yes h
  obtain ⟨a, b, c⟩ := isW_iff (by decide) (by decide) h1
  obtain ⟨d, e, f⟩ := isW_iff (by decide) (by decide) h2
  exact ⟨a, d, b, c, e, f⟩
theorem isS_is {x y : Nat} (h : isS x y = true) : Is (D.read x) (fint x) ∧ Is (D.read y) (fint y) ∧ -1099511627776 ≤ fint x ∧ fint x ≤ 1099511627776 ∧ -1099511627776 ≤ fint y ∧ fint y ≤ 1099511627776 := by
  obtain ⟨h1, h2⟩ := isS_yes h
  obtain ⟨a, b, c⟩ := isW_iff (by decide) (by decide) h1
  obtain ⟨d, e, f⟩ := isW_iff (by decide) (by decide) h2
  exact ⟨a, d, b, c, e, f⟩

set_option maxHeartbeats 400000 in
theorem before_yes (x y u v : Nat) (h : isP x y = true) (h' : isP u v = true) (w : World) :
    Calls Try.prog 75 #[.complex .f64 x y, .complex .f64 u v] w fun e w' => e = .returned (.tuple #[.bool (bef (fint x) (fint y) (fint u) (fint v)), .int .i64 0]) ∧ w = w' := by
  obtain ⟨i1, i2, _⟩ := isP_is h
  obtain ⟨i3, i4, _⟩ := isP_is h'
  have q1 := neq_ints i1 i3
  have q2 := lt_ints i1 i3
  have q3 := lt_ints i2 i4
  have H : Hid (isP x y = true) := h
  have H' : Hid (isP u v = true) := h'
  clear h h' i1 i2 i3 i4
  unfold bef
  by_cases hc : fint x = fint u
  · have q1' : (FloatKind.f64.format.order x u != some .eq) = false := by rw [q1]; simp [hc]
    have Q2 := Lib.hid q2
    have Q3 := Lib.hid q3
    have C := Lib.hid hc
    clear q1 q2 q3 hc
    go_enter Try.func75, Try.ntmps75
    go_wp2_with fail
    refine (isPlace_any x y _).mono ?_
    rintro e w' ⟨rfl, rfl⟩
    rw [H]
    go_wp2_with fail
    refine (isPlace_any u v _).mono ?_
    rintro e w' ⟨rfl, rfl⟩
    rw [H']
    go_wp2_with fail
    go_ret2
    exact ⟨by simp [C.out, Q3.out], rfl⟩
  · have q1' : (FloatKind.f64.format.order x u != some .eq) = true := by rw [q1]; simp [hc]
    have Q2 := Lib.hid q2
    have Q3 := Lib.hid q3
    have C := Lib.hid hc
    clear q1 q2 q3 hc
    go_enter Try.func75, Try.ntmps75
    go_wp2_with fail
    refine (isPlace_any x y _).mono ?_
    rintro e w' ⟨rfl, rfl⟩
    rw [H]
    go_wp2_with fail
    refine (isPlace_any u v _).mono ?_
    rintro e w' ⟨rfl, rfl⟩
    rw [H']
    go_wp2_with fail
    go_ret2
    exact ⟨by simp [C.out, Q2.out], rfl⟩

set_option maxHeartbeats 400000 in
theorem before_no (x y u v : Nat) (h : (isP x y && isP u v) = false) (w : World) :
    Calls Try.prog 75 #[.complex .f64 x y, .complex .f64 u v] w fun e w' => e = .returned (.tuple #[.bool false, .int .i64 1]) ∧ w = w' := by
  cases h1 : isP x y
  · have H1 := Lib.hid h1
    clear h h1
    go_enter Try.func75, Try.ntmps75
    go_wp2_with fail
    refine (isPlace_any x y _).mono ?_
    rintro e w' ⟨rfl, rfl⟩
    rw [H1.out]
    go_wp2_with fail
    go_ret2
    exact ⟨rfl, rfl⟩
  · have h2 : isP u v = false := by rw [h1] at h; simpa using h
    have H1 := Lib.hid h1
    have H2 := Lib.hid h2
    clear h h1 h2
    go_enter Try.func75, Try.ntmps75
    go_wp2_with fail
    refine (isPlace_any x y _).mono ?_
    rintro e w' ⟨rfl, rfl⟩
    rw [H1.out]
    go_wp2_with fail
    refine (isPlace_any u v _).mono ?_
    rintro e w' ⟨rfl, rfl⟩
    rw [H2.out]
    go_wp2_with fail
    go_ret2
    exact ⟨rfl, rfl⟩

set_option maxHeartbeats 400000 in
theorem rbefore_any (r a s b : Int) (w : World) :
    Calls Try.prog 54 #[.int .i64 r, .int .i64 a, .int .i64 s, .int .i64 b] w fun e w' => e = .returned (.bool (bef r a s b)) ∧ w = w' := by
  unfold bef
  rcases Int.lt_trichotomy r s with hl | hl | hl
  · go_enter Try.func54, Try.ntmps54
    go_wp2
    go_ret
    exact ⟨by simp [hl], rfl⟩
  · subst hl
    go_enter Try.func54, Try.ntmps54
    go_wp2
    go_ret
    exact ⟨by simp, rfl⟩
  · have hn : ¬ r < s := by omega
    have he : (r == s) = false := by rw [beq_eq_false_iff_ne]; omega
    go_enter Try.func54, Try.ntmps54
    go_wp2
    go_ret
    exact ⟨by simp; omega, rfl⟩

end Go.Proofs.Ytlblhpbhcaljhaa.Pl
