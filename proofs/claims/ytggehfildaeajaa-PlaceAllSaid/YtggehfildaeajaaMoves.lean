/-
  The walks of Move, the program's and the page's: both move by whole numbers, exactly.
-/
import Derived.Test.YtggehfildaeajaaWalks
namespace Go.Proofs.Ytggehfildaeajaa
open Go.RowKit Fl

/-- where a move stays a place -/
def mv (x y u v : Nat) : Bool := isP x y && isS u v && may (fint x + fint u) (fint y + fint v)

theorem mv_yes {x y u v : Nat} (h : mv x y u v = true) : isP x y = true ∧ isS u v = true ∧ may (fint x + fint u) (fint y + fint v) = true := by
  unfold mv at h
  simp only [Bool.and_eq_true] at h
  exact ⟨h.1.1, h.1.2, h.2⟩

theorem mv_no {x y u v : Nat} (h : mv x y u v = false) :
    isP x y = false ∨ (isP x y = true ∧ isS u v = false) ∨ (isP x y = true ∧ isS u v = true ∧ may (fint x + fint u) (fint y + fint v) = false) := by
  unfold mv at h
  cases h1 : isP x y
  · exact .inl rfl
  · cases h2 : isS u v
    · exact .inr (.inl ⟨rfl, rfl⟩)
    · rw [h1, h2] at h; exact .inr (.inr ⟨rfl, rfl, by simpa using h⟩)

/-- the sum of a place and a step, as the machine makes it -/
theorem sum_is {x y u v : Nat} (h : isP x y = true) (h' : isS u v = true) :
    ∃ p q, cSumBits .add .f64 x y u v = some (p, q) ∧ Is (D.read p) (fint x + fint u) ∧ Is (D.read q) (fint y + fint v) := by
  obtain ⟨i1, i2, a, b, c, d⟩ := isP_is h
  obtain ⟨i3, i4, e, f, g, k⟩ := isS_is h'
  obtain ⟨p, hp, ip⟩ := add_is i1 i3 (by omega)
  obtain ⟨q, hq, iq⟩ := add_is i2 i4 (by omega)
  refine ⟨p, q, ?_, ip, iq⟩
  unfold cSumBits
  rw [hp, hq]
  rfl

theorem isP_of {p q : Nat} {m n : Int} (h1 : Is (D.read p) m) (h2 : Is (D.read q) n) (b1 : m.natAbs < 9007199254740992) (b2 : n.natAbs < 9007199254740992) :
    isP p q = may m n := by
  unfold isP may
  rw [isW_is h1 b1 (by decide) (by decide), isW_is h2 b2 (by decide) (by decide)]
  rw [Bool.eq_iff_iff]
  simp
  omega

set_option maxHeartbeats 400000 in
theorem move_yes (x y u v : Nat) (h : mv x y u v = true) (w : World) :
    Calls Try.prog 18 #[.complex .f64 x y, .complex .f64 u v] w fun e w' =>
      e = .returned (.tuple #[.complex .f64 (F (fint x + fint u)) (F (fint y + fint v)), .int .i64 0]) ∧ w = w' := by
  obtain ⟨h1, h2, h3⟩ := mv_yes h
  obtain ⟨p, q, hs, ip, iq⟩ := sum_is h1 h2
  obtain ⟨_, _, a, b, c, d⟩ := isP_is h1
  obtain ⟨_, _, e, f, g, k⟩ := isS_is h2
  have hp : isP p q = true := by rw [isP_of ip iq (by omega) (by omega), h3]
  have e1 : fint p = fint x + fint u := fint_is ip (by omega)
  have e2 : fint q = fint y + fint v := fint_is iq (by omega)
  have hrun : ∀ w : World, (binOp .add 23 (.complex .f64 x y) (.complex .f64 u v)).run Try.prog w = .ok (.complex .f64 p q) w :=
    fun w => run_complex_sum w .add (.inl rfl) 23 .f64 x y u v p q hs
  have H1 := Lib.hid h1
  have H2 := Lib.hid h2
  have H3 := Lib.hid h3
  have HP := Lib.hid hp
  have E1 := Lib.hid e1
  have E2 := Lib.hid e2
  clear h h1 h2 h3 hs ip iq hp e1 e2 a b c d e f g k
  go_enter Try.func18, Try.ntmps18
  go_wp2_with fail
  refine (isPlace_any x y _).mono ?_
  rintro e w' ⟨rfl, rfl⟩
  rw [H1.out]
  go_wp2_with fail
  refine (isStep_any u v _).mono ?_
  rintro e w' ⟨rfl, rfl⟩
  rw [H2.out]
  go_wp2_with fail
  refine (parts_yes p q HP.out _).mono ?_
  rintro e w' ⟨rfl, rfl⟩
  rw [E1.out, E2.out]
  go_wp2_with fail
  refine (at_yes _ _ H3.out _).mono ?_
  rintro e w' ⟨rfl, rfl⟩
  go_wp2_with fail
  go_ret2
  exact ⟨rfl, rfl⟩

set_option maxHeartbeats 400000 in
theorem move_no (x y u v : Nat) (h : mv x y u v = false) (w : World) :
    Calls Try.prog 18 #[.complex .f64 x y, .complex .f64 u v] w fun e w' =>
      e = .returned (.tuple #[.complex .f64 0 0, .int .i64 1]) ∧ w = w' := by
  rcases mv_no h with h1 | ⟨h1, h2⟩ | ⟨h1, h2, h3⟩
  · have H1 := Lib.hid h1
    clear h h1
    go_enter Try.func18, Try.ntmps18
    go_wp2_with fail
    refine (isPlace_any x y _).mono ?_
    rintro e w' ⟨rfl, rfl⟩
    rw [H1.out]
    go_wp2_with fail
    go_ret2
    exact ⟨rfl, rfl⟩
  · have H1 := Lib.hid h1
    have H2 := Lib.hid h2
    clear h h1 h2
    go_enter Try.func18, Try.ntmps18
    go_wp2_with fail
    refine (isPlace_any x y _).mono ?_
    rintro e w' ⟨rfl, rfl⟩
    rw [H1.out]
    go_wp2_with fail
    refine (isStep_any u v _).mono ?_
    rintro e w' ⟨rfl, rfl⟩
    rw [H2.out]
    go_wp2_with fail
    go_ret2
    exact ⟨rfl, rfl⟩
  · obtain ⟨p, q, hs, ip, iq⟩ := sum_is h1 h2
    obtain ⟨_, _, a, b, c, d⟩ := isP_is h1
    obtain ⟨_, _, e, f, g, k⟩ := isS_is h2
    have hp : isP p q = false := by rw [isP_of ip iq (by omega) (by omega), h3]
    have hrun : ∀ w : World, (binOp .add 23 (.complex .f64 x y) (.complex .f64 u v)).run Try.prog w = .ok (.complex .f64 p q) w :=
      fun w => run_complex_sum w .add (.inl rfl) 23 .f64 x y u v p q hs
    have H1 := Lib.hid h1
    have H2 := Lib.hid h2
    have HP := Lib.hid hp
    clear h h1 h2 h3 hs ip iq hp a b c d e f g k
    go_enter Try.func18, Try.ntmps18
    go_wp2_with fail
    refine (isPlace_any x y _).mono ?_
    rintro e w' ⟨rfl, rfl⟩
    rw [H1.out]
    go_wp2_with fail
    refine (isStep_any u v _).mono ?_
    rintro e w' ⟨rfl, rfl⟩
    rw [H2.out]
    go_wp2_with fail
    refine (parts_no p q HP.out _).mono ?_
    rintro e w' ⟨rfl, rfl⟩
    go_wp2_with fail
    go_ret2
    exact ⟨rfl, rfl⟩

theorem risW_any {x : Nat} {lo hi : Int} (b1 : lo.natAbs < 9007199254740992) (b2 : hi.natAbs < 9007199254740992) (w : World) :
    Calls Try.prog 21 #[.float .f64 x, .int .i64 lo, .int .i64 hi] w fun e w' => ∃ n : Int, e = .returned (.tuple #[.int .i64 n, .bool (isW x lo hi)]) ∧ w = w' := by
  cases h : isW x lo hi
  · exact (rwhole_no x lo hi b1 b2 h w).mono fun _ _ ⟨n, a, b⟩ => ⟨n, a, b⟩
  · exact (rwhole_yes x lo hi b1 b2 h w).mono fun _ _ ⟨a, b⟩ => ⟨_, a, b⟩

set_option maxHeartbeats 400000 in
theorem rmove_yes (x y u v : Nat) (h : mv x y u v = true) (w : World) :
    Calls Try.prog 19 #[.complex .f64 x y, .complex .f64 u v] w fun e w' =>
      e = .returned (.tuple #[.complex .f64 (F (fint x + fint u)) (F (fint y + fint v)), .bool true]) ∧ w = w' := by
  obtain ⟨h1, h2, h3⟩ := mv_yes h
  obtain ⟨_, _, a, b, c, d⟩ := isP_is h1
  obtain ⟨_, _, e, f, g, k⟩ := isS_is h2
  obtain ⟨h4, h5⟩ := isS_yes h2
  have H1 := Lib.hid h1
  have H3 := Lib.hid h3
  have H4 := Lib.hid h4
  have H5 := Lib.hid h5
  clear h h1 h2 h3 h4 h5
  go_enter Try.func19, Try.ntmps19
  go_wp2_with fail
  refine (rparts_yes x y H1.out _).mono ?_
  rintro e w' ⟨rfl, rfl⟩
  go_wp2_with fail
  refine (rwhole_yes u _ _ (by decide) (by decide) H4.out _).mono ?_
  rintro e w' ⟨rfl, rfl⟩
  go_wp2_with fail
  refine (rwhole_yes v _ _ (by decide) (by decide) H5.out _).mono ?_
  rintro e w' ⟨rfl, rfl⟩
  go_wp2_with fail
  refine (may_any _ _ _).mono ?_
  rintro e w' ⟨rfl, rfl⟩
  rw [H3.out]
  go_wp2_with fail
  refine (rat_any _ _ _).mono ?_
  rintro e w' ⟨rfl, rfl⟩
  go_wp2_with fail
  go_ret2
  exact ⟨rfl, rfl⟩

theorem isS_no {x y : Nat} (h : isS x y = false) : isW x (-1099511627776) 1099511627776 = false ∨ (isW x (-1099511627776) 1099511627776 = true ∧ isW y (-1099511627776) 1099511627776 = false) := by
  unfold isS at h
  cases h1 : isW x (-1099511627776) 1099511627776
  · exact .inl rfl
  · rw [h1] at h; exact .inr ⟨rfl, by simpa using h⟩

set_option maxHeartbeats 400000 in
theorem rmove_no (x y u v : Nat) (h : mv x y u v = false) (w : World) :
    Calls Try.prog 19 #[.complex .f64 x y, .complex .f64 u v] w fun e w' =>
      e = .returned (.tuple #[.complex .f64 0 0, .bool false]) ∧ w = w' := by
  rcases mv_no h with h1 | ⟨h1, h2⟩ | ⟨h1, h2, h3⟩
  · have H1 := Lib.hid h1
    clear h h1
    go_enter Try.func19, Try.ntmps19
    go_wp2_with fail
    refine (rparts_no x y H1.out _).mono ?_
    rintro e w' ⟨rfl, rfl⟩
    go_wp2_with fail
    refine (risW_any (by decide) (by decide) _).mono ?_
    rintro e w' ⟨n1, rfl, rfl⟩
    go_wp2_with fail
    refine (risW_any (by decide) (by decide) _).mono ?_
    rintro e w' ⟨n2, rfl, rfl⟩
    go_wp2_with fail
    go_ret2
    exact ⟨rfl, rfl⟩
  · rcases isS_no h2 with h4 | ⟨h4, h5⟩
    · have H1 := Lib.hid h1
      have H4 := Lib.hid h4
      clear h h1 h2 h4
      go_enter Try.func19, Try.ntmps19
      go_wp2_with fail
      refine (rparts_yes x y H1.out _).mono ?_
      rintro e w' ⟨rfl, rfl⟩
      go_wp2_with fail
      refine (rwhole_no u _ _ (by decide) (by decide) H4.out _).mono ?_
      rintro e w' ⟨n1, rfl, rfl⟩
      go_wp2_with fail
      refine (risW_any (by decide) (by decide) _).mono ?_
      rintro e w' ⟨n2, rfl, rfl⟩
      go_wp2_with fail
      go_ret2
      exact ⟨rfl, rfl⟩
    · have H1 := Lib.hid h1
      have H4 := Lib.hid h4
      have H5 := Lib.hid h5
      clear h h1 h2 h4 h5
      go_enter Try.func19, Try.ntmps19
      go_wp2_with fail
      refine (rparts_yes x y H1.out _).mono ?_
      rintro e w' ⟨rfl, rfl⟩
      go_wp2_with fail
      refine (rwhole_yes u _ _ (by decide) (by decide) H4.out _).mono ?_
      rintro e w' ⟨rfl, rfl⟩
      go_wp2_with fail
      refine (rwhole_no v _ _ (by decide) (by decide) H5.out _).mono ?_
      rintro e w' ⟨n2, rfl, rfl⟩
      go_wp2_with fail
      go_ret2
      exact ⟨rfl, rfl⟩
  · obtain ⟨_, _, a, b, c, d⟩ := isP_is h1
    obtain ⟨_, _, e, f, g, k⟩ := isS_is h2
    obtain ⟨h4, h5⟩ := isS_yes h2
    have H1 := Lib.hid h1
    have H3 := Lib.hid h3
    have H4 := Lib.hid h4
    have H5 := Lib.hid h5
    clear h h1 h2 h3 h4 h5
    go_enter Try.func19, Try.ntmps19
    go_wp2_with fail
    refine (rparts_yes x y H1.out _).mono ?_
    rintro e w' ⟨rfl, rfl⟩
    go_wp2_with fail
    refine (rwhole_yes u _ _ (by decide) (by decide) H4.out _).mono ?_
    rintro e w' ⟨rfl, rfl⟩
    go_wp2_with fail
    refine (rwhole_yes v _ _ (by decide) (by decide) H5.out _).mono ?_
    rintro e w' ⟨rfl, rfl⟩
    go_wp2_with fail
    refine (may_any _ _ _).mono ?_
    rintro e w' ⟨rfl, rfl⟩
    rw [H3.out]
    go_wp2_with fail
    go_ret2
    exact ⟨rfl, rfl⟩

end Go.Proofs.Ytggehfildaeajaa
