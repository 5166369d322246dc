/-
  The same contracts, said of the whole numbers that the parts are.
-/
import Derived.Test.YtlblhpbhcaljhaaPWa
namespace Go.Proofs.Ytlblhpbhcaljhaa.Pl
open Go.RowKit Fl

theorem may_iff {r s : Int} (h : may r s = true) : 0 ≤ r ∧ r ≤ 1099511627776 ∧ 1 ≤ s ∧ s ≤ 16 := by
  unfold may at h; simpa using h
theorem may_of {r s : Int} (h : 0 ≤ r ∧ r ≤ 1099511627776 ∧ 1 ≤ s ∧ s ≤ 16) : may r s = true := by
  unfold may; simpa using h
theorem may_not {r s : Int} (h : ¬ (0 ≤ r ∧ r ≤ 1099511627776 ∧ 1 ≤ s ∧ s ≤ 16)) : may r s = false := by
  unfold may; simpa using h

theorem isP_of {p q : Nat} {m n : Int} (h1 : Is (D.read p) m) (h2 : Is (D.read q) n) (b1 : m.natAbs < 9007199254740992) (b2 : n.natAbs < 9007199254740992) :
    isP p q = may m n := by
  unfold isP may
  rw [isW_is h1 b1 (by decide) (by decide), isW_is h2 b2 (by decide) (by decide)]
  rw [Bool.eq_iff_iff]
  simp
  omega

theorem isP_true {x y : Nat} {r s : Int} (hx : Is (D.read x) r) (hy : Is (D.read y) s) (h : may r s = true) : isP x y = true := by
  obtain ⟨a, b, c, d⟩ := may_iff h
  rw [isP_of hx hy (by omega) (by omega), h]

theorem parts_is {x y : Nat} {r s : Int} (hx : Is (D.read x) r) (hy : Is (D.read y) s) (h : may r s = true) (w : World) :
    Calls Try.prog 69 #[.complex .f64 x y] w fun e w' => e = .returned (.tuple #[.int .i64 r, .int .i64 s, .int .i64 0]) ∧ w = w' := by
  obtain ⟨a, b, c, d⟩ := may_iff h
  have := parts_yes x y (isP_true hx hy h) w
  rwa [fint_is hx (by omega), fint_is hy (by omega)] at this

theorem before_is {x y u v : Nat} {r s r' s' : Int} (hx : Is (D.read x) r) (hy : Is (D.read y) s) (hu : Is (D.read u) r') (hv : Is (D.read v) s') (h : may r s = true) (h' : may r' s' = true) (w : World) :
    Calls Try.prog 75 #[.complex .f64 x y, .complex .f64 u v] w fun e w' => e = .returned (.tuple #[.bool (bef r s r' s'), .int .i64 0]) ∧ w = w' := by
  obtain ⟨a, b, c, d⟩ := may_iff h
  obtain ⟨a', b', c', d'⟩ := may_iff h'
  have := before_yes x y u v (isP_true hx hy h) (isP_true hu hv h') w
  rwa [fint_is hx (by omega), fint_is hy (by omega), fint_is hu (by omega), fint_is hv (by omega)] at this

/-- the difference of two places, as the machine makes it -/
theorem diff_is {x y u v : Nat} {r s m n : Int} (hx : Is (D.read x) r) (hy : Is (D.read y) s) (hu : Is (D.read u) m) (hv : Is (D.read v) n) (h : may r s = true) (h' : may m n = true) :
    ∃ p q, (∀ w : World, (binOp .sub 59 (.complex .f64 x y) (.complex .f64 u v)).run Try.prog w = .ok (.complex .f64 p q) w) ∧ Is (D.read p) (r - m) ∧ Is (D.read q) (s - n) := by
  obtain ⟨a, b, c, d⟩ := may_iff h
  obtain ⟨a', b', c', d'⟩ := may_iff h'
  obtain ⟨p, hp, ip⟩ := sub_is hx hu (by omega)
  obtain ⟨q, hq, iq⟩ := sub_is hy hv (by omega)
  refine ⟨p, q, fun w => run_complex_sum w .sub (.inr rfl) 59 .f64 x y u v p q ?_, ip, iq⟩
  unfold cSumBits
  rw [hp, hq]
  rfl

theorem is_zero : Is (D.read 0) 0 := ⟨false, 0, -1074, rfl, -1074, by omega, by omega, by decide +kernel⟩
theorem is_one : Is (D.read 4607182418800017408) 1 := is_eqB (k := 1) (by decide +kernel) (by decide)
theorem is_neg_one : Is (D.read 13830554455654793216) (-1) := is_eqB (k := -1) (by decide +kernel) (by decide)
theorem F_zero : F 0 = 0 := by decide +kernel

theorem order_F (n : Int) (h : n.natAbs < 9007199254740992) : FloatKind.f64.format.order (floatOfInt .f64 n) (floatOfInt .f64 n) = some .eq := by
  have := order_ints (is_F n h) (is_F n h)
  simpa using this
theorem zero_zero : FloatKind.f64.format.order 0 0 = some .eq := by decide +kernel

end Go.Proofs.Ytlblhpbhcaljhaa.Pl
