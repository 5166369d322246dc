/-
  Package dag's small functions: compare, placeOf, the closures of its searches, checkCert.
-/
import Derived.Test.YtlblhpbhcaljhaaYMem
import Derived.Test.YtlblhpbhcaljhaaHEnds
import Derived.Test.YtlblhpbhcaljhaaPWh
import Derived.Deep.DeepCutAuto
import Derived.Deep.CutRange
namespace Go.Proofs.Ytlblhpbhcaljhaa
open Go.RowKit Pl.Fl

theorem ahead_bef (r a s b : Int) : Pl.bef r a s b = aheadB r a s b := rfl
/-- which of two places is ahead, as a number -/
def cmpP (r a s b : Int) : Int := if r = s ∧ a = b then 0 else if aheadB r a s b = true then -1 else 1
theorem cmpP_neg {r a s b : Int} : cmpP r a s b < 0 ↔ aheadB r a s b = true := by
  unfold cmpP
  split
  · rename_i h
    obtain ⟨rfl, rfl⟩ := h
    simp [aheadB]
  · split
    · rename_i h; simp [h]
    · rename_i h; simp [h]
theorem cmpP_zero {r a s b : Int} : cmpP r a s b = 0 ↔ r = s ∧ a = b := by
  unfold cmpP
  split
  · rename_i h; simp [h]
  · rename_i h
    split <;> simp [h]

set_option maxHeartbeats 1000000 in
theorem compare_is (x y u v : Nat) (h : Pl.isP x y = true) (h' : Pl.isP u v = true) (w : World) :
    Calls Try.prog 50 #[.complex .f64 x y, .complex .f64 u v] w fun e w' => e = .returned (.int .i64 (cmpP (fint x) (fint y) (fint u) (fint v))) ∧ w = w' := by
  obtain ⟨i1, i2, _⟩ := Pl.isP_is h
  obtain ⟨i3, i4, _⟩ := Pl.isP_is h'
  have q1 := Pl.eq_ints i1 i3
  have q2 := Pl.eq_ints i2 i4
  have HB := Lib.hid (Pl.before_yes x y u v h h' w)
  clear h h' i1 i2 i3 i4
  obtain ⟨r, hr⟩ : ∃ r, r = fint x := ⟨_, rfl⟩
  obtain ⟨a, ha⟩ : ∃ a, a = fint y := ⟨_, rfl⟩
  obtain ⟨s, hs⟩ : ∃ s, s = fint u := ⟨_, rfl⟩
  obtain ⟨b, hb⟩ : ∃ b, b = fint v := ⟨_, rfl⟩
  rw [← hr, ← hs] at q1
  rw [← ha, ← hb] at q2
  rw [← hr, ← ha, ← hs, ← hb] at HB
  rw [← hr, ← ha, ← hs, ← hb]
  clear hr ha hs hb
  by_cases h1 : r = s ∧ a = b
  · have HC : Hid (cmpP r a s b = 0) := cmpP_zero.2 h1
    have q1' : (FloatKind.f64.format.order x u == some .eq) = true := by rw [q1]; simp [h1.1]
    have q2' : (FloatKind.f64.format.order y v == some .eq) = true := by rw [q2]; simp [h1.2]
    clear q1 q2 h1
    go_enter Try.func50, Try.ntmps50
    go_wp2_with fail
    go_ret
    exact ⟨by rw [HC.out]; rfl, rfl⟩
  · have hq : ((FloatKind.f64.format.order x u == some .eq) && (FloatKind.f64.format.order y v == some .eq)) = false := by
      rw [q1, q2]
      by_cases h2 : r = s
      · have : a ≠ b := fun e => h1 ⟨h2, e⟩
        simp [this]
      · simp [h2]
    clear q1 q2
    cases h3 : Pl.bef r a s b with
    | true =>
      have HC : Hid (cmpP r a s b = -1) := by show _ = _; rw [cmpP, if_neg h1, if_pos (by rw [← ahead_bef]; exact h3)]
      rw [h3] at HB
      clear h1 h3
      go_enter Try.func50, Try.ntmps50
      go_wp2_with (go_at_call 75; refine HB.out.mono ?_; rintro e w' ⟨rfl, rfl⟩)
      go_ret
      exact ⟨by rw [HC.out]; rfl, rfl⟩
    | false =>
      have HC : Hid (cmpP r a s b = 1) := by show _ = _; rw [cmpP, if_neg h1, if_neg (by rw [← ahead_bef, h3]; simp)]
      rw [h3] at HB
      clear h1 h3
      go_enter Try.func50, Try.ntmps50
      go_wp2_with (go_at_call 75; refine HB.out.mono ?_; rintro e w' ⟨rfl, rfl⟩)
      go_ret
      exact ⟨by rw [HC.out]; rfl, rfl⟩

/-! ### a certificate's place -/
/-- its round and author are a place -/
def CrtD.pl (x : CrtD) : Prop := (0 ≤ x.r ∧ x.r ≤ 1099511627776) ∧ 1 ≤ x.a ∧ x.a ≤ 16
theorem CrtD.pl_of {x : CrtD} {N : Int} (h : x.ok N = true) : x.pl ∧ 1 ≤ x.r ∧ x.a ≤ N ∧ 1 ≤ x.d ∧ x.d ≤ 65536 := by
  have h1 := cert_is.1 h
  obtain ⟨m1, m2, m3, _⟩ : mayB N = true ∧ (1 ≤ x.a ∧ x.a ≤ N) ∧ (1 ≤ x.r ∧ x.r ≤ 1099511627776) ∧ _ := by simpa only [hdrB, decide_eq_true_eq] using h1.1
  have hm : 1 ≤ N ∧ N ≤ 16 ∧ N % 3 = 1 := by simpa only [mayB, decide_eq_true_eq] using m1
  exact ⟨⟨by omega, by omega⟩, by omega, by omega, by omega, by omega⟩
theorem CrtD.pl_may {x : CrtD} (h : x.pl) : Pl.may x.r x.a = true := by
  obtain ⟨h1, h2⟩ := h
  exact Pl.may_of (by omega)
theorem CrtD.pl_isP {x : CrtD} (h : x.pl) : Pl.isP (F x.r) (F x.a) = true := by
  obtain ⟨h1, h2⟩ := id h
  exact Pl.isP_true (is_F x.r (by omega)) (is_F x.a (by omega)) (CrtD.pl_may h)
theorem CrtD.pl_fint {x : CrtD} (h : x.pl) : fint (F x.r) = x.r ∧ fint (F x.a) = x.a := by
  obtain ⟨h1, h2⟩ := id h
  exact ⟨fint_is (is_F x.r (by omega)) (by omega), fint_is (is_F x.a (by omega)) (by omega)⟩

theorem compareC_is (y x : CrtD) (hy : y.pl) (hx : x.pl) (w : World) :
    Calls Try.prog 50 #[.complex .f64 (F y.r) (F y.a), .complex .f64 (F x.r) (F x.a)] w fun e w' => e = .returned (.int .i64 (cmpP y.r y.a x.r x.a)) ∧ w = w' := by
  have := compare_is (F y.r) (F y.a) (F x.r) (F x.a) (CrtD.pl_isP hy) (CrtD.pl_isP hx) w
  rwa [(CrtD.pl_fint hy).1, (CrtD.pl_fint hy).2, (CrtD.pl_fint hx).1, (CrtD.pl_fint hx).2] at this
set_option maxHeartbeats 1000000 in
theorem placeOf_is (x : CrtD) (a : CrtA) (h : x.pl) (w : World) :
    Calls Try.prog 51 #[crtV x a] w fun e w' => e = .returned (.complex .f64 (F x.r) (F x.a)) ∧ Below w.heap.size w w' := by
  have HM := Lib.hid (CrtD.pl_may h)
  clear h
  unfold crtV
  go_enter Try.func51, Try.ntmps51
  go_wp2_with (go_at_call 76; refine (Pl.at_yes _ _ HM.out _).mono ?_; rintro e w' ⟨rfl, rfl⟩)
  go_ret
  exact ⟨rfl, (Below.refl _ _).alloc (Nat.le_refl _) _⟩

set_option maxHeartbeats 1000000 in
theorem cloP_is (x : CrtD) (a : CrtA) (u v : Nat) (h : x.pl) (h' : Pl.isP u v = true) (w : World) :
    Calls Try.prog 78 #[crtV x a, .complex .f64 u v] w fun e w' => e = .returned (.int .i64 (cmpP x.r x.a (fint u) (fint v))) ∧ Below w.heap.size w w' := by
  have HP := Lib.hid (fun wX => placeOf_is x a h wX)
  have hc : ∀ wX, Calls Try.prog 50 #[.complex .f64 (F x.r) (F x.a), .complex .f64 u v] wX fun e w' => e = .returned (.int .i64 (cmpP x.r x.a (fint u) (fint v))) ∧ wX = w' := fun wX => by
    have := compare_is (F x.r) (F x.a) u v (CrtD.pl_isP h) h' wX
    rwa [(CrtD.pl_fint h).1, (CrtD.pl_fint h).2] at this
  have HC := Lib.hid hc
  clear h h' hc
  unfold crtV at HP ⊢
  obtain ⟨z, hz⟩ : ∃ z, z = cmpP x.r x.a (fint u) (fint v) := ⟨_, rfl⟩
  rw [← hz] at HC ⊢
  clear hz
  go_enter Try.func78, Try.ntmps78
  go_wp2_with (first
    | (go_at_call 51; refine (HP.out _).mono ?_; rintro e w' ⟨rfl, hb⟩)
    | (go_at_call 50; refine (HC.out _).mono ?_; rintro e w'' ⟨rfl, rfl⟩))
  go_ret
  exact ⟨rfl, ((Below.refl _ _).alloc (Nat.le_refl _) _).trans (hb.mono (by simp))⟩

/-! ### whether one may be in a graph, but for what is there -/
def chkC (N L : Int) (x : CrtD) : Int := if x.ok N = true then (if x.r ≤ L then 6 else 0) else 1
set_option maxHeartbeats 2000000 in
theorem checkCert_is (N L : Int) (o : Ad) (x : CrtD) (a : CrtA) (w : World) (hi : CIn w x a) (hf : CrtFit x) :
    Calls Try.prog 49 #[dagV N L o, crtV x a] w fun e w' => e = .returned (.int .i64 (chkC N L x)) ∧ Below w.heap.size w w' := by
  have hcert : ∀ wX, Below w.heap.size w wX → Calls Try.prog 74 #[.agg #[.int .i64 x.a, .int .i64 x.r, .slice a.B.A a.B.n a.B.c, .slice a.P.A a.P.n a.P.c, .int .i64 x.d, .slice a.S.A a.S.n a.S.c], .int .i64 N] wX (Tells wX.heap.size wX (.int .i64 (okV (x.ok N)))) := fun wX hb =>
    hcert_is _ x.a x.r a.B.A a.B.c a.B.n x.B a.P.A a.P.c a.P.n x.P x.d a.S.A a.S.c a.S.n x.S N wX rfl ((hi.below hb).hdr hf) ((hi.below hb).numsS hf) (by have := hf.lS; have := hi.s.len; omega)
  have HC := Lib.hid hcert
  clear hcert hi hf
  unfold crtV dagV
  obtain ⟨w1, hw1⟩ : ∃ w1, w1 = (w.alloc (.cells #[.int .i64 N, .int .i64 L, .slice o.A o.n o.c] 24)).alloc (.cells #[.int .i64 x.a, .int .i64 x.r, .slice a.B.A a.B.n a.B.c, .slice a.P.A a.P.n a.P.c, .int .i64 x.d, .slice a.S.A a.S.n a.S.c] 45) := ⟨_, rfl⟩
  obtain ⟨hb1, hsz, hD1, hC1⟩ := two_new w N L o x a _ _ hw1
  have HW := Lib.hid hw1
  have HD := Lib.hid hD1
  have HE := Lib.hid hC1
  have HZ := Lib.hid hsz
  have HB := Lib.hid hb1
  have HCX := Lib.hid (HC.out w1 hb1)
  obtain ⟨d0, d1, d2⟩ := dag_cells hD1
  obtain ⟨c0, c1, c2, c3, c4, c5⟩ := crt_cells hC1
  clear hw1 hsz HC hD1 hC1 hb1
  cases hok : x.ok N with
  | false =>
    have HN : Hid (chkC N L x = 1) := by show _ = _; rw [chkC, hok]; rfl
    rw [hok] at HCX
    clear hok
    go_enter Try.func49, Try.ntmps49
    go_upto_region 1 with fail
    rw [← HW.out]
    go_wp2_with (go_at_call 74; refine HCX.out.mono ?_; rintro e w2 ⟨rfl, hb2⟩)
    go_ret
    exact ⟨by rw [HN.out]; rfl, HB.out.trans (hb2.mono HB.out.size)⟩
  | true =>
    rw [hok] at HCX
    by_cases hr : x.r ≤ L
    · have HN : Hid (chkC N L x = 6) := by show _ = _; rw [chkC, hok, if_pos rfl, if_pos hr]
      clear hok
      go_enter Try.func49, Try.ntmps49
      go_upto_region 1 with fail
      rw [← HW.out]
      go_upto_region 2 with (go_at_call 74; refine HCX.out.mono ?_; rintro e w2 ⟨rfl, hb2⟩)
      clear d0 d1 d2 c0 c1 c2 c3 c4 c5
      have hz := HZ.out
      obtain ⟨d0, d1, d2⟩ := dag_cells (HD.out.below hb2 (by omega))
      obtain ⟨c0, c1, c2, c3, c4, c5⟩ := crt_cells (HE.out.below hb2 (by omega))
      clear hz
      go_wp2_with fail
      go_ret
      exact ⟨by rw [HN.out]; rfl, HB.out.trans (hb2.mono HB.out.size)⟩
    · have HN : Hid (chkC N L x = 0) := by show _ = _; rw [chkC, hok, if_pos rfl, if_neg hr]
      clear hok
      go_enter Try.func49, Try.ntmps49
      go_upto_region 1 with fail
      rw [← HW.out]
      go_upto_region 2 with (go_at_call 74; refine HCX.out.mono ?_; rintro e w2 ⟨rfl, hb2⟩)
      clear d0 d1 d2 c0 c1 c2 c3 c4 c5
      have hz := HZ.out
      obtain ⟨d0, d1, d2⟩ := dag_cells (HD.out.below hb2 (by omega))
      obtain ⟨c0, c1, c2, c3, c4, c5⟩ := crt_cells (HE.out.below hb2 (by omega))
      clear hz
      go_wp2_with fail
      go_ret
      exact ⟨by rw [HN.out]; rfl, HB.out.trans (hb2.mono HB.out.size)⟩

end Go.Proofs.Ytlblhpbhcaljhaa
