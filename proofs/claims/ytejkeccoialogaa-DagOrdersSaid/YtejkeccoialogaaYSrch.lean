/-
  Package dag's small functions: compare, placeOf, the closures of its searches, checkCert.
-/
import Derived.Test.YtejkeccoialogaaYMem
import Derived.Test.YtejkeccoialogaaHEnds
import Derived.Test.YtejkeccoialogaaPWh
import Derived.Deep.DeepCutAuto
import Derived.Deep.CutRange
import Derived.BigQuiet
import Derived.Deep.QuietTactic
namespace Go.Proofs.Ytejkeccoialogaa
open Go.RowKit Pl.Fl

theorem ahead_bef (r a s b : Int) : Pl.bef r a s b = aheadB r a s b := rfl
/-- which of two places is ahead, as a number -/
def cmpP (r a s b : Int) : Int := if r = s ∧ a = b then 0 else if aheadB r a s b = true then -1 else 1
theorem cmpP_neg {r a s b : Int} : cmpP r a s b < 0 ↔ aheadB r a s b = true := by
  unfold cmpP
  split
  · rename_i h
    obtain ⟨rfl, rfl⟩ := h
    simp [aheadB]
  · split
    · rename_i h; simp [h]
    · rename_i h; simp [h]
theorem cmpP_zero {r a s b : Int} : cmpP r a s b = 0 ↔ r = s ∧ a = b := by
  unfold cmpP
  split
  · rename_i h; simp [h]
  · rename_i h
    split <;> simp [h]

set_option maxHeartbeats 1000000 in
theorem compare_is (x y u v : Nat) (h : Pl.isP x y = true) (h' : Pl.isP u v = true) (w : World) :
    Calls Try.prog 62 #[.complex .f64 x y, .complex .f64 u v] w fun e w' => e = .returned (.int .i64 (cmpP (fint x) (fint y) (fint u) (fint v))) ∧ w = w' := by
  obtain ⟨i1, i2, _⟩ := Pl.isP_is h
  obtain ⟨i3, i4, _⟩ := Pl.isP_is h'
  have q1 := Pl.eq_ints i1 i3
  have q2 := Pl.eq_ints i2 i4
  have HB := Lib.hid (Pl.before_yes x y u v h h' w)
  clear h h' i1 i2 i3 i4
  obtain ⟨r, hr⟩ : ∃ r, r = fint x := ⟨_, rfl⟩
  obtain ⟨a, ha⟩ : ∃ a, a = fint y := ⟨_, rfl⟩
  obtain ⟨s, hs⟩ : ∃ s, s = fint u := ⟨_, rfl⟩
  obtain ⟨b, hb⟩ : ∃ b, b = fint v := ⟨_, rfl⟩
  rw [← hr, ← hs] at q1
  rw [← ha, ← hb] at q2
  rw [← hr, ← ha, ← hs, ← hb] at HB
  rw [← hr, ← ha, ← hs, ← hb]
  clear hr ha hs hb
  by_cases h1 : r = s ∧ a = b
  · have HC : Hid (cmpP r a s b = 0) := cmpP_zero.2 h1
    have q1' : (FloatKind.f64.format.order x u == some .eq) = true := by rw [q1]; simp [h1.1]
    have q2' : (FloatKind.f64.format.order y v == some .eq) = true := by rw [q2]; simp [h1.2]
    clear q1 q2 h1
    go_enter Try.func62, Try.ntmps62
    go_wp2_with fail
    go_ret
    exact ⟨by rw [HC.out]; rfl, rfl⟩
  · have hq : ((FloatKind.f64.format.order x u == some .eq) && (FloatKind.f64.format.order y v == some .eq)) = false := by
      rw [q1, q2]
      by_cases h2 : r = s
      · have : a ≠ b := fun e => h1 ⟨h2, e⟩
        simp [this]
      · simp [h2]
    clear q1 q2
    cases h3 : Pl.bef r a s b with
    | true =>
      have HC : Hid (cmpP r a s b = -1) := by show _ = _; rw [cmpP, if_neg h1, if_pos (by rw [← ahead_bef]; exact h3)]
      rw [h3] at HB
      clear h1 h3
      go_enter Try.func62, Try.ntmps62
      go_wp2_with (go_at_call 91; refine HB.out.mono ?_; rintro e w' ⟨rfl, rfl⟩)
      go_ret
      exact ⟨by rw [HC.out]; rfl, rfl⟩
    | false =>
      have HC : Hid (cmpP r a s b = 1) := by show _ = _; rw [cmpP, if_neg h1, if_neg (by rw [← ahead_bef, h3]; simp)]
      rw [h3] at HB
      clear h1 h3
      go_enter Try.func62, Try.ntmps62
      go_wp2_with (go_at_call 91; refine HB.out.mono ?_; rintro e w' ⟨rfl, rfl⟩)
      go_ret
      exact ⟨by rw [HC.out]; rfl, rfl⟩

/-! ### a certificate's place -/
/-- its round and author are a place -/
def CrtD.pl (x : CrtD) : Prop := (0 ≤ x.r ∧ x.r ≤ 1099511627776) ∧ 1 ≤ x.a ∧ x.a ≤ 16
theorem CrtD.pl_of {x : CrtD} {N : Int} (h : x.ok N = true) : x.pl ∧ 1 ≤ x.r ∧ x.a ≤ N ∧ 1 ≤ x.d ∧ x.d ≤ 65536 := by
  have h1 := cert_is.1 h
  obtain ⟨m1, m2, m3, _⟩ : mayB N = true ∧ (1 ≤ x.a ∧ x.a ≤ N) ∧ (1 ≤ x.r ∧ x.r ≤ 1099511627776) ∧ _ := by simpa only [hdrB, decide_eq_true_eq] using h1.1
  have hm : 1 ≤ N ∧ N ≤ 16 ∧ N % 3 = 1 := by simpa only [mayB, decide_eq_true_eq] using m1
  exact ⟨⟨by omega, by omega⟩, by omega, by omega, by omega, by omega⟩
theorem CrtD.pl_may {x : CrtD} (h : x.pl) : Pl.may x.r x.a = true := by
  obtain ⟨h1, h2⟩ := h
  exact Pl.may_of (by omega)
theorem CrtD.pl_isP {x : CrtD} (h : x.pl) : Pl.isP (F x.r) (F x.a) = true := by
  obtain ⟨h1, h2⟩ := id h
  exact Pl.isP_true (is_F x.r (by omega)) (is_F x.a (by omega)) (CrtD.pl_may h)
theorem CrtD.pl_fint {x : CrtD} (h : x.pl) : fint (F x.r) = x.r ∧ fint (F x.a) = x.a := by
  obtain ⟨h1, h2⟩ := id h
  exact ⟨fint_is (is_F x.r (by omega)) (by omega), fint_is (is_F x.a (by omega)) (by omega)⟩

theorem compareC_is (y x : CrtD) (hy : y.pl) (hx : x.pl) (w : World) :
    Calls Try.prog 62 #[.complex .f64 (F y.r) (F y.a), .complex .f64 (F x.r) (F x.a)] w fun e w' => e = .returned (.int .i64 (cmpP y.r y.a x.r x.a)) ∧ w = w' := by
  have := compare_is (F y.r) (F y.a) (F x.r) (F x.a) (CrtD.pl_isP hy) (CrtD.pl_isP hx) w
  rwa [(CrtD.pl_fint hy).1, (CrtD.pl_fint hy).2, (CrtD.pl_fint hx).1, (CrtD.pl_fint hx).2] at this
set_option maxHeartbeats 1000000 in
theorem placeOf_is (x : CrtD) (a : CrtA) (h : x.pl) (w : World) :
    Calls Try.prog 52 #[crtV x a] w fun e w' => e = .returned (.complex .f64 (F x.r) (F x.a)) ∧ Below w.heap.size w w' := by
  have HM := Lib.hid (CrtD.pl_may h)
  clear h
  unfold crtV
  go_enter Try.func52, Try.ntmps52
  go_wp2_with (go_at_call 83; refine (Pl.at_yes _ _ HM.out _).mono ?_; rintro e w' ⟨rfl, rfl⟩)
  go_ret
  exact ⟨rfl, (Below.refl _ _).alloc (Nat.le_refl _) _⟩

set_option maxHeartbeats 1000000 in
theorem cloP_is (x : CrtD) (a : CrtA) (u v : Nat) (h : x.pl) (h' : Pl.isP u v = true) (w : World) :
    Calls Try.prog 82 #[crtV x a, .complex .f64 u v] w fun e w' => e = .returned (.int .i64 (cmpP x.r x.a (fint u) (fint v))) ∧ Below w.heap.size w w' := by
  have HP := Lib.hid (fun wX => placeOf_is x a h wX)
  have hc : ∀ wX, Calls Try.prog 62 #[.complex .f64 (F x.r) (F x.a), .complex .f64 u v] wX fun e w' => e = .returned (.int .i64 (cmpP x.r x.a (fint u) (fint v))) ∧ wX = w' := fun wX => by
    have := compare_is (F x.r) (F x.a) u v (CrtD.pl_isP h) h' wX
    rwa [(CrtD.pl_fint h).1, (CrtD.pl_fint h).2] at this
  have HC := Lib.hid hc
  clear h h' hc
  unfold crtV at HP ⊢
  obtain ⟨z, hz⟩ : ∃ z, z = cmpP x.r x.a (fint u) (fint v) := ⟨_, rfl⟩
  rw [← hz] at HC ⊢
  clear hz
  go_enter Try.func82, Try.ntmps82
  go_wp2_with (first
    | (go_at_call 52; refine (HP.out _).mono ?_; rintro e w' ⟨rfl, hb⟩)
    | (go_at_call 62; refine (HC.out _).mono ?_; rintro e w'' ⟨rfl, rfl⟩))
  go_ret
  exact ⟨rfl, ((Below.refl _ _).alloc (Nat.le_refl _) _).trans (hb.mono (by simp))⟩

/-! ### whether one may be in a graph, but for what is there -/
def chkC (N L : Int) (x : CrtD) : Int := if x.ok N = true then (if x.r ≤ L then 6 else 0) else 1
set_option maxHeartbeats 2000000 in
theorem checkCert_is (N L : Int) (o : Ad) (x : CrtD) (a : CrtA) (w : World) (hi : CIn w x a) (hf : CrtFit x) :
    Calls Try.prog 50 #[dagV N L o, crtV x a] w fun e w' => e = .returned (.int .i64 (chkC N L x)) ∧ Below w.heap.size w w' := by
  have hcert : ∀ wX, Below w.heap.size w wX → Calls Try.prog 80 #[.agg #[.int .i64 x.a, .int .i64 x.r, .slice a.B.A a.B.n a.B.c, .slice a.P.A a.P.n a.P.c, .int .i64 x.d, .slice a.S.A a.S.n a.S.c], .int .i64 N] wX (Tells wX.heap.size wX (.int .i64 (okV (x.ok N)))) := fun wX hb =>
    hcert_is _ x.a x.r a.B.A a.B.c a.B.n x.B a.P.A a.P.c a.P.n x.P x.d a.S.A a.S.c a.S.n x.S N wX rfl ((hi.below hb).hdr hf) ((hi.below hb).numsS hf) (by have := hf.lS; have := hi.s.len; omega)
  have HC := Lib.hid hcert
  clear hcert hi hf
  unfold crtV dagV
  obtain ⟨w1, hw1⟩ : ∃ w1, w1 = (w.alloc (.cells #[.int .i64 N, .int .i64 L, .slice o.A o.n o.c] 24)).alloc (.cells #[.int .i64 x.a, .int .i64 x.r, .slice a.B.A a.B.n a.B.c, .slice a.P.A a.P.n a.P.c, .int .i64 x.d, .slice a.S.A a.S.n a.S.c] 37) := ⟨_, rfl⟩
  obtain ⟨hb1, hsz, hD1, hC1⟩ := two_new w N L o x a _ _ hw1
  have HW := Lib.hid hw1
  have HD := Lib.hid hD1
  have HE := Lib.hid hC1
  have HZ := Lib.hid hsz
  have HB := Lib.hid hb1
  have HCX := Lib.hid (HC.out w1 hb1)
  obtain ⟨d0, d1, d2⟩ := dag_cells hD1
  obtain ⟨c0, c1, c2, c3, c4, c5⟩ := crt_cells hC1
  clear hw1 hsz HC hD1 hC1 hb1
  cases hok : x.ok N with
  | false =>
    have HN : Hid (chkC N L x = 1) := by show _ = _; rw [chkC, hok]; rfl
    rw [hok] at HCX
    clear hok
    go_enter Try.func50, Try.ntmps50
    go_upto_region 1 with fail
    rw [← HW.out]
    go_wp2_with (go_at_call 80; refine HCX.out.mono ?_; rintro e w2 ⟨rfl, hb2⟩)
    go_ret
    exact ⟨by rw [HN.out]; rfl, HB.out.trans (hb2.mono HB.out.size)⟩
  | true =>
    rw [hok] at HCX
    by_cases hr : x.r ≤ L
    · have HN : Hid (chkC N L x = 6) := by show _ = _; rw [chkC, hok, if_pos rfl, if_pos hr]
      clear hok
      go_enter Try.func50, Try.ntmps50
      go_upto_region 1 with fail
      rw [← HW.out]
      go_upto_region 2 with (go_at_call 80; refine HCX.out.mono ?_; rintro e w2 ⟨rfl, hb2⟩)
      clear d0 d1 d2 c0 c1 c2 c3 c4 c5
      have hz := HZ.out
      obtain ⟨d0, d1, d2⟩ := dag_cells (HD.out.below hb2 (by omega))
      obtain ⟨c0, c1, c2, c3, c4, c5⟩ := crt_cells (HE.out.below hb2 (by omega))
      clear hz
      go_wp2_with fail
      go_ret
      exact ⟨by rw [HN.out]; rfl, HB.out.trans (hb2.mono HB.out.size)⟩
    · have HN : Hid (chkC N L x = 0) := by show _ = _; rw [chkC, hok, if_pos rfl, if_neg hr]
      clear hok
      go_enter Try.func50, Try.ntmps50
      go_upto_region 1 with fail
      rw [← HW.out]
      go_upto_region 2 with (go_at_call 80; refine HCX.out.mono ?_; rintro e w2 ⟨rfl, hb2⟩)
      clear d0 d1 d2 c0 c1 c2 c3 c4 c5
      have hz := HZ.out
      obtain ⟨d0, d1, d2⟩ := dag_cells (HD.out.below hb2 (by omega))
      obtain ⟨c0, c1, c2, c3, c4, c5⟩ := crt_cells (HE.out.below hb2 (by omega))
      clear hz
      go_wp2_with fail
      go_ret
      exact ⟨by rw [HN.out]; rfl, HB.out.trans (hb2.mono HB.out.size)⟩

end Go.Proofs.Ytejkeccoialogaa
/-
  Package dag's search for a place.
-/
namespace Go.Proofs.Ytejkeccoialogaa
open Go.RowKit Pl.Fl

set_option maxRecDepth 100000 in
set_option maxHeartbeats 4000000 in
theorem searchP_is (o : Ad) (ms : List (CrtD × CrtA)) (l : List CrtD) (u v : Nat) (w : World) (h : RowY w o ms) (hl : ms.map Prod.fst = l) (ha : AscC l) (hp : ∀ x ∈ l, x.pl) (h' : Pl.isP u v = true) :
    Calls Try.prog 81 #[.slice o.A o.n o.c, .complex .f64 u v, .func (.func 82) #[] #[]] w fun e w' =>
      e = .returned (.tuple #[.int .i64 (posC l (fint u) (fint v)), .bool (hasAt l (fint u) (fint v))]) ∧ Below w.heap.size w w' := by
  have hlen : l.length = o.n := by rw [← hl, List.length_map, h.row.len]
  have hn1 : o.n ≤ 1000000 := by rw [← h.row.len]; exact h.few
  have hat : ∀ (i : Nat) (x : CrtD), l[i]? = some x → ∃ a, ms[i]? = some (x, a) := fun i x hx => by
    rw [← hl, List.getElem?_map] at hx
    cases hm : ms[i]? with
    | none => rw [hm] at hx; cases hx
    | some z =>
      rw [hm] at hx
      simp only [Option.map_some, Option.some.injEq] at hx
      exact ⟨z.2, by rw [← hx]⟩
  have hmon := mon_bef ha (fint u) (fint v)
  have hclo : ∀ (x : CrtD) (a : CrtA), x ∈ l → ∀ wX, Calls Try.prog 82 #[crtV x a, .complex .f64 u v] wX fun e w' => e = .returned (.int .i64 (cmpP x.r x.a (fint u) (fint v))) ∧ Below wX.heap.size wX w' := fun x a hx wX => cloP_is x a u v (hp x hx) h' wX
  obtain ⟨R, hR⟩ : ∃ R, R = fint u := ⟨_, rfl⟩
  obtain ⟨C, hC⟩ : ∃ C, C = fint v := ⟨_, rfl⟩
  rw [← hR, ← hC] at hmon hclo ⊢
  have hcel : ∀ (i : Nat) (x : CrtD × CrtA), ms[i]? = some x → ∃ b off, o.A = some ⟨b, off, none⟩ ∧ b < w.heap.size ∧ _ := fun i x hx => h.cells hx
  obtain ⟨A, n, c⟩ := o
  simp only at hlen hn1 hcel ⊢
  have HL := Lib.hid hlen
  have HAT := Lib.hid hat
  have HM := Lib.hid hmon
  have HCL := Lib.hid hclo
  have HCE := Lib.hid hcel
  clear hlen hat hmon hclo hcel ha hp h' hl h hR hC
  unfold posC
  obtain ⟨f, hf⟩ : ∃ f, f = isBef R C := ⟨_, rfl⟩
  have hfx : ∀ x : CrtD, f x = aheadB x.r x.a R C := fun x => by rw [hf]; rfl
  have hha : ∀ p, p = cutF f l → hasAt l R C = (match l[p]? with | none => false | some y => decide (y.r = R ∧ y.a = C)) := fun p e => by rw [hasAt, posC, e, hf]; rfl
  have HFX := Lib.hid hfx
  have HHA := Lib.hid hha
  rw [← hf] at HM ⊢
  clear hf hfx hha
  go_enter Try.func81, Try.ntmps81
  go_wp2
  go_loopw [9, 10] (fun i j wr => ∃ lo hi : Nat, i = .int .i64 lo ∧ j = .int .i64 hi ∧ lo ≤ hi ∧ hi ≤ n ∧ Hid (∀ k a, k < lo → l[k]? = some a → f a = true) ∧ Hid (∀ k a, hi ≤ k → l[k]? = some a → f a = false) ∧ Below w.heap.size w wr) (fun i j _ => ((intOf j) - (intOf i)).toNat)
  case atStart => exact ⟨0, n, rfl, rfl, by omega, by omega, fun k a hk => by omega, fun k a hk ha => by
    have := (List.getElem?_eq_some_iff.1 ha).1
    rw [HL.out] at this
    omega, Below.refl _ _⟩
  case round =>
    obtain ⟨lo, hi, rfl, rfl, hlh, hin, HA, HB, hb⟩ := hrel
    by_cases hlt : lo < hi
    · obtain ⟨x, hx⟩ : ∃ x, l[(lo + hi) / 2]? = some x := ⟨_, List.getElem?_eq_getElem (by rw [HL.out]; omega)⟩
      obtain ⟨a, hm⟩ := HAT.out _ _ hx
      obtain ⟨b, off, rfl, hbl, hce⟩ := HCE.out _ _ hm
      obtain ⟨k0, k1, k2, k3, k4, k5⟩ := hce _ hb
      dsimp only at k0 k1 k2 k3 k4 k5
      have HX := Lib.hid hx
      have HC2 := Lib.hid (fun wX => HCL.out x a (List.mem_of_getElem? hx) wX)
      unfold crtV at HC2
      clear hm hx hce
      cases hls : f x with
      | true =>
        have hc0 : cmpP x.r x.a R C < 0 := cmpP_neg.2 (by rw [← HFX.out]; exact hls)
        have HLS := Lib.hid hls
        clear hls
        go_wp2_with (go_at_call 82; refine (HC2.out _).mono ?_; rintro e w' ⟨rfl, hb1⟩)
        go_roundw
        case rel =>
          refine ⟨(lo + hi) / 2 + 1, hi, ?_, rfl, by omega, hin, fun k a hk ha => ?_, HB.out, hb.trans (hb1.mono hb.size)⟩
          · rw [show ((lo : Int) + (hi : Int)) / 2 + 1 = (((lo + hi) / 2 + 1 : Nat) : Int) by omega]
          · rcases Nat.lt_or_ge k ((lo + hi) / 2) with h2 | h2
            · exact HM.out _ _ _ _ h2 ha HX.out HLS.out
            · have : k = (lo + hi) / 2 := by omega
              subst this
              rw [HX.out] at ha
              cases ha
              exact HLS.out
        case measure => simp [intOf]; omega
      | false =>
        have hc0 : ¬ (cmpP x.r x.a R C < 0) := fun e => by have := cmpP_neg.1 e; rw [← HFX.out, hls] at this; cases this
        have HLS := Lib.hid hls
        clear hls
        go_wp2_with (go_at_call 82; refine (HC2.out _).mono ?_; rintro e w' ⟨rfl, hb1⟩)
        go_roundw
        case rel =>
          refine ⟨lo, (lo + hi) / 2, rfl, ?_, by omega, by omega, HA.out, fun k a hk ha => ?_, hb.trans (hb1.mono hb.size)⟩
          · rw [show ((lo : Int) + (hi : Int)) / 2 = (((lo + hi) / 2 : Nat) : Int) by omega]
          · rcases Nat.lt_or_ge ((lo + hi) / 2) k with h2 | h2
            · cases hfa : f a with
              | false => rfl
              | true => have := HM.out _ _ _ _ h2 HX.out ha hfa; rw [HLS.out] at this; cases this
            · have : k = (lo + hi) / 2 := by omega
              subst this
              rw [HX.out] at ha
              cases ha
              exact HLS.out
        case measure => simp [intOf]; omega
    · obtain rfl : lo = hi := by omega
      have i0 : ¬ ((lo : Int) < (lo : Int)) := by omega
      clear hlt hlh
      have hp : lo = cutF f l := cutF_unique (by rw [HL.out]; exact hin) (fun k a hk ha => HA.out k a hk ha) (fun a ha => HB.out lo a (Nat.le_refl _) ha)
      have HP := Lib.hid hp
      clear hp
      by_cases hn2 : lo < n
      · obtain ⟨x, hx⟩ : ∃ x, l[lo]? = some x := ⟨_, List.getElem?_eq_getElem (by rw [HL.out]; omega)⟩
        obtain ⟨a, hm⟩ := HAT.out _ _ hx
        obtain ⟨b, off, rfl, hbl, hce⟩ := HCE.out _ _ hm
        obtain ⟨k0, k1, k2, k3, k4, k5⟩ := hce _ hb
        dsimp only at k0 k1 k2 k3 k4 k5
        have i1 : (lo : Int) < (n : Int) := by omega
        have hh : Hid (hasAt l R C = (cmpP x.r x.a R C == 0)) := by
          show _ = _
          rw [HHA.out lo HP.out, hx]
          simp only
          rw [Bool.eq_iff_iff]
          simp only [decide_eq_true_eq, beq_iff_eq]
          exact cmpP_zero.symm
        have HC2 := Lib.hid (fun wX => HCL.out x a (List.mem_of_getElem? hx) wX)
        unfold crtV at HC2
        clear hm hx hce
        go_wp2_with (go_at_call 82; refine (HC2.out _).mono ?_; rintro e w' ⟨rfl, hb1⟩)
        go_ret2
        refine ⟨?_, hb.trans (hb1.mono hb.size)⟩
        rw [hh.out, ← HP.out]
        rfl
      · have i1 : ¬ ((lo : Int) < (n : Int)) := by omega
        have hh : Hid (hasAt l R C = false) := by
          show _ = _
          rw [HHA.out lo HP.out, List.getElem?_eq_none (by rw [HL.out]; omega)]
        go_wp2_with fail
        go_ret2
        refine ⟨?_, hb⟩
        rw [hh.out, ← HP.out]
        rfl

set_option maxHeartbeats 1000000 in
theorem findPlace_is (N L : Int) (o : Ad) (ms : List (CrtD × CrtA)) (l : List CrtD) (u v : Nat) (w : World) (h : RowY w o ms) (hl : ms.map Prod.fst = l) (ha : AscC l) (hp : ∀ x ∈ l, x.pl) (h' : Pl.isP u v = true) :
    Calls Try.prog 51 #[dagV N L o, .complex .f64 u v] w fun e w' =>
      e = .returned (.tuple #[.int .i64 (posC l (fint u) (fint v)), .bool (hasAt l (fint u) (fint v))]) ∧ Below w.heap.size w w' := by
  have HS : Hid (∀ wX, Below w.heap.size w wX → _) := fun wX hb => searchP_is o ms l u v wX (h.below hb) hl ha hp h'
  clear h hl ha hp h'
  unfold dagV
  obtain ⟨p, hp⟩ : ∃ p, p = posC l (fint u) (fint v) := ⟨_, rfl⟩
  obtain ⟨b, hb⟩ : ∃ b, b = hasAt l (fint u) (fint v) := ⟨_, rfl⟩
  rw [← hp, ← hb] at HS ⊢
  clear hp hb
  have hb0 : Below w.heap.size w (w.alloc (.cells #[.int .i64 N, .int .i64 L, .slice o.A o.n o.c] 24)) := (Below.refl _ _).alloc (Nat.le_refl _) _
  have HB := Lib.hid hb0
  clear hb0
  go_enter Try.func51, Try.ntmps51
  go_wp2_with (go_at_call 81; refine (HS.out _ HB.out).mono ?_; rintro e w' ⟨rfl, hb⟩)
  go_ret2
  exact ⟨rfl, HB.out.trans (hb.mono HB.out.size)⟩

end Go.Proofs.Ytejkeccoialogaa
/-
  Package dag's searches by rounds: sort.Search, firstFrom, inRound.
-/
namespace Go.Proofs.Ytejkeccoialogaa
open Go.RowKit

set_option maxRecDepth 100000 in
set_option maxHeartbeats 4000000 in
theorem sortSearch_is (n : Nat) (l : List CrtD) (f : CrtD → Bool) (pd pr : Value) (w : World) (hn : l.length = n) (hn1 : n ≤ 1000000) (hm : MonF f l)
    (hc : ∀ (k : Nat) (x : CrtD), l[k]? = some x → ∀ wX, Below w.heap.size w wX → Calls Try.prog 113 #[.int .i64 k, pd, pr] wX fun e w' => e = .returned (.bool (!f x)) ∧ Below wX.heap.size wX w') :
    Calls Try.prog 105 #[.int .i64 n, .func (.func 113) #[] #[pd, pr]] w fun e w' => e = .returned (.int .i64 (cutF f l)) ∧ Below w.heap.size w w' := by
  have HL := Lib.hid hn
  have HM := Lib.hid hm
  have HC := Lib.hid hc
  clear hn hm hc
  go_enter Try.func105, Try.ntmps105
  go_wp2
  go_loopw [5, 6] (fun i j wr => ∃ lo hi : Nat, i = .int .i64 lo ∧ j = .int .i64 hi ∧ lo ≤ hi ∧ hi ≤ n ∧ Hid (∀ k a, k < lo → l[k]? = some a → f a = true) ∧ Hid (∀ k a, hi ≤ k → l[k]? = some a → f a = false) ∧ Below w.heap.size w wr) (fun i j _ => ((intOf j) - (intOf i)).toNat)
  case atStart => exact ⟨0, n, rfl, rfl, by omega, by omega, fun k a hk => by omega, fun k a hk ha => by
    have := (List.getElem?_eq_some_iff.1 ha).1
    rw [HL.out] at this
    omega, Below.refl _ _⟩
  case round =>
    obtain ⟨lo, hi, rfl, rfl, hlh, hin, HA, HB, hb⟩ := hrel
    by_cases hlt : lo < hi
    · obtain ⟨x, hx⟩ : ∃ x, l[(lo + hi) / 2]? = some x := ⟨_, List.getElem?_eq_getElem (by rw [HL.out]; omega)⟩
      have HX := Lib.hid hx
      have hcl := HC.out _ x hx _ hb
      rw [show (((lo + hi) / 2 : Nat) : Int) = ((lo : Int) + (hi : Int)) / 2 by omega] at hcl
      have HCL := Lib.hid hcl
      clear hx hcl
      cases hls : f x with
      | true =>
        rw [hls] at HCL
        have HLS := Lib.hid hls
        clear hls
        go_wp2_with (go_at_call 113; refine HCL.out.mono ?_; rintro e w' ⟨rfl, hb1⟩)
        go_roundw
        case rel =>
          refine ⟨(lo + hi) / 2 + 1, hi, ?_, rfl, by omega, hin, fun k a hk ha => ?_, HB.out, hb.trans (hb1.mono hb.size)⟩
          · rw [show ((lo : Int) + (hi : Int)) / 2 + 1 = (((lo + hi) / 2 + 1 : Nat) : Int) by omega]
          · rcases Nat.lt_or_ge k ((lo + hi) / 2) with h2 | h2
            · exact HM.out _ _ _ _ h2 ha HX.out HLS.out
            · have : k = (lo + hi) / 2 := by omega
              subst this
              rw [HX.out] at ha
              cases ha
              exact HLS.out
        case measure => simp [intOf]; omega
      | false =>
        rw [hls] at HCL
        have HLS := Lib.hid hls
        clear hls
        go_wp2_with (go_at_call 113; refine HCL.out.mono ?_; rintro e w' ⟨rfl, hb1⟩)
        go_roundw
        case rel =>
          refine ⟨lo, (lo + hi) / 2, rfl, ?_, by omega, by omega, HA.out, fun k a hk ha => ?_, hb.trans (hb1.mono hb.size)⟩
          · rw [show ((lo : Int) + (hi : Int)) / 2 = (((lo + hi) / 2 : Nat) : Int) by omega]
          · rcases Nat.lt_or_ge ((lo + hi) / 2) k with h2 | h2
            · cases hfa : f a with
              | false => rfl
              | true => have := HM.out _ _ _ _ h2 HX.out ha hfa; rw [HLS.out] at this; cases this
            · have : k = (lo + hi) / 2 := by omega
              subst this
              rw [HX.out] at ha
              cases ha
              exact HLS.out
        case measure => simp [intOf]; omega
    · obtain rfl : lo = hi := by omega
      have i0 : ¬ ((lo : Int) < (lo : Int)) := by omega
      clear hlt hlh
      have hp : lo = cutF f l := cutF_unique (by rw [HL.out]; exact hin) (fun k a hk ha => HA.out k a hk ha) (fun a ha => HB.out lo a (Nat.le_refl _) ha)
      have HP := Lib.hid hp
      clear hp
      go_wp2_with fail
      go_ret
      exact ⟨by rw [← HP.out]; rfl, hb⟩

set_option maxHeartbeats 1000000 in
theorem cloR_is (R : Int) (o : Ad) (ms : List (CrtD × CrtA)) (l : List CrtD) (k : Nat) (x : CrtD) (gd gr : Nat) (w : World) (h : RowY w o ms) (hl : ms.map Prod.fst = l) (hx : l[k]? = some x)
    (hd : w.cell? ⟨gd, 2, none⟩ = some (.slice o.A o.n o.c)) (hr : w.cell? ⟨gr, 0, none⟩ = some (.int .i64 R)) :
    Calls Try.prog 113 #[.int .i64 k, .pointer (some ⟨gd, 0, none⟩), .pointer (some ⟨gr, 0, none⟩)] w fun e w' => e = .returned (.bool (!isLow R x)) ∧ Below w.heap.size w w' := by
  have hm : ∃ a, ms[k]? = some (x, a) := by
    rw [← hl, List.getElem?_map] at hx
    cases hm : ms[k]? with
    | none => rw [hm] at hx; cases hx
    | some z =>
      rw [hm] at hx
      simp only [Option.map_some, Option.some.injEq] at hx
      exact ⟨z.2, by rw [← hx]⟩
  obtain ⟨a, hm⟩ := hm
  have hk : k < o.n := by rw [← h.row.len]; exact (List.getElem?_eq_some_iff.1 hm).1
  have hn1 : o.n ≤ 1000000 := by rw [← h.row.len]; exact h.few
  obtain ⟨b, off, hA, hbl, hce⟩ := h.cells hm
  obtain ⟨k0, k1, k2, k3, k4, k5⟩ := hce w (Below.refl _ _)
  dsimp only at k0 k1 k2 k3 k4 k5
  obtain ⟨A, n, c⟩ := o
  simp only at hA hk hn1 hd
  subst hA
  clear h hl hx hm hce
  have i0 : (0 : Int) ≤ (k : Int) := by omega
  have i1 : (k : Int) < (n : Int) := by omega
  have HN : Hid ((!isLow R x) = decide (R ≤ x.r)) := by
    show _ = _
    unfold isLow
    by_cases h : x.r < R
    · simp [h]
    · simp [h]; omega
  go_enter Try.func113, Try.ntmps113
  go_wp2
  go_quiet (fail)
  go_wp2
  go_ret
  exact ⟨by rw [HN.out]; rfl, below_n (Below.refl _ _) _⟩

set_option maxHeartbeats 2000000 in
theorem firstFrom_is (N L R : Int) (o : Ad) (ms : List (CrtD × CrtA)) (l : List CrtD) (w : World) (h : RowY w o ms) (hl : ms.map Prod.fst = l) (ha : AscC l) :
    Calls Try.prog 102 #[dagV N L o, .int .i64 R] w fun e w' => e = .returned (.int .i64 (cutF (isLow R) l)) ∧ Below w.heap.size w w' := by
  have hlen : l.length = o.n := by rw [← hl, List.length_map, h.row.len]
  have hn1 : o.n ≤ 1000000 := by rw [← h.row.len]; exact h.few
  obtain ⟨w1, hw1⟩ : ∃ w1, w1 = (w.alloc (.cells #[.int .i64 N, .int .i64 L, .slice o.A o.n o.c] 24)).alloc (.cells #[.int .i64 R] 3) := ⟨_, rfl⟩
  have hb1 : Below w.heap.size w w1 := by rw [hw1]; exact ((Below.refl _ _).alloc (Nat.le_refl _) _).alloc (by simp) _
  have hsz : w1.heap.size = w.heap.size + 2 := by rw [hw1]; simp
  have hD : ∀ wX, Below w1.heap.size w1 wX → wX.cell? ⟨w.heap.size, 2, none⟩ = some (.slice o.A o.n o.c) ∧ wX.cell? ⟨w.heap.size + 1, 0, none⟩ = some (.int .i64 R) := fun wX hb => by
    refine ⟨(hb.cell (p := ⟨w.heap.size, 2, none⟩) (by show w.heap.size < _; omega)).trans ?_, (hb.cell (p := ⟨w.heap.size + 1, 0, none⟩) (by show w.heap.size + 1 < _; omega)).trans ?_⟩
    · rw [hw1]; simp [go_sem]
    · rw [hw1]; simp [go_sem]
  obtain ⟨d2, r0⟩ := hD w1 (Below.refl _ _)
  have HS := Lib.hid (sortSearch_is o.n l (isLow R) (.pointer (some ⟨w.heap.size, 0, none⟩)) (.pointer (some ⟨w.heap.size + 1, 0, none⟩)) w1 hlen hn1 (mon_low ha R) (fun k x hx wX hb => cloR_is R o ms l k x _ _ wX (h.below (hb1.trans (hb.mono hb1.size))) hl hx (hD wX hb).1 (hD wX hb).2))
  have HW := Lib.hid hw1
  have HB := Lib.hid hb1
  clear hD hlen hn1 h hl ha hw1 hb1 hsz
  obtain ⟨p, hp⟩ : ∃ p, p = cutF (isLow R) l := ⟨_, rfl⟩
  rw [← hp] at HS ⊢
  clear hp
  have hmf : ∀ (fn : Fn) (first cap : Array Value) (w : World), (Instr.makeFunc fn first cap).run Try.prog w = .ok (.func fn first cap) w := fun _ _ _ _ => rfl
  unfold dagV
  go_enter Try.func102, Try.ntmps102
  go_upto_region 1 with fail
  rw [← HW.out]
  go_wp2_with (go_at_call 105; refine HS.out.mono ?_; rintro e w' ⟨rfl, hb⟩)
  go_ret
  exact ⟨rfl, HB.out.trans (hb.mono HB.out.size)⟩

/-- a part of a row -/
def Ad.cut (o : Ad) (i j s : Nat) : Ad := ⟨if o.c = i then o.A else o.A.map (·.add (i * s)), j - i, o.c - i⟩
theorem RowY.part {w : World} {o : Ad} {ms : List (CrtD × CrtA)} (h : RowY w o ms) {i j : Nat} (hij : i ≤ j) (hj : j ≤ o.n) : RowY w (o.cut i j 6) ((ms.drop i).take (j - i)) := by
  have hlen := h.row.len
  have hcap := h.row.cap
  have hmax := h.row.max
  have hsub : ∀ x ∈ (ms.drop i).take (j - i), x ∈ ms := fun x hx => List.mem_of_mem_drop (List.mem_of_mem_take hx)
  refine ⟨⟨?_, ?_, ?_, ?_⟩, fun x hx => h.sub x (hsub x hx), fun x hx => h.fit x (hsub x hx), ?_⟩
  · show _ = j - i
    rw [List.length_take, List.length_drop]; omega
  · show j - i ≤ o.c - i
    omega
  · show o.c - i ≤ maxLen
    omega
  · intro hne
    have hij2 : i < j := by
      rcases Nat.lt_or_ge i j with h1 | h1
      · exact h1
      · rw [show j - i = 0 by omega, List.take_zero] at hne
        exact absurd rfl hne
    obtain ⟨b, off, e, hb, hc⟩ := h.row.rd.open_ (by rw [cellsY_length]; omega)
    refine ⟨b, off + i * 6, ?_, hb, fun k v hv => ?_⟩
    · show (if o.c = i then o.A else o.A.map (·.add (i * 6))) = _
      rw [if_neg (by omega), e]
      simp [Addr.add_lit]
    · rw [Nat.add_assoc]
      refine hc _ _ ?_
      have hk : k < (j - i) * 6 := by
        have := (List.getElem?_eq_some_iff.1 hv).1
        rw [cellsY_length, List.length_take, List.length_drop] at this
        omega
      rw [← cellsY_take, ← cellsY_drop, List.getElem?_take_of_lt hk, List.getElem?_drop] at hv
      exact hv
  · rw [List.length_take, List.length_drop]
    have := h.few
    omega

/-- a row of a graph's, and its part -/
def RoundTo (w : World) (l : List CrtD) (R : Int) (en : Ending) (w' : World) : Prop :=
  ∃ (o' : Ad) (ms' : List (CrtD × CrtA)), en = .returned (.slice o'.A o'.n o'.c) ∧ RowY w o' ms' ∧ ms'.map Prod.fst = inR l R ∧ Below w.heap.size w w'

set_option maxRecDepth 100000 in
set_option maxHeartbeats 4000000 in
theorem inRound_is (N L R : Int) (o : Ad) (ms : List (CrtD × CrtA)) (l : List CrtD) (w : World) (h : RowY w o ms) (hl : ms.map Prod.fst = l) (ha : AscC l) :
    Calls Try.prog 85 #[dagV N L o, .int .i64 R] w (RoundTo w l R) := by
  have hlen : l.length = o.n := by rw [← hl, List.length_map, h.row.len]
  have hn1 : o.n ≤ 1000000 := by rw [← h.row.len]; exact h.few
  have hcap := h.row.cap
  have hmax := h.row.max
  have hat : ∀ (i : Nat) (x : CrtD), l[i]? = some x → ∃ a, ms[i]? = some (x, a) := fun i x hx => by
    rw [← hl, List.getElem?_map] at hx
    cases hm : ms[i]? with
    | none => rw [hm] at hx; cases hx
    | some z =>
      rw [hm] at hx
      simp only [Option.map_some, Option.some.injEq] at hx
      exact ⟨z.2, by rw [← hx]⟩
  have hcel : ∀ (i : Nat) (x : CrtD × CrtA), ms[i]? = some x → ∃ b off, o.A = some ⟨b, off, none⟩ ∧ b < w.heap.size ∧ _ := fun i x hx => h.cells hx
  have hff : ∀ wX, Below w.heap.size w wX → Calls Try.prog 102 #[dagV N L o, .int .i64 R] wX fun e w' => e = .returned (.int .i64 (cutF (isLow R) l)) ∧ Below wX.heap.size wX w' := fun wX hb => firstFrom_is N L R o ms l wX (h.below hb) hl ha
  have hend : ∀ t : Nat, cutF (isLow R) l ≤ t → t ≤ o.n → (∀ k y, cutF (isLow R) l ≤ k → k < t → l[k]? = some y → y.r = R) → (∀ y, l[t]? = some y → y.r ≠ R) → RowY w (o.cut (cutF (isLow R) l) t 6) ((ms.drop (cutF (isLow R) l)).take (t - cutF (isLow R) l)) ∧ ((ms.drop (cutF (isLow R) l)).take (t - cutF (isLow R) l)).map Prod.fst = inR l R := fun t h1 h2 h3 h4 => by
    refine ⟨h.part h1 h2, ?_⟩
    rw [← inR_part ha h1 (by omega) h3 h4, List.map_take, List.map_drop, hl]
  have hcl : cutF (isLow R) l ≤ o.n := by rw [← hlen]; exact cutF_le l
  obtain ⟨f, hf⟩ : ∃ f, f = cutF (isLow R) l := ⟨_, rfl⟩
  rw [← hf] at hff hend hcl
  clear hf h hl ha
  obtain ⟨w1, hw1⟩ : ∃ w1, w1 = w.alloc (.cells (dagC N L o).toArray 24) := ⟨_, rfl⟩
  have hb1 : Below w.heap.size w w1 := by rw [hw1]; exact (Below.refl _ _).alloc (Nat.le_refl _) _
  have hsz : w1.heap.size = w.heap.size + 1 := by rw [hw1]; simp
  have hbx : Box w1 w.heap.size (dagC N L o) := by rw [hw1]; exact box_new _ _ _
  have HBX := Lib.hid hbx
  have HSZ := Lib.hid hsz
  have HW : Hid (w1 = w.alloc (.cells #[.int .i64 N, .int .i64 L, .slice o.A o.n o.c] 24)) := hw1
  have HB := Lib.hid hb1
  have HFF := Lib.hid (hff w1 hb1)
  obtain ⟨d0, d1, d2⟩ := dag_cells hbx
  have HL := Lib.hid hlen
  have HAT := Lib.hid hat
  have HCE := Lib.hid hcel
  have HE := Lib.hid hend
  clear hw1 hb1 hsz hbx hff hlen hat hcel hend
  unfold dagV at HFF ⊢
  obtain ⟨A, n, c⟩ := o
  simp only at hn1 hcap hmax hcl d0 d1 d2
  unfold maxLen at hmax
  go_enter Try.func85, Try.ntmps85
  go_upto_region 1 with fail
  rw [← HW.out]
  go_wp2_with (go_at_call 102; refine HFF.out.mono ?_; rintro e w2 ⟨rfl, hb2⟩)
  clear d0 d1 d2
  go_loopw [6] (fun i wr => ∃ t : Nat, i = .int .i64 t ∧ f ≤ t ∧ t ≤ n ∧ Hid (∀ k y, f ≤ k → k < t → l[k]? = some y → y.r = R) ∧ wr = w2) (fun i _ => n - (intOf i).toNat)
  case atStart => exact ⟨f, rfl, Nat.le_refl _, hcl, fun k y h1 h2 => by omega, rfl⟩
  case round =>
    obtain ⟨t, rfl, hft, htn, HR, rfl⟩ := hrel
    have hbw := HB.out.trans (hb2.mono HB.out.size)
    have hz := HSZ.out
    obtain ⟨d0, d1, d2⟩ := dag_cells (HBX.out.below hb2 (by omega))
    clear hz
    by_cases hlt : t < n
    · obtain ⟨x, hx⟩ : ∃ x, l[t]? = some x := ⟨_, List.getElem?_eq_getElem (by rw [HL.out]; omega)⟩
      obtain ⟨a, hm⟩ := HAT.out _ _ hx
      obtain ⟨b, off, hA, hbl, hce⟩ := HCE.out _ _ hm
      subst hA
      obtain ⟨k0, k1, k2, k3, k4, k5⟩ := hce _ hbw
      dsimp only at k0 k1 k2 k3 k4 k5
      have HX := Lib.hid hx
      have i0 : (0 : Int) ≤ (t : Int) := by omega
      have i1 : (t : Int) < (n : Int) := by omega
      clear hm hx hce
      by_cases hr : x.r = R
      · have HRR := Lib.hid hr
        clear hr
        have j1 : (x.r == R) = true := by rw [HRR.out]; simp
        go_wp2_with fail
        go_roundw
        case rel =>
          refine ⟨t + 1, by go_num, by omega, by omega, fun k y h1 h2 hy => ?_, trivial⟩
          rcases Nat.lt_or_ge k t with h3 | h3
          · exact HR.out k y h1 h3 hy
          · have : k = t := by omega
            subst this
            rw [HX.out] at hy
            cases hy
            exact HRR.out
        case measure => simp [intOf]; omega
      · have j1 : (x.r == R) = false := by simp [hr]
        have hend := HE.out t hft (by exact htn) HR.out (fun y hy => by rw [HX.out] at hy; cases hy; exact hr)
        have he : Ad.cut ⟨some ⟨b, off, none⟩, n, c⟩ f t 6 = ⟨some ⟨b, off + f * 6, none⟩, t - f, c - f⟩ := by unfold Ad.cut; rw [if_neg (by simp only; omega)]; simp [Addr.add_lit]
        rw [he] at hend
        have HEN := Lib.hid hend
        clear hend hr he
        go_wp2_with fail
        go_ret
        exact ⟨⟨some ⟨b, off + f * 6, none⟩, t - f, c - f⟩, _, rfl, HEN.out.1, HEN.out.2, hbw⟩
    · obtain rfl : t = n := by omega
      have i1 : ¬ ((t : Int) < (t : Int)) := by omega
      have hend := HE.out t hft (by exact htn) HR.out (fun y hy => by have := (List.getElem?_eq_some_iff.1 hy).1; have := HL.out; omega)
      clear hlt
      by_cases hcf : c = f
      · have he : Ad.cut ⟨A, t, c⟩ f t 6 = ⟨A, t - f, 0⟩ := by subst hcf; simp [Ad.cut]
        rw [he] at hend
        have HEN := Lib.hid hend
        clear hend he
        go_wp2_with fail
        go_ret
        exact ⟨⟨A, t - f, 0⟩, _, rfl, HEN.out.1, HEN.out.2, hbw⟩
      · have HEN := Lib.hid hend
        clear hend
        go_wp2_with fail
        go_ret
        exact ⟨_, _, by unfold Ad.cut; rw [if_neg hcf]; rfl, HEN.out.1, HEN.out.2, hbw⟩

end Go.Proofs.Ytejkeccoialogaa
