/-
  Package dag's Add: what is refused.
-/
import Derived.Test.YtejkeccoialogaaYApiA
namespace Go.Proofs.Ytejkeccoialogaa
open Go.RowKit

theorem size_dag : (Try.prog.info? 24).map (·.size) = some 3 := by kernel_rfl
theorem chk_ok {N L : Int} {x : CrtD} (hz : chkC N L x = 0) : x.ok N = true ∧ L < x.r := by
  unfold chkC at hz
  split at hz
  · rename_i h1
    split at hz
    · omega
    · rename_i h2; exact ⟨h1, by omega⟩
  · omega
theorem findPlaceC_is (N L : Int) (o : Ad) (ms : List (CrtD × CrtA)) (l : List CrtD) (x : CrtD) (w : World) (h : RowY w o ms) (hl : ms.map Prod.fst = l) (ha : AscC l) (hp : ∀ x ∈ l, x.pl) (hx : x.pl) :
    Calls Try.prog 51 #[dagV N L o, .complex .f64 (Pl.Fl.F x.r) (Pl.Fl.F x.a)] w fun e w' => e = .returned (.tuple #[.int .i64 (posC l x.r x.a), .bool (hasAt l x.r x.a)]) ∧ Below w.heap.size w w' := by
  have := findPlace_is N L o ms l (Pl.Fl.F x.r) (Pl.Fl.F x.a) w h hl ha hp (CrtD.pl_isP hx)
  rwa [(CrtD.pl_fint hx).1, (CrtD.pl_fint hx).2] at this
/-- refused, and nothing beside -/
def AddErr (z : Int) (w : World) (en : Ending) (w' : World) : Prop := en = .returned (.tuple #[dagV 0 0 noAd, .int .i64 z]) ∧ Below w.heap.size w w'

set_option maxRecDepth 100000 in
set_option maxHeartbeats 8000000 in
theorem add_bad (N L : Int) (o : Ad) (l : List CrtD) (x : CrtD) (a : CrtA) (w : World) (h : GIn w o l) (hm : ¬ MayG N L l) :
    Calls Try.prog 15 #[dagV N L o, crtV x a] w (AddErr 1 w) := by
  obtain ⟨g, hg⟩ : ∃ g, g = w.heap.size := ⟨_, rfl⟩
  obtain ⟨w1, hw1⟩ : ∃ w1, w1 = (((w.alloc (.cells (dagC N L o).toArray 24)).alloc (.cells (crtC x a).toArray 37)).alloc (.cells (dagC 0 0 noAd).toArray 24)) := ⟨_, rfl⟩
  obtain ⟨hb1, hsz, hx0, hx1, hx2⟩ := boxes3 w _ _ _ _ _ _ hw1
  rw [← hg] at hb1 hsz hx0 hx1 hx2
  have HG : Hid (w.heap.size = g) := hg.symm
  have HW : Hid ((((w.alloc (.cells #[.int .i64 N, .int .i64 L, .slice o.A o.n o.c] 24)).alloc (.cells #[.int .i64 x.a, .int .i64 x.r, .slice a.B.A a.B.n a.B.c, .slice a.P.A a.P.n a.P.c, .int .i64 x.d, .slice a.S.A a.S.n a.S.c] 37)).alloc (.cells #[.int .i64 0, .int .i64 0, .slice none 0 0] 24)) = w1) := hw1.symm
  have HIN : Hid (∀ wX, Below g w wX → GIn wX o l) := fun wX hb => h.below (by rw [← hg]; exact hb)
  have HB := Lib.hid hb1
  have HSZ := Lib.hid hsz
  have HX0 := Lib.hid hx0
  have HX1 := Lib.hid hx1
  have HX2 := Lib.hid hx2
  have HD : Hid (∀ wX, Below w1.heap.size w1 wX → (wX.cell? ⟨g, 0, none⟩ = some (.int .i64 N) ∧ wX.cell? ⟨g, 1, none⟩ = some (.int .i64 L) ∧ wX.cell? ⟨g, 2, none⟩ = some (.slice o.A o.n o.c)) ∧ (wX.cell? ⟨g + 1, 0, none⟩ = some (.int .i64 x.a) ∧ wX.cell? ⟨g + 1, 1, none⟩ = some (.int .i64 x.r) ∧ wX.cell? ⟨g + 1, 2, none⟩ = some (.slice a.B.A a.B.n a.B.c) ∧ wX.cell? ⟨g + 1, 3, none⟩ = some (.slice a.P.A a.P.n a.P.c) ∧ wX.cell? ⟨g + 1, 4, none⟩ = some (.int .i64 x.d) ∧ wX.cell? ⟨g + 1, 5, none⟩ = some (.slice a.S.A a.S.n a.S.c))) := fun wX hb => ⟨dag_cells (HX0.out.below hb HX0.out.1), crt_cells (HX1.out.below hb HX1.out.1)⟩
  have HC := Lib.hid (check_bad (HIN.out _ hb1) hm)
  clear hg hw1 hb1 hsz hx1 hx2 h hm
  unfold dagV at HC
  unfold dagV crtV
  have hgs := HX0.out.1
  have hz1 := HSZ.out
  obtain ⟨d10, d11, d12⟩ := dag_cells hx0
  go_enter Try.func15, Try.ntmps15
  go_upto_region 1 with fail
  rw [HG.out, HW.out]
  go_upto_region 3 with (go_at_call 21; refine HC.out.mono ?_; rintro e w2 ⟨rfl, hb12⟩)
  go_wp2_with (first
    | (refine wpList_store_box rfl 24 _ _ rfl (g + 2) 0 (dagC 0 0 noAd) (dagC 0 0 noAd) (dagC 0 0 noAd) rfl rfl (HX2.out.below hb12 HX2.out.1) (show 0 + 3 ≤ 3 by decide) rfl size_dag rfl ?_))
  intro w9 by9 T9
  have t9 := T9 (fun k => k = g + 2) rfl
  obtain ⟨r0, r1, r2⟩ := dag_cells by9
  have hb9 : Below g w w9 := (HB.out.trans (hb12.mono (Nat.le_of_lt hgs))).trans (t9.below (fun k hk => by have e : k = g + 2 := hk; omega) (by have := hb12.size; omega))
  go_wp2_with fail
  refine bodyPost_ret (v := .tuple #[dagV 0 0 noAd, .int .i64 1]) (by simp [results, Try.results15, go_sem, r0, r1, r2, dagV, noAd]) rfl ⟨rfl, ?_⟩
  rw [HG.out]
  exact hb9

set_option maxRecDepth 100000 in
set_option maxHeartbeats 8000000 in
theorem add_chk (N L : Int) (o : Ad) (l : List CrtD) (x : CrtD) (a : CrtA) (w : World) (h : GIn w o l) (hm : MayG N L l) (hi : CIn w x a) (hf : CrtFit x) (hz : chkC N L x ≠ 0) :
    Calls Try.prog 15 #[dagV N L o, crtV x a] w (AddErr (chkC N L x) w) := by
  obtain ⟨g, hg⟩ : ∃ g, g = w.heap.size := ⟨_, rfl⟩
  obtain ⟨w1, hw1⟩ : ∃ w1, w1 = (((w.alloc (.cells (dagC N L o).toArray 24)).alloc (.cells (crtC x a).toArray 37)).alloc (.cells (dagC 0 0 noAd).toArray 24)) := ⟨_, rfl⟩
  obtain ⟨hb1, hsz, hx0, hx1, hx2⟩ := boxes3 w _ _ _ _ _ _ hw1
  rw [← hg] at hb1 hsz hx0 hx1 hx2
  have HG : Hid (w.heap.size = g) := hg.symm
  have HW : Hid ((((w.alloc (.cells #[.int .i64 N, .int .i64 L, .slice o.A o.n o.c] 24)).alloc (.cells #[.int .i64 x.a, .int .i64 x.r, .slice a.B.A a.B.n a.B.c, .slice a.P.A a.P.n a.P.c, .int .i64 x.d, .slice a.S.A a.S.n a.S.c] 37)).alloc (.cells #[.int .i64 0, .int .i64 0, .slice none 0 0] 24)) = w1) := hw1.symm
  have HIN : Hid (∀ wX, Below g w wX → GIn wX o l) := fun wX hb => h.below (by rw [← hg]; exact hb)
  have HB := Lib.hid hb1
  have HSZ := Lib.hid hsz
  have HX0 := Lib.hid hx0
  have HX1 := Lib.hid hx1
  have HX2 := Lib.hid hx2
  have HD : Hid (∀ wX, Below w1.heap.size w1 wX → (wX.cell? ⟨g, 0, none⟩ = some (.int .i64 N) ∧ wX.cell? ⟨g, 1, none⟩ = some (.int .i64 L) ∧ wX.cell? ⟨g, 2, none⟩ = some (.slice o.A o.n o.c)) ∧ (wX.cell? ⟨g + 1, 0, none⟩ = some (.int .i64 x.a) ∧ wX.cell? ⟨g + 1, 1, none⟩ = some (.int .i64 x.r) ∧ wX.cell? ⟨g + 1, 2, none⟩ = some (.slice a.B.A a.B.n a.B.c) ∧ wX.cell? ⟨g + 1, 3, none⟩ = some (.slice a.P.A a.P.n a.P.c) ∧ wX.cell? ⟨g + 1, 4, none⟩ = some (.int .i64 x.d) ∧ wX.cell? ⟨g + 1, 5, none⟩ = some (.slice a.S.A a.S.n a.S.c))) := fun wX hb => ⟨dag_cells (HX0.out.below hb HX0.out.1), crt_cells (HX1.out.below hb HX1.out.1)⟩
  have HC := Lib.hid (check_ok (HIN.out _ hb1) hm)
  have HCI : Hid (∀ wX, Below g w wX → CIn wX x a) := fun wX hb => hi.below (by rw [HG.out]; exact hb)
  have HK : Hid (∀ w2, Below g w w2 → Calls Try.prog 50 #[dagV N L o, crtV x a] w2 fun e w' => e = .returned (.int .i64 (chkC N L x)) ∧ Below w2.heap.size w2 w') := fun w2 hb2 => by
    have := checkCert_is N L o x a w2 (HCI.out _ hb2) hf
    exact this
  clear hg hw1 hb1 hsz hx1 hx2 h hm hi hf
  obtain ⟨zc, hzc⟩ : ∃ zc, zc = chkC N L x := ⟨_, rfl⟩
  rw [← hzc] at HK hz ⊢
  have j1 : (zc == 0) = false := by simp [hz]
  have j2 : (zc != 0) = true := by simp [hz]
  clear hzc hz
  unfold dagV at HC
  unfold dagV crtV at HK ⊢
  have hgs := HX0.out.1
  have hz1 := HSZ.out
  obtain ⟨d10, d11, d12⟩ := dag_cells hx0
  go_enter Try.func15, Try.ntmps15
  go_upto_region 1 with fail
  rw [HG.out, HW.out]
  go_upto_region 4 with (go_at_call 21; refine HC.out.mono ?_; rintro e w2 ⟨rfl, hb12⟩)
  obtain ⟨⟨d20, d21, d22⟩, c20, c21, c22, c23, c24, c25⟩ := HD.out w2 hb12
  have hbb2 := HB.out.trans (hb12.mono (Nat.le_of_lt hgs))
  go_upto_region 6 with (go_at_call 50; refine (HK.out _ hbb2).mono ?_; rintro e w3 ⟨rfl, hb3⟩)
  have hb13 := hb12.trans (hb3.mono hb12.size)
  go_wp2_with (first
    | (refine wpList_store_box rfl 24 _ _ rfl (g + 2) 0 (dagC 0 0 noAd) (dagC 0 0 noAd) (dagC 0 0 noAd) rfl rfl (HX2.out.below hb13 HX2.out.1) (show 0 + 3 ≤ 3 by decide) rfl size_dag rfl ?_))
  intro w9 by9 T9
  have t9 := T9 (fun k => k = g + 2) rfl
  obtain ⟨r0, r1, r2⟩ := dag_cells by9
  have hb9 : Below g w w9 := (HB.out.trans (hb13.mono (Nat.le_of_lt hgs))).trans (t9.below (fun k hk => by have e : k = g + 2 := hk; omega) (by have := hb13.size; omega))
  go_wp2_with fail
  refine bodyPost_ret (v := .tuple #[dagV 0 0 noAd, .int .i64 zc]) (by simp [results, Try.results15, go_sem, r0, r1, r2, dagV, noAd]) rfl ⟨rfl, ?_⟩
  rw [HG.out]
  exact hb9

set_option maxRecDepth 100000 in
set_option maxHeartbeats 8000000 in
theorem add_there (N L : Int) (o : Ad) (l : List CrtD) (x : CrtD) (a : CrtA) (w : World) (h : GIn w o l) (hm : MayG N L l) (hi : CIn w x a) (hf : CrtFit x) (hz : chkC N L x = 0) (y : CrtD) (hy : l[posC l x.r x.a]? = some y) (he : y.r = x.r ∧ y.a = x.a) (hd : y.d = x.d) :
    Calls Try.prog 15 #[dagV N L o, crtV x a] w (AddErr 4 w) := by
  obtain ⟨g, hg⟩ : ∃ g, g = w.heap.size := ⟨_, rfl⟩
  obtain ⟨w1, hw1⟩ : ∃ w1, w1 = (((w.alloc (.cells (dagC N L o).toArray 24)).alloc (.cells (crtC x a).toArray 37)).alloc (.cells (dagC 0 0 noAd).toArray 24)) := ⟨_, rfl⟩
  obtain ⟨hb1, hsz, hx0, hx1, hx2⟩ := boxes3 w _ _ _ _ _ _ hw1
  rw [← hg] at hb1 hsz hx0 hx1 hx2
  have HG : Hid (w.heap.size = g) := hg.symm
  have HW : Hid ((((w.alloc (.cells #[.int .i64 N, .int .i64 L, .slice o.A o.n o.c] 24)).alloc (.cells #[.int .i64 x.a, .int .i64 x.r, .slice a.B.A a.B.n a.B.c, .slice a.P.A a.P.n a.P.c, .int .i64 x.d, .slice a.S.A a.S.n a.S.c] 37)).alloc (.cells #[.int .i64 0, .int .i64 0, .slice none 0 0] 24)) = w1) := hw1.symm
  have HIN : Hid (∀ wX, Below g w wX → GIn wX o l) := fun wX hb => h.below (by rw [← hg]; exact hb)
  have HB := Lib.hid hb1
  have HSZ := Lib.hid hsz
  have HX0 := Lib.hid hx0
  have HX1 := Lib.hid hx1
  have HX2 := Lib.hid hx2
  have HD : Hid (∀ wX, Below w1.heap.size w1 wX → (wX.cell? ⟨g, 0, none⟩ = some (.int .i64 N) ∧ wX.cell? ⟨g, 1, none⟩ = some (.int .i64 L) ∧ wX.cell? ⟨g, 2, none⟩ = some (.slice o.A o.n o.c)) ∧ (wX.cell? ⟨g + 1, 0, none⟩ = some (.int .i64 x.a) ∧ wX.cell? ⟨g + 1, 1, none⟩ = some (.int .i64 x.r) ∧ wX.cell? ⟨g + 1, 2, none⟩ = some (.slice a.B.A a.B.n a.B.c) ∧ wX.cell? ⟨g + 1, 3, none⟩ = some (.slice a.P.A a.P.n a.P.c) ∧ wX.cell? ⟨g + 1, 4, none⟩ = some (.int .i64 x.d) ∧ wX.cell? ⟨g + 1, 5, none⟩ = some (.slice a.S.A a.S.n a.S.c))) := fun wX hb => ⟨dag_cells (HX0.out.below hb HX0.out.1), crt_cells (HX1.out.below hb HX1.out.1)⟩
  have HC := Lib.hid (check_ok (HIN.out _ hb1) hm)
  have HCI : Hid (∀ wX, Below g w wX → CIn wX x a) := fun wX hb => hi.below (by rw [HG.out]; exact hb)
  have HK : Hid (∀ w2, Below g w w2 → Calls Try.prog 50 #[dagV N L o, crtV x a] w2 fun e w' => e = .returned (.int .i64 (0)) ∧ Below w2.heap.size w2 w') := fun w2 hb2 => by
    have := checkCert_is N L o x a w2 (HCI.out _ hb2) hf
    rwa [hz] at this
  have hpl := (CrtD.pl_of (chk_ok hz).1).1
  have HPL := Lib.hid hpl
  have HFP : Hid (∀ wX, Below g w wX → Calls Try.prog 51 #[dagV N L o, .complex .f64 (Pl.Fl.F x.r) (Pl.Fl.F x.a)] wX fun e w' => e = .returned (.tuple #[.int .i64 (posC l x.r x.a), .bool (hasAt l x.r x.a)]) ∧ Below wX.heap.size wX w') := fun wX hb => by
    obtain ⟨ms, h1, h2⟩ := HIN.out wX hb
    exact findPlaceC_is N L o ms l x wX h1 h2 hm.asc (fun y hy => (CrtD.pl_of (hm.of_mem hy).1).1) hpl
  have hpn : posC l x.r x.a ≤ o.n := by rw [← h.len]; exact cutF_le l
  obtain ⟨b, off, ay, hA, hbl, -, hce⟩ := h.get hy
  have hph : hasAt l x.r x.a = true := by rw [hasAt_some hy]; simp [he]
  have hpl2 : posC l x.r x.a < o.n := by rw [← h.len]; exact (List.getElem?_eq_some_iff.1 hy).1
  have HCE : Hid (∀ wX, Below g w wX → CrtAt wX b off (posC l x.r x.a) y ay) := fun wX hb => hce wX (by rw [HG.out]; exact hb)
  rw [hph] at HFP
  obtain ⟨p, hpp⟩ : ∃ p, p = posC l x.r x.a := ⟨_, rfl⟩
  rw [← hpp] at HFP HCE hpl2
  have hfew := h.few
  have j1 : (y.d == x.d) = true := by simp [hd]
  have i0 : (0 : Int) ≤ (p : Int) := Int.natCast_nonneg p
  have i1 : (p : Int) < (o.n : Int) := Int.ofNat_lt.2 hpl2
  clear hg hw1 hb1 hsz hx1 hx2 h hm hi hf hz hpn hce hy he hd hpp hph hpl
  unfold dagV at HC
  unfold dagV crtV at HK ⊢
  unfold dagV at HFP
  obtain ⟨A, n, c⟩ := o
  simp only at hA hpl2 i1 hfew
  subst hA
  have hgs := HX0.out.1
  have hz1 := HSZ.out
  obtain ⟨d10, d11, d12⟩ := dag_cells hx0
  go_enter Try.func15, Try.ntmps15
  go_upto_region 1 with fail
  rw [HG.out, HW.out]
  go_upto_region 4 with (go_at_call 21; refine HC.out.mono ?_; rintro e w2 ⟨rfl, hb12⟩)
  obtain ⟨⟨d20, d21, d22⟩, c20, c21, c22, c23, c24, c25⟩ := HD.out w2 hb12
  have hbb2 := HB.out.trans (hb12.mono (Nat.le_of_lt hgs))
  clear d10 d11 d12
  go_upto_region 7 with (go_at_call 50; refine (HK.out _ hbb2).mono ?_; rintro e w3 ⟨rfl, hb3⟩)
  have hb13 := hb12.trans (hb3.mono hb12.size)
  clear d20 d21 d22 c20 c21 c22 c23 c24 c25
  clear hb3
  have q0 : ∀ z : Calm w3, z.val.cell? ⟨g + 1, 0, none⟩ = some (.int .i64 x.a) := fun z => (HD.out z.val (hb13.trans (z.ok.mono hb13.size))).2.1
  have q1 : ∀ z : Calm w3, z.val.cell? ⟨g + 1, 1, none⟩ = some (.int .i64 x.r) := fun z => (HD.out z.val (hb13.trans (z.ok.mono hb13.size))).2.2.1
  have q2 : ∀ z : Calm w3, z.val.cell? ⟨g + 1, 2, none⟩ = some (.slice a.B.A a.B.n a.B.c) := fun z => (HD.out z.val (hb13.trans (z.ok.mono hb13.size))).2.2.2.1
  have q3 : ∀ z : Calm w3, z.val.cell? ⟨g + 1, 3, none⟩ = some (.slice a.P.A a.P.n a.P.c) := fun z => (HD.out z.val (hb13.trans (z.ok.mono hb13.size))).2.2.2.2.1
  have q4 : ∀ z : Calm w3, z.val.cell? ⟨g + 1, 4, none⟩ = some (.int .i64 x.d) := fun z => (HD.out z.val (hb13.trans (z.ok.mono hb13.size))).2.2.2.2.2.1
  have q5 : ∀ z : Calm w3, z.val.cell? ⟨g + 1, 5, none⟩ = some (.slice a.S.A a.S.n a.S.c) := fun z => (HD.out z.val (hb13.trans (z.ok.mono hb13.size))).2.2.2.2.2.2
  have p0 : ∀ z : Calm w3, z.val.cell? ⟨g, 0, none⟩ = some (.int .i64 N) := fun z => (HD.out z.val (hb13.trans (z.ok.mono hb13.size))).1.1
  have p1 : ∀ z : Calm w3, z.val.cell? ⟨g, 1, none⟩ = some (.int .i64 L) := fun z => (HD.out z.val (hb13.trans (z.ok.mono hb13.size))).1.2.1
  have p2 : ∀ z : Calm w3, z.val.cell? ⟨g, 2, none⟩ = some (.slice (some ⟨b, off, none⟩) n c) := fun z => (HD.out z.val (hb13.trans (z.ok.mono hb13.size))).1.2.2
  refine wp_region_calm (by kernel_rfl) (by kernel_rfl) ?_
  repeat (go_big_quiet_step (first
    | (go_at_call 52; exact calm_tells (placeOf_is x a HPL.out _))
    | (go_at_call 51; exact calm_tells (HFP.out _ (HB.out.trans ((hb13.trans ((Calm.ok _).mono hb13.size)).mono (Nat.le_of_lt hgs)))))))
  refine wpQuiet_nil ?_
  rintro _ ⟨z, rfl⟩
  obtain ⟨w4, hw4⟩ : ∃ w4, w4 = z.val := ⟨_, rfl⟩
  have hb14 : Below w1.heap.size w1 w4 := by rw [hw4]; exact hb13.trans (z.ok.mono hb13.size)
  rw [← hw4]
  clear hw4 z q0 q1 q2 q3 q4 q5 p0 p1 p2
  go_upto_region 8 with fail
  have p2 : ∀ z : Calm w4, z.val.cell? ⟨g, 2, none⟩ = some (.slice (some ⟨b, off, none⟩) n c) := fun z => (HD.out z.val (hb14.trans (z.ok.mono hb14.size))).1.2.2
  have q4 : ∀ z : Calm w4, z.val.cell? ⟨g + 1, 4, none⟩ = some (.int .i64 x.d) := fun z => (HD.out z.val (hb14.trans (z.ok.mono hb14.size))).2.2.2.2.2.1
  have y4 : ∀ z : Calm w4, z.val.cell? ⟨b, off + p * 6 + 4, none⟩ = some (.int .i64 y.d) := fun z => (HCE.out z.val (HB.out.trans ((hb14.trans (z.ok.mono hb14.size)).mono (Nat.le_of_lt hgs)))).c4
  refine wp_region_calm (by kernel_rfl) (by kernel_rfl) ?_
  repeat (go_big_quiet_step (fail))
  refine wpQuiet_nil ?_
  rintro _ ⟨z, rfl⟩
  obtain ⟨w5, hw5⟩ : ∃ w5, w5 = z.val := ⟨_, rfl⟩
  have hb15 : Below w1.heap.size w1 w5 := by rw [hw5]; exact hb14.trans (z.ok.mono hb14.size)
  rw [← hw5]
  clear hw5 z p2 q4 y4
  go_upto_region 9 with fail
  go_wp2_with (first
    | (refine wpList_store_box rfl 24 _ _ rfl (g + 2) 0 (dagC 0 0 noAd) (dagC 0 0 noAd) (dagC 0 0 noAd) rfl rfl (HX2.out.below hb15 HX2.out.1) (show 0 + 3 ≤ 3 by decide) rfl size_dag rfl ?_))
  intro w9 by9 T9
  have t9 := T9 (fun k => k = g + 2) rfl
  obtain ⟨r0, r1, r2⟩ := dag_cells by9
  have hb9 : Below g w w9 := (HB.out.trans (hb15.mono (Nat.le_of_lt hgs))).trans (t9.below (fun k hk => by have e : k = g + 2 := hk; omega) (by have := hb15.size; omega))
  go_wp2_with fail
  refine bodyPost_ret (v := .tuple #[dagV 0 0 noAd, .int .i64 4]) (by simp [results, Try.results15, go_sem, r0, r1, r2, dagV, noAd]) rfl ⟨rfl, ?_⟩
  rw [HG.out]
  exact hb9

set_option maxRecDepth 100000 in
set_option maxHeartbeats 8000000 in
theorem add_two (N L : Int) (o : Ad) (l : List CrtD) (x : CrtD) (a : CrtA) (w : World) (h : GIn w o l) (hm : MayG N L l) (hi : CIn w x a) (hf : CrtFit x) (hz : chkC N L x = 0) (y : CrtD) (hy : l[posC l x.r x.a]? = some y) (he : y.r = x.r ∧ y.a = x.a) (hd : y.d ≠ x.d) :
    Calls Try.prog 15 #[dagV N L o, crtV x a] w (AddErr 5 w) := by
  obtain ⟨g, hg⟩ : ∃ g, g = w.heap.size := ⟨_, rfl⟩
  obtain ⟨w1, hw1⟩ : ∃ w1, w1 = (((w.alloc (.cells (dagC N L o).toArray 24)).alloc (.cells (crtC x a).toArray 37)).alloc (.cells (dagC 0 0 noAd).toArray 24)) := ⟨_, rfl⟩
  obtain ⟨hb1, hsz, hx0, hx1, hx2⟩ := boxes3 w _ _ _ _ _ _ hw1
  rw [← hg] at hb1 hsz hx0 hx1 hx2
  have HG : Hid (w.heap.size = g) := hg.symm
  have HW : Hid ((((w.alloc (.cells #[.int .i64 N, .int .i64 L, .slice o.A o.n o.c] 24)).alloc (.cells #[.int .i64 x.a, .int .i64 x.r, .slice a.B.A a.B.n a.B.c, .slice a.P.A a.P.n a.P.c, .int .i64 x.d, .slice a.S.A a.S.n a.S.c] 37)).alloc (.cells #[.int .i64 0, .int .i64 0, .slice none 0 0] 24)) = w1) := hw1.symm
  have HIN : Hid (∀ wX, Below g w wX → GIn wX o l) := fun wX hb => h.below (by rw [← hg]; exact hb)
  have HB := Lib.hid hb1
  have HSZ := Lib.hid hsz
  have HX0 := Lib.hid hx0
  have HX1 := Lib.hid hx1
  have HX2 := Lib.hid hx2
  have HD : Hid (∀ wX, Below w1.heap.size w1 wX → (wX.cell? ⟨g, 0, none⟩ = some (.int .i64 N) ∧ wX.cell? ⟨g, 1, none⟩ = some (.int .i64 L) ∧ wX.cell? ⟨g, 2, none⟩ = some (.slice o.A o.n o.c)) ∧ (wX.cell? ⟨g + 1, 0, none⟩ = some (.int .i64 x.a) ∧ wX.cell? ⟨g + 1, 1, none⟩ = some (.int .i64 x.r) ∧ wX.cell? ⟨g + 1, 2, none⟩ = some (.slice a.B.A a.B.n a.B.c) ∧ wX.cell? ⟨g + 1, 3, none⟩ = some (.slice a.P.A a.P.n a.P.c) ∧ wX.cell? ⟨g + 1, 4, none⟩ = some (.int .i64 x.d) ∧ wX.cell? ⟨g + 1, 5, none⟩ = some (.slice a.S.A a.S.n a.S.c))) := fun wX hb => ⟨dag_cells (HX0.out.below hb HX0.out.1), crt_cells (HX1.out.below hb HX1.out.1)⟩
  have HC := Lib.hid (check_ok (HIN.out _ hb1) hm)
  have HCI : Hid (∀ wX, Below g w wX → CIn wX x a) := fun wX hb => hi.below (by rw [HG.out]; exact hb)
  have HK : Hid (∀ w2, Below g w w2 → Calls Try.prog 50 #[dagV N L o, crtV x a] w2 fun e w' => e = .returned (.int .i64 (0)) ∧ Below w2.heap.size w2 w') := fun w2 hb2 => by
    have := checkCert_is N L o x a w2 (HCI.out _ hb2) hf
    rwa [hz] at this
  have hpl := (CrtD.pl_of (chk_ok hz).1).1
  have HPL := Lib.hid hpl
  have HFP : Hid (∀ wX, Below g w wX → Calls Try.prog 51 #[dagV N L o, .complex .f64 (Pl.Fl.F x.r) (Pl.Fl.F x.a)] wX fun e w' => e = .returned (.tuple #[.int .i64 (posC l x.r x.a), .bool (hasAt l x.r x.a)]) ∧ Below wX.heap.size wX w') := fun wX hb => by
    obtain ⟨ms, h1, h2⟩ := HIN.out wX hb
    exact findPlaceC_is N L o ms l x wX h1 h2 hm.asc (fun y hy => (CrtD.pl_of (hm.of_mem hy).1).1) hpl
  have hpn : posC l x.r x.a ≤ o.n := by rw [← h.len]; exact cutF_le l
  obtain ⟨b, off, ay, hA, hbl, -, hce⟩ := h.get hy
  have hph : hasAt l x.r x.a = true := by rw [hasAt_some hy]; simp [he]
  have hpl2 : posC l x.r x.a < o.n := by rw [← h.len]; exact (List.getElem?_eq_some_iff.1 hy).1
  have HCE : Hid (∀ wX, Below g w wX → CrtAt wX b off (posC l x.r x.a) y ay) := fun wX hb => hce wX (by rw [HG.out]; exact hb)
  rw [hph] at HFP
  obtain ⟨p, hpp⟩ : ∃ p, p = posC l x.r x.a := ⟨_, rfl⟩
  rw [← hpp] at HFP HCE hpl2
  have hfew := h.few
  have j1 : (y.d == x.d) = false := by simp [hd]
  have i0 : (0 : Int) ≤ (p : Int) := Int.natCast_nonneg p
  have i1 : (p : Int) < (o.n : Int) := Int.ofNat_lt.2 hpl2
  clear hg hw1 hb1 hsz hx1 hx2 h hm hi hf hz hpn hce hy he hd hpp hph hpl
  unfold dagV at HC
  unfold dagV crtV at HK ⊢
  unfold dagV at HFP
  obtain ⟨A, n, c⟩ := o
  simp only at hA hpl2 i1 hfew
  subst hA
  have hgs := HX0.out.1
  have hz1 := HSZ.out
  obtain ⟨d10, d11, d12⟩ := dag_cells hx0
  go_enter Try.func15, Try.ntmps15
  go_upto_region 1 with fail
  rw [HG.out, HW.out]
  go_upto_region 4 with (go_at_call 21; refine HC.out.mono ?_; rintro e w2 ⟨rfl, hb12⟩)
  obtain ⟨⟨d20, d21, d22⟩, c20, c21, c22, c23, c24, c25⟩ := HD.out w2 hb12
  have hbb2 := HB.out.trans (hb12.mono (Nat.le_of_lt hgs))
  clear d10 d11 d12
  go_upto_region 7 with (go_at_call 50; refine (HK.out _ hbb2).mono ?_; rintro e w3 ⟨rfl, hb3⟩)
  have hb13 := hb12.trans (hb3.mono hb12.size)
  clear d20 d21 d22 c20 c21 c22 c23 c24 c25
  clear hb3
  have q0 : ∀ z : Calm w3, z.val.cell? ⟨g + 1, 0, none⟩ = some (.int .i64 x.a) := fun z => (HD.out z.val (hb13.trans (z.ok.mono hb13.size))).2.1
  have q1 : ∀ z : Calm w3, z.val.cell? ⟨g + 1, 1, none⟩ = some (.int .i64 x.r) := fun z => (HD.out z.val (hb13.trans (z.ok.mono hb13.size))).2.2.1
  have q2 : ∀ z : Calm w3, z.val.cell? ⟨g + 1, 2, none⟩ = some (.slice a.B.A a.B.n a.B.c) := fun z => (HD.out z.val (hb13.trans (z.ok.mono hb13.size))).2.2.2.1
  have q3 : ∀ z : Calm w3, z.val.cell? ⟨g + 1, 3, none⟩ = some (.slice a.P.A a.P.n a.P.c) := fun z => (HD.out z.val (hb13.trans (z.ok.mono hb13.size))).2.2.2.2.1
  have q4 : ∀ z : Calm w3, z.val.cell? ⟨g + 1, 4, none⟩ = some (.int .i64 x.d) := fun z => (HD.out z.val (hb13.trans (z.ok.mono hb13.size))).2.2.2.2.2.1
  have q5 : ∀ z : Calm w3, z.val.cell? ⟨g + 1, 5, none⟩ = some (.slice a.S.A a.S.n a.S.c) := fun z => (HD.out z.val (hb13.trans (z.ok.mono hb13.size))).2.2.2.2.2.2
  have p0 : ∀ z : Calm w3, z.val.cell? ⟨g, 0, none⟩ = some (.int .i64 N) := fun z => (HD.out z.val (hb13.trans (z.ok.mono hb13.size))).1.1
  have p1 : ∀ z : Calm w3, z.val.cell? ⟨g, 1, none⟩ = some (.int .i64 L) := fun z => (HD.out z.val (hb13.trans (z.ok.mono hb13.size))).1.2.1
  have p2 : ∀ z : Calm w3, z.val.cell? ⟨g, 2, none⟩ = some (.slice (some ⟨b, off, none⟩) n c) := fun z => (HD.out z.val (hb13.trans (z.ok.mono hb13.size))).1.2.2
  refine wp_region_calm (by kernel_rfl) (by kernel_rfl) ?_
  repeat (go_big_quiet_step (first
    | (go_at_call 52; exact calm_tells (placeOf_is x a HPL.out _))
    | (go_at_call 51; exact calm_tells (HFP.out _ (HB.out.trans ((hb13.trans ((Calm.ok _).mono hb13.size)).mono (Nat.le_of_lt hgs)))))))
  refine wpQuiet_nil ?_
  rintro _ ⟨z, rfl⟩
  obtain ⟨w4, hw4⟩ : ∃ w4, w4 = z.val := ⟨_, rfl⟩
  have hb14 : Below w1.heap.size w1 w4 := by rw [hw4]; exact hb13.trans (z.ok.mono hb13.size)
  rw [← hw4]
  clear hw4 z q0 q1 q2 q3 q4 q5 p0 p1 p2
  go_upto_region 8 with fail
  have p2 : ∀ z : Calm w4, z.val.cell? ⟨g, 2, none⟩ = some (.slice (some ⟨b, off, none⟩) n c) := fun z => (HD.out z.val (hb14.trans (z.ok.mono hb14.size))).1.2.2
  have q4 : ∀ z : Calm w4, z.val.cell? ⟨g + 1, 4, none⟩ = some (.int .i64 x.d) := fun z => (HD.out z.val (hb14.trans (z.ok.mono hb14.size))).2.2.2.2.2.1
  have y4 : ∀ z : Calm w4, z.val.cell? ⟨b, off + p * 6 + 4, none⟩ = some (.int .i64 y.d) := fun z => (HCE.out z.val (HB.out.trans ((hb14.trans (z.ok.mono hb14.size)).mono (Nat.le_of_lt hgs)))).c4
  refine wp_region_calm (by kernel_rfl) (by kernel_rfl) ?_
  repeat (go_big_quiet_step (fail))
  refine wpQuiet_nil ?_
  rintro _ ⟨z, rfl⟩
  obtain ⟨w5, hw5⟩ : ∃ w5, w5 = z.val := ⟨_, rfl⟩
  have hb15 : Below w1.heap.size w1 w5 := by rw [hw5]; exact hb14.trans (z.ok.mono hb14.size)
  rw [← hw5]
  clear hw5 z p2 q4 y4
  go_upto_region 11 with fail
  go_wp2_with (first
    | (refine wpList_store_box rfl 24 _ _ rfl (g + 2) 0 (dagC 0 0 noAd) (dagC 0 0 noAd) (dagC 0 0 noAd) rfl rfl (HX2.out.below hb15 HX2.out.1) (show 0 + 3 ≤ 3 by decide) rfl size_dag rfl ?_))
  intro w9 by9 T9
  have t9 := T9 (fun k => k = g + 2) rfl
  obtain ⟨r0, r1, r2⟩ := dag_cells by9
  have hb9 : Below g w w9 := (HB.out.trans (hb15.mono (Nat.le_of_lt hgs))).trans (t9.below (fun k hk => by have e : k = g + 2 := hk; omega) (by have := hb15.size; omega))
  go_wp2_with fail
  refine bodyPost_ret (v := .tuple #[dagV 0 0 noAd, .int .i64 5]) (by simp [results, Try.results15, go_sem, r0, r1, r2, dagV, noAd]) rfl ⟨rfl, ?_⟩
  rw [HG.out]
  exact hb9

set_option maxRecDepth 100000 in
set_option maxHeartbeats 8000000 in
theorem add_dig (N L : Int) (o : Ad) (l : List CrtD) (x : CrtD) (a : CrtA) (w : World) (h : GIn w o l) (hm : MayG N L l) (hi : CIn w x a) (hf : CrtFit x) (hz : chkC N L x = 0) (hh : hasAt l x.r x.a = false) (hdg : hasDg l x.d = true) :
    Calls Try.prog 15 #[dagV N L o, crtV x a] w (AddErr 5 w) := by
  obtain ⟨g, hg⟩ : ∃ g, g = w.heap.size := ⟨_, rfl⟩
  obtain ⟨w1, hw1⟩ : ∃ w1, w1 = (((w.alloc (.cells (dagC N L o).toArray 24)).alloc (.cells (crtC x a).toArray 37)).alloc (.cells (dagC 0 0 noAd).toArray 24)) := ⟨_, rfl⟩
  obtain ⟨hb1, hsz, hx0, hx1, hx2⟩ := boxes3 w _ _ _ _ _ _ hw1
  rw [← hg] at hb1 hsz hx0 hx1 hx2
  have HG : Hid (w.heap.size = g) := hg.symm
  have HW : Hid ((((w.alloc (.cells #[.int .i64 N, .int .i64 L, .slice o.A o.n o.c] 24)).alloc (.cells #[.int .i64 x.a, .int .i64 x.r, .slice a.B.A a.B.n a.B.c, .slice a.P.A a.P.n a.P.c, .int .i64 x.d, .slice a.S.A a.S.n a.S.c] 37)).alloc (.cells #[.int .i64 0, .int .i64 0, .slice none 0 0] 24)) = w1) := hw1.symm
  have HIN : Hid (∀ wX, Below g w wX → GIn wX o l) := fun wX hb => h.below (by rw [← hg]; exact hb)
  have HB := Lib.hid hb1
  have HSZ := Lib.hid hsz
  have HX0 := Lib.hid hx0
  have HX1 := Lib.hid hx1
  have HX2 := Lib.hid hx2
  have HD : Hid (∀ wX, Below w1.heap.size w1 wX → (wX.cell? ⟨g, 0, none⟩ = some (.int .i64 N) ∧ wX.cell? ⟨g, 1, none⟩ = some (.int .i64 L) ∧ wX.cell? ⟨g, 2, none⟩ = some (.slice o.A o.n o.c)) ∧ (wX.cell? ⟨g + 1, 0, none⟩ = some (.int .i64 x.a) ∧ wX.cell? ⟨g + 1, 1, none⟩ = some (.int .i64 x.r) ∧ wX.cell? ⟨g + 1, 2, none⟩ = some (.slice a.B.A a.B.n a.B.c) ∧ wX.cell? ⟨g + 1, 3, none⟩ = some (.slice a.P.A a.P.n a.P.c) ∧ wX.cell? ⟨g + 1, 4, none⟩ = some (.int .i64 x.d) ∧ wX.cell? ⟨g + 1, 5, none⟩ = some (.slice a.S.A a.S.n a.S.c))) := fun wX hb => ⟨dag_cells (HX0.out.below hb HX0.out.1), crt_cells (HX1.out.below hb HX1.out.1)⟩
  have HC := Lib.hid (check_ok (HIN.out _ hb1) hm)
  have HCI : Hid (∀ wX, Below g w wX → CIn wX x a) := fun wX hb => hi.below (by rw [HG.out]; exact hb)
  have HK : Hid (∀ w2, Below g w w2 → Calls Try.prog 50 #[dagV N L o, crtV x a] w2 fun e w' => e = .returned (.int .i64 (0)) ∧ Below w2.heap.size w2 w') := fun w2 hb2 => by
    have := checkCert_is N L o x a w2 (HCI.out _ hb2) hf
    rwa [hz] at this
  have hpl := (CrtD.pl_of (chk_ok hz).1).1
  have HPL := Lib.hid hpl
  have HFP : Hid (∀ wX, Below g w wX → Calls Try.prog 51 #[dagV N L o, .complex .f64 (Pl.Fl.F x.r) (Pl.Fl.F x.a)] wX fun e w' => e = .returned (.tuple #[.int .i64 (posC l x.r x.a), .bool (hasAt l x.r x.a)]) ∧ Below wX.heap.size wX w') := fun wX hb => by
    obtain ⟨ms, h1, h2⟩ := HIN.out wX hb
    exact findPlaceC_is N L o ms l x wX h1 h2 hm.asc (fun y hy => (CrtD.pl_of (hm.of_mem hy).1).1) hpl
  have hpn : posC l x.r x.a ≤ o.n := by rw [← h.len]; exact cutF_le l
  rw [hh] at HFP
  have HDG : Hid (∀ wX, Below g w wX → Calls Try.prog 53 #[.slice o.A o.n o.c, .int .i64 x.d] wX fun e w' => e = .returned (.bool true) ∧ Below wX.heap.size wX w') := fun wX hb => by
    have := hasDigest_is x.d o l wX (HIN.out wX hb)
    rwa [hdg] at this
  obtain ⟨p, hpp⟩ : ∃ p, p = posC l x.r x.a := ⟨_, rfl⟩
  rw [← hpp] at HFP hpn
  have HPP := Lib.hid hpp
  clear hg hw1 hb1 hsz hx1 hx2 h hm hi hf hz hpp hpl hh hdg
  unfold dagV at HC
  unfold dagV crtV at HK ⊢
  unfold dagV at HFP
  have hgs := HX0.out.1
  have hz1 := HSZ.out
  obtain ⟨d10, d11, d12⟩ := dag_cells hx0
  go_enter Try.func15, Try.ntmps15
  go_upto_region 1 with fail
  rw [HG.out, HW.out]
  go_upto_region 4 with (go_at_call 21; refine HC.out.mono ?_; rintro e w2 ⟨rfl, hb12⟩)
  obtain ⟨⟨d20, d21, d22⟩, c20, c21, c22, c23, c24, c25⟩ := HD.out w2 hb12
  have hbb2 := HB.out.trans (hb12.mono (Nat.le_of_lt hgs))
  clear d10 d11 d12
  go_upto_region 7 with (go_at_call 50; refine (HK.out _ hbb2).mono ?_; rintro e w3 ⟨rfl, hb3⟩)
  have hb13 := hb12.trans (hb3.mono hb12.size)
  clear d20 d21 d22 c20 c21 c22 c23 c24 c25
  clear hb3
  have q0 : ∀ z : Calm w3, z.val.cell? ⟨g + 1, 0, none⟩ = some (.int .i64 x.a) := fun z => (HD.out z.val (hb13.trans (z.ok.mono hb13.size))).2.1
  have q1 : ∀ z : Calm w3, z.val.cell? ⟨g + 1, 1, none⟩ = some (.int .i64 x.r) := fun z => (HD.out z.val (hb13.trans (z.ok.mono hb13.size))).2.2.1
  have q2 : ∀ z : Calm w3, z.val.cell? ⟨g + 1, 2, none⟩ = some (.slice a.B.A a.B.n a.B.c) := fun z => (HD.out z.val (hb13.trans (z.ok.mono hb13.size))).2.2.2.1
  have q3 : ∀ z : Calm w3, z.val.cell? ⟨g + 1, 3, none⟩ = some (.slice a.P.A a.P.n a.P.c) := fun z => (HD.out z.val (hb13.trans (z.ok.mono hb13.size))).2.2.2.2.1
  have q4 : ∀ z : Calm w3, z.val.cell? ⟨g + 1, 4, none⟩ = some (.int .i64 x.d) := fun z => (HD.out z.val (hb13.trans (z.ok.mono hb13.size))).2.2.2.2.2.1
  have q5 : ∀ z : Calm w3, z.val.cell? ⟨g + 1, 5, none⟩ = some (.slice a.S.A a.S.n a.S.c) := fun z => (HD.out z.val (hb13.trans (z.ok.mono hb13.size))).2.2.2.2.2.2
  have p0 : ∀ z : Calm w3, z.val.cell? ⟨g, 0, none⟩ = some (.int .i64 N) := fun z => (HD.out z.val (hb13.trans (z.ok.mono hb13.size))).1.1
  have p1 : ∀ z : Calm w3, z.val.cell? ⟨g, 1, none⟩ = some (.int .i64 L) := fun z => (HD.out z.val (hb13.trans (z.ok.mono hb13.size))).1.2.1
  have p2 : ∀ z : Calm w3, z.val.cell? ⟨g, 2, none⟩ = some (.slice o.A o.n o.c) := fun z => (HD.out z.val (hb13.trans (z.ok.mono hb13.size))).1.2.2
  refine wp_region_calm (by kernel_rfl) (by kernel_rfl) ?_
  repeat (go_big_quiet_step (first
    | (go_at_call 52; exact calm_tells (placeOf_is x a HPL.out _))
    | (go_at_call 51; exact calm_tells (HFP.out _ (HB.out.trans ((hb13.trans ((Calm.ok _).mono hb13.size)).mono (Nat.le_of_lt hgs)))))))
  refine wpQuiet_nil ?_
  rintro _ ⟨z, rfl⟩
  obtain ⟨w4, hw4⟩ : ∃ w4, w4 = z.val := ⟨_, rfl⟩
  have hb14 : Below w1.heap.size w1 w4 := by rw [hw4]; exact hb13.trans (z.ok.mono hb13.size)
  rw [← hw4]
  clear hw4 z q0 q1 q2 q3 q4 q5 p0 p1 p2
  go_upto_region 8 with fail
  have p2 : ∀ z : Calm w4, z.val.cell? ⟨g, 2, none⟩ = some (.slice o.A o.n o.c) := fun z => (HD.out z.val (hb14.trans (z.ok.mono hb14.size))).1.2.2
  have q4 : ∀ z : Calm w4, z.val.cell? ⟨g + 1, 4, none⟩ = some (.int .i64 x.d) := fun z => (HD.out z.val (hb14.trans (z.ok.mono hb14.size))).2.2.2.2.2.1
  refine wp_region_calm (by kernel_rfl) (by kernel_rfl) ?_
  repeat (go_big_quiet_step (fail))
  refine wpQuiet_nil ?_
  rintro _ ⟨z, rfl⟩
  obtain ⟨w5, hw5⟩ : ∃ w5, w5 = z.val := ⟨_, rfl⟩
  have hb15 : Below w1.heap.size w1 w5 := by rw [hw5]; exact hb14.trans (z.ok.mono hb14.size)
  rw [← hw5]
  clear hw5 z p2 q4
  obtain ⟨⟨d50, d51, d52⟩, c50, c51, c52, c53, c54, c55⟩ := HD.out w5 hb15
  have hbb5 := HB.out.trans (hb15.mono (Nat.le_of_lt hgs))
  go_upto_region 11 with (go_at_call 53; refine (HDG.out _ hbb5).mono ?_; rintro e w6 ⟨rfl, hb6⟩)
  have hb16 := hb15.trans (hb6.mono hb15.size)
  go_wp2_with (first
    | (refine wpList_store_box rfl 24 _ _ rfl (g + 2) 0 (dagC 0 0 noAd) (dagC 0 0 noAd) (dagC 0 0 noAd) rfl rfl (HX2.out.below hb16 HX2.out.1) (show 0 + 3 ≤ 3 by decide) rfl size_dag rfl ?_))
  intro w9 by9 T9
  have t9 := T9 (fun k => k = g + 2) rfl
  obtain ⟨r0, r1, r2⟩ := dag_cells by9
  have hb9 : Below g w w9 := (HB.out.trans (hb16.mono (Nat.le_of_lt hgs))).trans (t9.below (fun k hk => by have e : k = g + 2 := hk; omega) (by have := hb16.size; omega))
  go_wp2_with fail
  refine bodyPost_ret (v := .tuple #[dagV 0 0 noAd, .int .i64 5]) (by simp [results, Try.results15, go_sem, r0, r1, r2, dagV, noAd]) rfl ⟨rfl, ?_⟩
  rw [HG.out]
  exact hb9

set_option maxRecDepth 100000 in
set_option maxHeartbeats 8000000 in
theorem add_lack (N L : Int) (o : Ad) (l : List CrtD) (x : CrtD) (a : CrtA) (w : World) (h : GIn w o l) (hm : MayG N L l) (hi : CIn w x a) (hf : CrtFit x) (hz : chkC N L x = 0) (hh : hasAt l x.r x.a = false) (hdg : hasDg l x.d = false) (hlk : lacksC L l x ≠ []) :
    Calls Try.prog 15 #[dagV N L o, crtV x a] w (AddErr 7 w) := by
  obtain ⟨g, hg⟩ : ∃ g, g = w.heap.size := ⟨_, rfl⟩
  obtain ⟨w1, hw1⟩ : ∃ w1, w1 = (((w.alloc (.cells (dagC N L o).toArray 24)).alloc (.cells (crtC x a).toArray 37)).alloc (.cells (dagC 0 0 noAd).toArray 24)) := ⟨_, rfl⟩
  obtain ⟨hb1, hsz, hx0, hx1, hx2⟩ := boxes3 w _ _ _ _ _ _ hw1
  rw [← hg] at hb1 hsz hx0 hx1 hx2
  have HG : Hid (w.heap.size = g) := hg.symm
  have HW : Hid ((((w.alloc (.cells #[.int .i64 N, .int .i64 L, .slice o.A o.n o.c] 24)).alloc (.cells #[.int .i64 x.a, .int .i64 x.r, .slice a.B.A a.B.n a.B.c, .slice a.P.A a.P.n a.P.c, .int .i64 x.d, .slice a.S.A a.S.n a.S.c] 37)).alloc (.cells #[.int .i64 0, .int .i64 0, .slice none 0 0] 24)) = w1) := hw1.symm
  have HIN : Hid (∀ wX, Below g w wX → GIn wX o l) := fun wX hb => h.below (by rw [← hg]; exact hb)
  have HB := Lib.hid hb1
  have HSZ := Lib.hid hsz
  have HX0 := Lib.hid hx0
  have HX1 := Lib.hid hx1
  have HX2 := Lib.hid hx2
  have HD : Hid (∀ wX, Below w1.heap.size w1 wX → (wX.cell? ⟨g, 0, none⟩ = some (.int .i64 N) ∧ wX.cell? ⟨g, 1, none⟩ = some (.int .i64 L) ∧ wX.cell? ⟨g, 2, none⟩ = some (.slice o.A o.n o.c)) ∧ (wX.cell? ⟨g + 1, 0, none⟩ = some (.int .i64 x.a) ∧ wX.cell? ⟨g + 1, 1, none⟩ = some (.int .i64 x.r) ∧ wX.cell? ⟨g + 1, 2, none⟩ = some (.slice a.B.A a.B.n a.B.c) ∧ wX.cell? ⟨g + 1, 3, none⟩ = some (.slice a.P.A a.P.n a.P.c) ∧ wX.cell? ⟨g + 1, 4, none⟩ = some (.int .i64 x.d) ∧ wX.cell? ⟨g + 1, 5, none⟩ = some (.slice a.S.A a.S.n a.S.c))) := fun wX hb => ⟨dag_cells (HX0.out.below hb HX0.out.1), crt_cells (HX1.out.below hb HX1.out.1)⟩
  have HC := Lib.hid (check_ok (HIN.out _ hb1) hm)
  have HCI : Hid (∀ wX, Below g w wX → CIn wX x a) := fun wX hb => hi.below (by rw [HG.out]; exact hb)
  have HK : Hid (∀ w2, Below g w w2 → Calls Try.prog 50 #[dagV N L o, crtV x a] w2 fun e w' => e = .returned (.int .i64 (0)) ∧ Below w2.heap.size w2 w') := fun w2 hb2 => by
    have := checkCert_is N L o x a w2 (HCI.out _ hb2) hf
    rwa [hz] at this
  have hpl := (CrtD.pl_of (chk_ok hz).1).1
  have HPL := Lib.hid hpl
  have HFP : Hid (∀ wX, Below g w wX → Calls Try.prog 51 #[dagV N L o, .complex .f64 (Pl.Fl.F x.r) (Pl.Fl.F x.a)] wX fun e w' => e = .returned (.tuple #[.int .i64 (posC l x.r x.a), .bool (hasAt l x.r x.a)]) ∧ Below wX.heap.size wX w') := fun wX hb => by
    obtain ⟨ms, h1, h2⟩ := HIN.out wX hb
    exact findPlaceC_is N L o ms l x wX h1 h2 hm.asc (fun y hy => (CrtD.pl_of (hm.of_mem hy).1).1) hpl
  have hpn : posC l x.r x.a ≤ o.n := by rw [← h.len]; exact cutF_le l
  rw [hh] at HFP
  have HDG : Hid (∀ wX, Below g w wX → Calls Try.prog 53 #[.slice o.A o.n o.c, .int .i64 x.d] wX fun e w' => e = .returned (.bool false) ∧ Below wX.heap.size wX w') := fun wX hb => by
    have := hasDigest_is x.d o l wX (HIN.out wX hb)
    rwa [hdg] at this
  have HM : Hid (∀ w2, Below g w w2 → _) := fun w2 hb2 => missing_is N L o l x a w2 (HIN.out _ hb2) hm.asc (HCI.out _ hb2) hf ⟨hm.l0, hm.l1⟩ hpl.1
  unfold dagV crtV at HM
  have hpos : ∀ n3, (lacksC L l x).length = n3 → (0 : Int) < (n3 : Int) := fun n3 e => by
    have := List.length_pos_iff.2 hlk
    omega
  have HPOS := Lib.hid hpos
  obtain ⟨p, hpp⟩ : ∃ p, p = posC l x.r x.a := ⟨_, rfl⟩
  rw [← hpp] at HFP hpn
  have HPP := Lib.hid hpp
  clear hg hw1 hb1 hsz hx1 hx2 h hm hi hf hz hpp hpl hh hdg hlk hpos
  unfold dagV at HC
  unfold dagV crtV at HK ⊢
  unfold dagV at HFP
  have hgs := HX0.out.1
  have hz1 := HSZ.out
  obtain ⟨d10, d11, d12⟩ := dag_cells hx0
  go_enter Try.func15, Try.ntmps15
  go_upto_region 1 with fail
  rw [HG.out, HW.out]
  go_upto_region 4 with (go_at_call 21; refine HC.out.mono ?_; rintro e w2 ⟨rfl, hb12⟩)
  obtain ⟨⟨d20, d21, d22⟩, c20, c21, c22, c23, c24, c25⟩ := HD.out w2 hb12
  have hbb2 := HB.out.trans (hb12.mono (Nat.le_of_lt hgs))
  clear d10 d11 d12
  go_upto_region 7 with (go_at_call 50; refine (HK.out _ hbb2).mono ?_; rintro e w3 ⟨rfl, hb3⟩)
  have hb13 := hb12.trans (hb3.mono hb12.size)
  clear d20 d21 d22 c20 c21 c22 c23 c24 c25
  clear hb3
  have q0 : ∀ z : Calm w3, z.val.cell? ⟨g + 1, 0, none⟩ = some (.int .i64 x.a) := fun z => (HD.out z.val (hb13.trans (z.ok.mono hb13.size))).2.1
  have q1 : ∀ z : Calm w3, z.val.cell? ⟨g + 1, 1, none⟩ = some (.int .i64 x.r) := fun z => (HD.out z.val (hb13.trans (z.ok.mono hb13.size))).2.2.1
  have q2 : ∀ z : Calm w3, z.val.cell? ⟨g + 1, 2, none⟩ = some (.slice a.B.A a.B.n a.B.c) := fun z => (HD.out z.val (hb13.trans (z.ok.mono hb13.size))).2.2.2.1
  have q3 : ∀ z : Calm w3, z.val.cell? ⟨g + 1, 3, none⟩ = some (.slice a.P.A a.P.n a.P.c) := fun z => (HD.out z.val (hb13.trans (z.ok.mono hb13.size))).2.2.2.2.1
  have q4 : ∀ z : Calm w3, z.val.cell? ⟨g + 1, 4, none⟩ = some (.int .i64 x.d) := fun z => (HD.out z.val (hb13.trans (z.ok.mono hb13.size))).2.2.2.2.2.1
  have q5 : ∀ z : Calm w3, z.val.cell? ⟨g + 1, 5, none⟩ = some (.slice a.S.A a.S.n a.S.c) := fun z => (HD.out z.val (hb13.trans (z.ok.mono hb13.size))).2.2.2.2.2.2
  have p0 : ∀ z : Calm w3, z.val.cell? ⟨g, 0, none⟩ = some (.int .i64 N) := fun z => (HD.out z.val (hb13.trans (z.ok.mono hb13.size))).1.1
  have p1 : ∀ z : Calm w3, z.val.cell? ⟨g, 1, none⟩ = some (.int .i64 L) := fun z => (HD.out z.val (hb13.trans (z.ok.mono hb13.size))).1.2.1
  have p2 : ∀ z : Calm w3, z.val.cell? ⟨g, 2, none⟩ = some (.slice o.A o.n o.c) := fun z => (HD.out z.val (hb13.trans (z.ok.mono hb13.size))).1.2.2
  refine wp_region_calm (by kernel_rfl) (by kernel_rfl) ?_
  repeat (go_big_quiet_step (first
    | (go_at_call 52; exact calm_tells (placeOf_is x a HPL.out _))
    | (go_at_call 51; exact calm_tells (HFP.out _ (HB.out.trans ((hb13.trans ((Calm.ok _).mono hb13.size)).mono (Nat.le_of_lt hgs)))))))
  refine wpQuiet_nil ?_
  rintro _ ⟨z, rfl⟩
  obtain ⟨w4, hw4⟩ : ∃ w4, w4 = z.val := ⟨_, rfl⟩
  have hb14 : Below w1.heap.size w1 w4 := by rw [hw4]; exact hb13.trans (z.ok.mono hb13.size)
  rw [← hw4]
  clear hw4 z q0 q1 q2 q3 q4 q5 p0 p1 p2
  go_upto_region 8 with fail
  have p2 : ∀ z : Calm w4, z.val.cell? ⟨g, 2, none⟩ = some (.slice o.A o.n o.c) := fun z => (HD.out z.val (hb14.trans (z.ok.mono hb14.size))).1.2.2
  have q4 : ∀ z : Calm w4, z.val.cell? ⟨g + 1, 4, none⟩ = some (.int .i64 x.d) := fun z => (HD.out z.val (hb14.trans (z.ok.mono hb14.size))).2.2.2.2.2.1
  refine wp_region_calm (by kernel_rfl) (by kernel_rfl) ?_
  repeat (go_big_quiet_step (fail))
  refine wpQuiet_nil ?_
  rintro _ ⟨z, rfl⟩
  obtain ⟨w5, hw5⟩ : ∃ w5, w5 = z.val := ⟨_, rfl⟩
  have hb15 : Below w1.heap.size w1 w5 := by rw [hw5]; exact hb14.trans (z.ok.mono hb14.size)
  rw [← hw5]
  clear hw5 z p2 q4
  obtain ⟨⟨d50, d51, d52⟩, c50, c51, c52, c53, c54, c55⟩ := HD.out w5 hb15
  have hbb5 := HB.out.trans (hb15.mono (Nat.le_of_lt hgs))
  go_upto_region 12 with (go_at_call 53; refine (HDG.out _ hbb5).mono ?_; rintro e w6 ⟨rfl, hb6⟩)
  have hb16 := hb15.trans (hb6.mono hb15.size)
  clear d50 d51 d52 c50 c51 c52 c53 c54 c55
  obtain ⟨⟨d60, d61, d62⟩, c60, c61, c62, c63, c64, c65⟩ := HD.out w6 hb16
  have hbb6 := HB.out.trans (hb16.mono (Nat.le_of_lt hgs))
  go_upto_region 13 with (go_at_call 54; refine (HM.out _ hbb6).mono ?_; rintro e w7 ⟨⟨A7, n7, q7⟩, rfl, ho7, hl7, hb7⟩; have hp7 := HPOS.out _ hl7; dsimp only at hp7)
  have hb17 := hb16.trans (hb7.mono hb16.size)
  go_wp2_with (first
    | (refine wpList_store_box rfl 24 _ _ rfl (g + 2) 0 (dagC 0 0 noAd) (dagC 0 0 noAd) (dagC 0 0 noAd) rfl rfl (HX2.out.below hb17 HX2.out.1) (show 0 + 3 ≤ 3 by decide) rfl size_dag rfl ?_))
  intro w9 by9 T9
  have t9 := T9 (fun k => k = g + 2) rfl
  obtain ⟨r0, r1, r2⟩ := dag_cells by9
  have hb9 : Below g w w9 := (HB.out.trans (hb17.mono (Nat.le_of_lt hgs))).trans (t9.below (fun k hk => by have e : k = g + 2 := hk; omega) (by have := hb17.size; omega))
  go_wp2_with fail
  refine bodyPost_ret (v := .tuple #[dagV 0 0 noAd, .int .i64 7]) (by simp [results, Try.results15, go_sem, r0, r1, r2, dagV, noAd]) rfl ⟨rfl, ?_⟩
  rw [HG.out]
  exact hb9

end Go.Proofs.Ytejkeccoialogaa
