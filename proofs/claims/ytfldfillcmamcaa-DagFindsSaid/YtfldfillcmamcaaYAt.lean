/-
  Package dag's At: refused; no place; none there; the one there.
-/
import Derived.Test.YtfldfillcmamcaaYPar
import Derived.Test.YtfldfillcmamcaaYFindE
namespace Go.Proofs.Ytfldfillcmamcaa
open Go.RowKit Pl.Fl

theorem idxA_has {l : List CrtD} (h : AscC l) {R A : Int} : (hasAt l R A = false ∧ idxF (neA R A) l < 0) ∨ (∃ x, l[posC l R A]? = some x ∧ x.r = R ∧ x.a = A ∧ idxF (neA R A) l = (posC l R A : Int)) := by
  by_cases hy : ∃ y ∈ l, y.r = R ∧ y.a = A
  · obtain ⟨y, hm, he⟩ := hy
    have hp := at_posC h hm he
    refine .inr ⟨y, hp, he.1, he.2, idxF_at hp (by simp [neA, he]) fun k z hk hz => ?_⟩
    by_cases hc : z.r = R ∧ z.a = A
    · have h2 := at_posC h (List.mem_of_getElem? hz) hc
      have := aheadB_iff.1 (h k _ z y hk hz hp)
      omega
    · simp [neA, hc]
  · have hn : ∀ y ∈ l, ¬ (y.r = R ∧ y.a = A) := fun y hm he => hy ⟨y, hm, he⟩
    refine .inl ⟨?_, ?_⟩
    · cases hc : l[posC l R A]? with
      | none => exact hasAt_none hc
      | some y => rw [hasAt_some hc]; exact decide_eq_false (hn y (List.mem_of_getElem? hc))
    · have hz : idxF (neA R A) l = -1 := idxF_none fun k y hk => decide_eq_true (hn y (List.mem_of_getElem? hk))
      rw [hz]
      decide
set_option maxRecDepth 100000 in
set_option maxHeartbeats 8000000 in
theorem at_bad (N L : Int) (u v : Nat) (o : Ad) (l : List CrtD) (w : World) (h : GIn w o l) (hm : ¬ MayG N L l) :
    Calls Try.prog 31 #[dagV N L o, .complex .f64 u v] w (FindErr 1 w) := by
  obtain ⟨g, hg⟩ : ∃ g, g = w.heap.size := ⟨_, rfl⟩
  obtain ⟨w1, hw1⟩ : ∃ w1, w1 = ((w.alloc (.cells (dagC N L o).toArray 24)).alloc (.cells (crtC zeroC6 zeroCA).toArray 45)) := ⟨_, rfl⟩
  obtain ⟨hb1, hsz, hx0, hx1⟩ := boxes2 w _ _ _ _ hw1
  rw [← hg] at hb1 hsz hx0 hx1
  have HG : Hid (w.heap.size = g) := hg.symm
  have HW : Hid (((w.alloc (.cells #[.int .i64 N, .int .i64 L, .slice o.A o.n o.c] 24)).alloc (.cells #[.int .i64 0, .int .i64 0, .slice none 0 0, .slice none 0 0, .int .i64 0, .slice none 0 0] 45)) = w1) := hw1.symm
  have HIN : Hid (∀ wX, Below g w wX → GIn wX o l) := fun wX hb => h.below (by rw [← hg]; exact hb)
  have HB := Lib.hid hb1
  have HX1 := Lib.hid hx1
  have HC := Lib.hid (check_bad (HIN.out _ hb1) hm)
  have hgs := hx0.1
  obtain ⟨d10, d11, d12⟩ := dag_cells hx0
  clear hg hw1 hb1 hsz hx0 hx1 h hm
  unfold dagV at HC ⊢
  go_enter Try.func31, Try.ntmps31
  go_upto_region 1 with fail
  rw [HG.out, HW.out]
  go_upto_region 3 with (go_at_call 16; refine HC.out.mono ?_; rintro e w2 ⟨rfl, hb2⟩)
  go_wp2_with (first
    | (refine wpList_store_box rfl 45 _ _ rfl (g + 1) 0 (crtC zeroC6 zeroCA) (crtC zeroC6 zeroCA) (crtC zeroC6 zeroCA) rfl rfl (HX1.out.below hb2 HX1.out.1) (show 0 + 6 ≤ 6 by decide) rfl size_crt rfl ?_))
  intro w9 by9 T9
  have t9 := T9 (fun k => k = g + 1) rfl
  obtain ⟨r0, r1, r2, r3, r4, r5⟩ := crt_cells by9
  have hb9 : Below g w w9 := (HB.out.trans (hb2.mono (Nat.le_of_lt hgs))).trans (t9.below (fun k hk => by have e : k = g + 1 := hk; omega) (by have := hb2.size; omega))
  go_wp2_with fail
  refine bodyPost_ret (v := .tuple #[crtV zeroC6 zeroCA, .int .i64 1]) (by simp [results, Try.results31, go_sem, r0, r1, r2, r3, r4, r5, crtV]) rfl ⟨rfl, ?_⟩
  rw [HG.out]; exact hb9

set_option maxRecDepth 100000 in
set_option maxHeartbeats 8000000 in
theorem at_form (N L : Int) (u v : Nat) (o : Ad) (l : List CrtD) (w : World) (h : GIn w o l) (hm : MayG N L l) (h' : Pl.isP u v = false) :
    Calls Try.prog 31 #[dagV N L o, .complex .f64 u v] w (FindErr 1 w) := by
  obtain ⟨g, hg⟩ : ∃ g, g = w.heap.size := ⟨_, rfl⟩
  obtain ⟨w1, hw1⟩ : ∃ w1, w1 = ((w.alloc (.cells (dagC N L o).toArray 24)).alloc (.cells (crtC zeroC6 zeroCA).toArray 45)) := ⟨_, rfl⟩
  obtain ⟨hb1, hsz, hx0, hx1⟩ := boxes2 w _ _ _ _ hw1
  rw [← hg] at hb1 hsz hx0 hx1
  have HG : Hid (w.heap.size = g) := hg.symm
  have HW : Hid (((w.alloc (.cells #[.int .i64 N, .int .i64 L, .slice o.A o.n o.c] 24)).alloc (.cells #[.int .i64 0, .int .i64 0, .slice none 0 0, .slice none 0 0, .int .i64 0, .slice none 0 0] 45)) = w1) := hw1.symm
  have HIN : Hid (∀ wX, Below g w wX → GIn wX o l) := fun wX hb => h.below (by rw [← hg]; exact hb)
  have HB := Lib.hid hb1
  have HX0 := Lib.hid hx0
  have HX1 := Lib.hid hx1
  have HC := Lib.hid (check_ok (HIN.out _ hb1) hm)
  have HD : Hid (∀ wX, Below w1.heap.size w1 wX → wX.cell? ⟨g, 0, none⟩ = some (.int .i64 N) ∧ wX.cell? ⟨g, 1, none⟩ = some (.int .i64 L) ∧ wX.cell? ⟨g, 2, none⟩ = some (.slice o.A o.n o.c)) := fun wX hb => dag_cells (HX0.out.below hb HX0.out.1)
  have hgs := hx0.1
  obtain ⟨d10, d11, d12⟩ := dag_cells hx0
  have HP := Lib.hid h'
  clear hg hw1 hb1 hsz hx0 hx1 h hm h'
  unfold dagV at HC ⊢
  go_enter Try.func31, Try.ntmps31
  go_upto_region 1 with fail
  rw [HG.out, HW.out]
  go_upto_region 6 with (first
    | (go_at_call 16; refine HC.out.mono ?_; rintro e w2 ⟨rfl, hb2⟩)
    | (go_at_call 72; refine (Pl.parts_no u v HP.out _).mono ?_; rintro e w3 ⟨rfl, rfl⟩))
  have hb13 := hb2
  have hbb3 := HB.out.trans (hb2.mono (Nat.le_of_lt hgs))
  go_wp2_with (first
    | (refine wpList_store_box rfl 45 _ _ rfl (g + 1) 0 (crtC zeroC6 zeroCA) (crtC zeroC6 zeroCA) (crtC zeroC6 zeroCA) rfl rfl (HX1.out.below hb13 HX1.out.1) (show 0 + 6 ≤ 6 by decide) rfl size_crt rfl ?_))
  intro w9 by9 T9
  have t9 := T9 (fun k => k = g + 1) rfl
  obtain ⟨r0, r1, r2, r3, r4, r5⟩ := crt_cells by9
  have hb9 : Below g w w9 := hbb3.trans (t9.below (fun k hk => by have e : k = g + 1 := hk; omega) (by have := hb13.size; omega))
  go_wp2_with fail
  refine bodyPost_ret (v := .tuple #[crtV zeroC6 zeroCA, .int .i64 1]) (by simp [results, Try.results31, go_sem, r0, r1, r2, r3, r4, r5, crtV]) rfl ⟨rfl, ?_⟩
  rw [HG.out]; exact hb9

set_option maxRecDepth 100000 in
set_option maxHeartbeats 8000000 in
theorem at_none (N L : Int) (u v : Nat) (o : Ad) (l : List CrtD) (w : World) (h : GIn w o l) (hm : MayG N L l) (h' : Pl.isP u v = true) (hx : hasAt l (fint u) (fint v) = false) :
    Calls Try.prog 31 #[dagV N L o, .complex .f64 u v] w (FindErr 3 w) := by
  obtain ⟨g, hg⟩ : ∃ g, g = w.heap.size := ⟨_, rfl⟩
  obtain ⟨w1, hw1⟩ : ∃ w1, w1 = ((w.alloc (.cells (dagC N L o).toArray 24)).alloc (.cells (crtC zeroC6 zeroCA).toArray 45)) := ⟨_, rfl⟩
  obtain ⟨hb1, hsz, hx0, hx1⟩ := boxes2 w _ _ _ _ hw1
  rw [← hg] at hb1 hsz hx0 hx1
  have HG : Hid (w.heap.size = g) := hg.symm
  have HW : Hid (((w.alloc (.cells #[.int .i64 N, .int .i64 L, .slice o.A o.n o.c] 24)).alloc (.cells #[.int .i64 0, .int .i64 0, .slice none 0 0, .slice none 0 0, .int .i64 0, .slice none 0 0] 45)) = w1) := hw1.symm
  have HIN : Hid (∀ wX, Below g w wX → GIn wX o l) := fun wX hb => h.below (by rw [← hg]; exact hb)
  have HB := Lib.hid hb1
  have HX0 := Lib.hid hx0
  have HX1 := Lib.hid hx1
  have HC := Lib.hid (check_ok (HIN.out _ hb1) hm)
  have HD : Hid (∀ wX, Below w1.heap.size w1 wX → wX.cell? ⟨g, 0, none⟩ = some (.int .i64 N) ∧ wX.cell? ⟨g, 1, none⟩ = some (.int .i64 L) ∧ wX.cell? ⟨g, 2, none⟩ = some (.slice o.A o.n o.c)) := fun wX hb => dag_cells (HX0.out.below hb HX0.out.1)
  obtain ⟨pz, hpz⟩ : ∃ pz, pz = posC l (fint u) (fint v) := ⟨_, rfl⟩
  have HP := Lib.hid h'
  have HF : Hid (∀ wX, Below g w wX → Calls Try.prog 64 #[.agg #[.int .i64 N, .int .i64 L, .slice o.A o.n o.c], .complex .f64 u v] wX fun e w' => e = .returned (.tuple #[.int .i64 (pz : Int), .bool false]) ∧ Below wX.heap.size wX w') := fun wX hb => by
    obtain ⟨ms, h1, h2⟩ := HIN.out wX hb
    have := findPlace_is N L o ms l u v wX h1 h2 hm.asc (fun y hy => (CrtD.pl_of (hm.of_mem hy).1).1) HP.out
    rw [hx, ← hpz] at this
    exact this
  have hgs := hx0.1
  obtain ⟨d10, d11, d12⟩ := dag_cells hx0
  clear hg hw1 hb1 hsz hx0 hx1 h hm hx h' hpz
  unfold dagV at HC ⊢
  go_enter Try.func31, Try.ntmps31
  go_upto_region 1 with fail
  rw [HG.out, HW.out]
  go_upto_region 7 with (first
    | (go_at_call 16; refine HC.out.mono ?_; rintro e w2 ⟨rfl, hb2⟩)
    | (go_at_call 72; refine (Pl.parts_yes u v HP.out _).mono ?_; rintro e w3 ⟨rfl, rfl⟩))
  obtain ⟨d20, d21, d22⟩ := HD.out w2 hb2
  have hbb2 := HB.out.trans (hb2.mono (Nat.le_of_lt hgs))
  clear d10 d11 d12
  go_upto_region 9 with (go_at_call 64; refine (HF.out _ hbb2).mono ?_; rintro e w3 ⟨rfl, hb3⟩)
  have hb13 := hb2.trans (hb3.mono hb2.size)
  have hbb3 := HB.out.trans (hb13.mono (Nat.le_of_lt hgs))
  go_wp2_with (first
    | (refine wpList_store_box rfl 45 _ _ rfl (g + 1) 0 (crtC zeroC6 zeroCA) (crtC zeroC6 zeroCA) (crtC zeroC6 zeroCA) rfl rfl (HX1.out.below hb13 HX1.out.1) (show 0 + 6 ≤ 6 by decide) rfl size_crt rfl ?_))
  intro w9 by9 T9
  have t9 := T9 (fun k => k = g + 1) rfl
  obtain ⟨r0, r1, r2, r3, r4, r5⟩ := crt_cells by9
  have hb9 : Below g w w9 := hbb3.trans (t9.below (fun k hk => by have e : k = g + 1 := hk; omega) (by have := hb13.size; omega))
  go_wp2_with fail
  refine bodyPost_ret (v := .tuple #[crtV zeroC6 zeroCA, .int .i64 3]) (by simp [results, Try.results31, go_sem, r0, r1, r2, r3, r4, r5, crtV]) rfl ⟨rfl, ?_⟩
  rw [HG.out]; exact hb9

set_option maxRecDepth 100000 in
set_option maxHeartbeats 8000000 in
theorem at_ok (N L : Int) (u v : Nat) (o : Ad) (l : List CrtD) (x : CrtD) (w : World) (h : GIn w o l) (hm : MayG N L l) (h' : Pl.isP u v = true) (hx : l[posC l (fint u) (fint v)]? = some x) (he : x.r = fint u ∧ x.a = fint v) :
    Calls Try.prog 31 #[dagV N L o, .complex .f64 u v] w (FindOk x w) := by
  obtain ⟨g, hg⟩ : ∃ g, g = w.heap.size := ⟨_, rfl⟩
  obtain ⟨w1, hw1⟩ : ∃ w1, w1 = ((w.alloc (.cells (dagC N L o).toArray 24)).alloc (.cells (crtC zeroC6 zeroCA).toArray 45)) := ⟨_, rfl⟩
  obtain ⟨hb1, hsz, hx0, hx1⟩ := boxes2 w _ _ _ _ hw1
  rw [← hg] at hb1 hsz hx0 hx1
  have HG : Hid (w.heap.size = g) := hg.symm
  have HW : Hid (((w.alloc (.cells #[.int .i64 N, .int .i64 L, .slice o.A o.n o.c] 24)).alloc (.cells #[.int .i64 0, .int .i64 0, .slice none 0 0, .slice none 0 0, .int .i64 0, .slice none 0 0] 45)) = w1) := hw1.symm
  have HIN : Hid (∀ wX, Below g w wX → GIn wX o l) := fun wX hb => h.below (by rw [← hg]; exact hb)
  have HB := Lib.hid hb1
  have HX0 := Lib.hid hx0
  have HX1 := Lib.hid hx1
  have HC := Lib.hid (check_ok (HIN.out _ hb1) hm)
  have HD : Hid (∀ wX, Below w1.heap.size w1 wX → wX.cell? ⟨g, 0, none⟩ = some (.int .i64 N) ∧ wX.cell? ⟨g, 1, none⟩ = some (.int .i64 L) ∧ wX.cell? ⟨g, 2, none⟩ = some (.slice o.A o.n o.c)) := fun wX hb => dag_cells (HX0.out.below hb HX0.out.1)
  have hlen := h.len
  have hfew := h.few
  obtain ⟨k, hk⟩ : ∃ k, k = posC l (fint u) (fint v) := ⟨_, rfl⟩
  have HP := Lib.hid h'
  have HF : Hid (∀ wX, Below g w wX → Calls Try.prog 64 #[.agg #[.int .i64 N, .int .i64 L, .slice o.A o.n o.c], .complex .f64 u v] wX fun e w' => e = .returned (.tuple #[.int .i64 (k : Int), .bool true]) ∧ Below wX.heap.size wX w') := fun wX hb => by
    obtain ⟨ms, h1, h2⟩ := HIN.out wX hb
    have := findPlace_is N L o ms l u v wX h1 h2 hm.asc (fun y hy => (CrtD.pl_of (hm.of_mem hy).1).1) HP.out
    rw [hasAt_some hx, decide_eq_true he, ← hk] at this
    exact this
  rw [← hk] at hx
  have hkl : k < l.length := (List.getElem?_eq_some_iff.1 hx).1
  obtain ⟨b, off, a, hA, hbl, hfit, hce⟩ := h.get hx
  have HCE : Hid (∀ wX, Below g w wX → CrtAt wX b off k x a) := fun wX hb => hce wX (by rw [HG.out]; exact hb)
  have HFIT := Lib.hid hfit
  rw [hlen] at hkl
  have hsz1 := Lib.hid hsz
  clear hg hw1 hb1 hsz hx1 h hm hx hk he h' hlen hce hfit hbl
  have hgs := HX0.out.1
  have hgs1 := HX1.out.1
  obtain ⟨d10, d11, d12⟩ := dag_cells hx0
  obtain ⟨A, n, c⟩ := o
  simp only at hA hkl hfew
  subst hA
  dsimp only at HF HD
  unfold dagV at HC ⊢
  have i0 : (0 : Int) ≤ (k : Int) := by omega
  have i1 : (k : Int) < (n : Int) := by omega
  have i2 : ¬ ((k : Int) < 0) := by omega
  go_enter Try.func31, Try.ntmps31
  go_upto_region 1 with fail
  rw [HG.out, HW.out]
  go_upto_region 7 with (first
    | (go_at_call 16; refine HC.out.mono ?_; rintro e w2 ⟨rfl, hb2⟩)
    | (go_at_call 72; refine (Pl.parts_yes u v HP.out _).mono ?_; rintro e w3 ⟨rfl, rfl⟩))
  obtain ⟨d20, d21, d22⟩ := HD.out w2 hb2
  have hbb2 := HB.out.trans (hb2.mono (Nat.le_of_lt hgs))
  clear d10 d11 d12
  go_upto_region 10 with (go_at_call 64; refine (HF.out _ hbb2).mono ?_; rintro e w3 ⟨rfl, hb3⟩)
  have hb13 := hb2.trans (hb3.mono hb2.size)
  have hbb3 := HB.out.trans (hb13.mono (Nat.le_of_lt hgs))
  obtain ⟨d30, d31, d3⟩ := HD.out w3 hb13
  obtain ⟨k0, k1, k2, k3, k4, k5, hcin⟩ := HCE.out w3 hbb3
  have HCL := Lib.hid (clone_is x a w3 hcin HFIT.out)
  unfold crtV at HCL
  clear d20 d21 d22 hcin
  go_wp2_with (first
    | (go_at_call 68; refine HCL.out.mono ?_; rintro e w4 ⟨a4, rfl, hn4, hb4⟩
       dsimp only [crtV])
    | (refine wpList_store_box rfl 45 _ _ rfl (g + 1) 0 (crtC x a4) (crtC zeroC6 zeroCA) (crtC x a4) rfl rfl (HX1.out.below (hb13.trans (hb4.mono hb13.size)) HX1.out.1) (show 0 + 6 ≤ 6 by decide) rfl size_crt rfl ?_))
  intro w9 by9 T9
  have t9 := T9 (fun k => k = g + 1) rfl
  obtain ⟨r0, r1, r2, r3, r4, r5⟩ := crt_cells by9
  have hs13 := hb13.size
  have hgw3 : g ≤ w3.heap.size := by omega
  have hb9 : Below g w w9 := (hbb3.trans (hb4.mono hgw3)).trans (t9.below (fun k hk => by have e : k = g + 1 := hk; omega) (by have := hb4.size; omega))
  have hn9 : CNew w3.heap.size w9 x a4 := hn4.touch t9 (fun b hb hh => by have e : b = g + 1 := hb; have := (hn4.lt hh).2; omega)
  go_wp2_with fail
  refine bodyPost_ret (v := .tuple #[crtV x a4, .int .i64 0]) (by simp [results, Try.results31, go_sem, r0, r1, r2, r3, r4, r5, crtV]) rfl ⟨a4, rfl, ?_, ?_⟩
  · rw [HG.out]; exact hn9.more hgw3
  · rw [HG.out]; exact hb9

end Go.Proofs.Ytfldfillcmamcaa
