/-
  Package path's Reach and Below.
-/
import Derived.Test.YtfldfillcmamcaaQReach
import Derived.Test.YtfldfillcmamcaaCalm
import Derived.Deep.RegionHeld3
namespace Go.Proofs.Ytfldfillcmamcaa
open Go.RowKit

/-- refused -/
def ReachErr (z : Int) (w : World) (en : Ending) (w' : World) : Prop := en = .returned (.tuple #[.bool false, .int .i64 z]) ∧ Below w.heap.size w w'
set_option maxRecDepth 100000 in
set_option maxHeartbeats 8000000 in
theorem reach_bad (N L p q : Int) (o : Ad) (l : List CrtD) (w : World) (h : GIn w o l) (hm : ¬ MayG N L l) :
    Calls Try.prog 43 #[dagV N L o, .int .i64 p, .int .i64 q] w (ReachErr 1 w) := by
  obtain ⟨g, hg⟩ : ∃ g, g = w.heap.size := ⟨_, rfl⟩
  obtain ⟨w1, hw1⟩ : ∃ w1, w1 = w.alloc (.cells (dagC N L o).toArray 24) := ⟨_, rfl⟩
  obtain ⟨hb1, hsz, hx0⟩ := boxes1 w _ _ hw1
  rw [← hg] at hb1 hsz hx0
  have HG : Hid (w.heap.size = g) := hg.symm
  have HW : Hid (w.alloc (.cells #[.int .i64 N, .int .i64 L, .slice o.A o.n o.c] 24) = w1) := hw1.symm
  have HIN : Hid (∀ wX, Below g w wX → GIn wX o l) := fun wX hb => h.below (by rw [← hg]; exact hb)
  have HB := Lib.hid hb1
  have HX0 := Lib.hid hx0
  have HC := Lib.hid (check_bad (HIN.out _ hb1) hm)
  have HD : Hid (∀ wX, Below w1.heap.size w1 wX → wX.cell? ⟨g, 0, none⟩ = some (.int .i64 N) ∧ wX.cell? ⟨g, 1, none⟩ = some (.int .i64 L) ∧ wX.cell? ⟨g, 2, none⟩ = some (.slice o.A o.n o.c)) := fun wX hb => dag_cells (HX0.out.below hb HX0.out.1)
  have hgs := hx0.1
  obtain ⟨d0, d1, d2⟩ := dag_cells hx0
  clear hg hw1 hb1 hsz hx0 h hm
  unfold dagV at HC ⊢
  go_enter Try.func43, Try.ntmps43
  go_upto_region 1 with fail
  rw [HG.out, HW.out]
  go_wp2_with (go_at_call 16; refine HC.out.mono ?_; rintro e w2 ⟨rfl, hb2⟩)
  go_ret2
  exact ⟨rfl, by rw [HG.out]; exact HB.out.trans (hb2.mono (Nat.le_of_lt hgs))⟩
set_option maxRecDepth 100000 in
set_option maxHeartbeats 8000000 in
theorem reach_none (N L p q : Int) (o : Ad) (l : List CrtD) (w : World) (h : GIn w o l) (hm : MayG N L l) (hn : idxD l p < 0 ∨ idxD l q < 0) :
    Calls Try.prog 43 #[dagV N L o, .int .i64 p, .int .i64 q] w (ReachErr 3 w) := by
  obtain ⟨g, hg⟩ : ∃ g, g = w.heap.size := ⟨_, rfl⟩
  obtain ⟨w1, hw1⟩ : ∃ w1, w1 = w.alloc (.cells (dagC N L o).toArray 24) := ⟨_, rfl⟩
  obtain ⟨hb1, hsz, hx0⟩ := boxes1 w _ _ hw1
  rw [← hg] at hb1 hsz hx0
  have HG : Hid (w.heap.size = g) := hg.symm
  have HW : Hid (w.alloc (.cells #[.int .i64 N, .int .i64 L, .slice o.A o.n o.c] 24) = w1) := hw1.symm
  have HIN : Hid (∀ wX, Below g w wX → GIn wX o l) := fun wX hb => h.below (by rw [← hg]; exact hb)
  have HB := Lib.hid hb1
  have HX0 := Lib.hid hx0
  have HC := Lib.hid (check_ok (HIN.out _ hb1) hm)
  have HD : Hid (∀ wX, Below w1.heap.size w1 wX → wX.cell? ⟨g, 0, none⟩ = some (.int .i64 N) ∧ wX.cell? ⟨g, 1, none⟩ = some (.int .i64 L) ∧ wX.cell? ⟨g, 2, none⟩ = some (.slice o.A o.n o.c)) := fun wX hb => dag_cells (HX0.out.below hb HX0.out.1)
  have hgs := hx0.1
  obtain ⟨d0, d1, d2⟩ := dag_cells hx0
  have HF : Hid (∀ p wX, Below w1.heap.size w1 wX → Calls Try.prog 77 #[.agg #[.int .i64 N, .int .i64 L, .slice o.A o.n o.c], .int .i64 p] wX fun e w' => e = .returned (.int .i64 (idxD l p)) ∧ Below wX.heap.size wX w') := fun p wX hb => findQ_is N L p o l wX (HIN.out wX (HB.out.trans (hb.mono (Nat.le_of_lt hgs))))
  obtain ⟨ip, hip⟩ : ∃ ip, idxD l p = ip := ⟨_, rfl⟩
  obtain ⟨iq, hiq⟩ : ∃ iq, idxD l q = iq := ⟨_, rfl⟩
  rw [hip, hiq] at hn
  clear hg hw1 hb1 hsz hx0 h hm
  unfold dagV at HC ⊢
  go_enter Try.func43, Try.ntmps43
  go_upto_region 1 with fail
  rw [HG.out, HW.out]
  go_upto_region 4 with (go_at_call 16; refine HC.out.mono ?_; rintro e w2 ⟨rfl, hb2⟩)
  clear d0 d1 d2
  have p0 : ∀ z : Calm w2, z.val.cell? ⟨g, 0, none⟩ = some (.int .i64 N) := fun z => (HD.out z.val (hb2.trans (z.ok.mono hb2.size))).1
  have p1 : ∀ z : Calm w2, z.val.cell? ⟨g, 1, none⟩ = some (.int .i64 L) := fun z => (HD.out z.val (hb2.trans (z.ok.mono hb2.size))).2.1
  have p2 : ∀ z : Calm w2, z.val.cell? ⟨g, 2, none⟩ = some (.slice o.A o.n o.c) := fun z => (HD.out z.val (hb2.trans (z.ok.mono hb2.size))).2.2
  have h1 := fun z : Calm w2 => HF.out p z.val (hb2.trans (z.ok.mono hb2.size))
  have h2 := fun z : Calm w2 => HF.out q z.val (hb2.trans (z.ok.mono hb2.size))
  rw [hip] at h1
  rw [hiq] at h2
  have H1 := Lib.hid h1
  have H2 := Lib.hid h2
  clear h1 h2 hip hiq
  refine wp_region_calm (by kernel_rfl) (by kernel_rfl) ?_
  repeat (go_big_quiet_step (first
    | (go_at_call 77; exact calm_tells (H1.out _))
    | (go_at_call 77; exact calm_tells (H2.out _))))
  refine wpQuiet_nil ?_
  rintro _ ⟨z, rfl⟩
  obtain ⟨w3, hwz⟩ : ∃ wz, wz = z.val := ⟨_, rfl⟩
  have hb3 : Below w1.heap.size w1 w3 := by rw [hwz]; exact hb2.trans (z.ok.mono hb2.size)
  rw [← hwz]
  clear hwz z p0 p1 p2 H1 H2
  by_cases hp0 : ip < 0
  · go_wp2_with fail
    go_ret2
    exact ⟨rfl, by rw [HG.out]; exact HB.out.trans (hb3.mono (Nat.le_of_lt hgs))⟩
  · have hq0 : iq < 0 := by omega
    go_wp2_with fail
    go_ret2
    exact ⟨rfl, by rw [HG.out]; exact HB.out.trans (hb3.mono (Nat.le_of_lt hgs))⟩
/-- refused -/
def BelowErr (z : Int) (w : World) (en : Ending) (w' : World) : Prop := en = .returned (.tuple #[.slice none 0 0, .int .i64 z]) ∧ Below w.heap.size w w'
set_option maxRecDepth 100000 in
set_option maxHeartbeats 8000000 in
theorem below_bad (N L p low : Int) (o : Ad) (l : List CrtD) (w : World) (h : GIn w o l) (hm : ¬ MayG N L l) :
    Calls Try.prog 47 #[dagV N L o, .int .i64 p, .int .i64 low] w (BelowErr 1 w) := by
  obtain ⟨g, hg⟩ : ∃ g, g = w.heap.size := ⟨_, rfl⟩
  obtain ⟨w1, hw1⟩ : ∃ w1, w1 = w.alloc (.cells (dagC N L o).toArray 24) := ⟨_, rfl⟩
  obtain ⟨hb1, hsz, hx0⟩ := boxes1 w _ _ hw1
  rw [← hg] at hb1 hsz hx0
  have HG : Hid (w.heap.size = g) := hg.symm
  have HW : Hid (w.alloc (.cells #[.int .i64 N, .int .i64 L, .slice o.A o.n o.c] 24) = w1) := hw1.symm
  have HIN : Hid (∀ wX, Below g w wX → GIn wX o l) := fun wX hb => h.below (by rw [← hg]; exact hb)
  have HB := Lib.hid hb1
  have HX0 := Lib.hid hx0
  have HC := Lib.hid (check_bad (HIN.out _ hb1) hm)
  have HD : Hid (∀ wX, Below w1.heap.size w1 wX → wX.cell? ⟨g, 0, none⟩ = some (.int .i64 N) ∧ wX.cell? ⟨g, 1, none⟩ = some (.int .i64 L) ∧ wX.cell? ⟨g, 2, none⟩ = some (.slice o.A o.n o.c)) := fun wX hb => dag_cells (HX0.out.below hb HX0.out.1)
  have hgs := hx0.1
  obtain ⟨d0, d1, d2⟩ := dag_cells hx0
  clear hg hw1 hb1 hsz hx0 h hm
  unfold dagV at HC ⊢
  go_enter Try.func47, Try.ntmps47
  go_upto_region 1 with fail
  rw [HG.out, HW.out]
  go_wp2_with (go_at_call 16; refine HC.out.mono ?_; rintro e w2 ⟨rfl, hb2⟩)
  go_ret2
  exact ⟨rfl, by rw [HG.out]; exact HB.out.trans (hb2.mono (Nat.le_of_lt hgs))⟩
set_option maxRecDepth 100000 in
set_option maxHeartbeats 8000000 in
theorem below_none (N L p low : Int) (o : Ad) (l : List CrtD) (w : World) (h : GIn w o l) (hm : MayG N L l) (hn : idxD l p < 0) :
    Calls Try.prog 47 #[dagV N L o, .int .i64 p, .int .i64 low] w (BelowErr 3 w) := by
  obtain ⟨g, hg⟩ : ∃ g, g = w.heap.size := ⟨_, rfl⟩
  obtain ⟨w1, hw1⟩ : ∃ w1, w1 = w.alloc (.cells (dagC N L o).toArray 24) := ⟨_, rfl⟩
  obtain ⟨hb1, hsz, hx0⟩ := boxes1 w _ _ hw1
  rw [← hg] at hb1 hsz hx0
  have HG : Hid (w.heap.size = g) := hg.symm
  have HW : Hid (w.alloc (.cells #[.int .i64 N, .int .i64 L, .slice o.A o.n o.c] 24) = w1) := hw1.symm
  have HIN : Hid (∀ wX, Below g w wX → GIn wX o l) := fun wX hb => h.below (by rw [← hg]; exact hb)
  have HB := Lib.hid hb1
  have HX0 := Lib.hid hx0
  have HC := Lib.hid (check_ok (HIN.out _ hb1) hm)
  have HD : Hid (∀ wX, Below w1.heap.size w1 wX → wX.cell? ⟨g, 0, none⟩ = some (.int .i64 N) ∧ wX.cell? ⟨g, 1, none⟩ = some (.int .i64 L) ∧ wX.cell? ⟨g, 2, none⟩ = some (.slice o.A o.n o.c)) := fun wX hb => dag_cells (HX0.out.below hb HX0.out.1)
  have hgs := hx0.1
  obtain ⟨d0, d1, d2⟩ := dag_cells hx0
  have HF : Hid (∀ p wX, Below w1.heap.size w1 wX → Calls Try.prog 77 #[.agg #[.int .i64 N, .int .i64 L, .slice o.A o.n o.c], .int .i64 p] wX fun e w' => e = .returned (.int .i64 (idxD l p)) ∧ Below wX.heap.size wX w') := fun p wX hb => findQ_is N L p o l wX (HIN.out wX (HB.out.trans (hb.mono (Nat.le_of_lt hgs))))
  clear hg hw1 hb1 hsz hx0 h hm
  unfold dagV at HC ⊢
  go_enter Try.func47, Try.ntmps47
  go_upto_region 1 with fail
  rw [HG.out, HW.out]
  go_upto_region 4 with (go_at_call 16; refine HC.out.mono ?_; rintro e w2 ⟨rfl, hb2⟩)
  clear d0 d1 d2
  obtain ⟨e0, e1, e2⟩ := HD.out w2 hb2
  go_wp2_with (go_at_call 77; refine (HF.out _ _ hb2).mono ?_; rintro e w3 ⟨rfl, hb3⟩)
  go_ret2
  exact ⟨rfl, by rw [HG.out]; exact HB.out.trans ((hb2.trans (hb3.mono hb2.size)).mono (Nat.le_of_lt hgs))⟩
/-- a list of the call's own, and an answer -/
def BelowOk (z : List Int) (w : World) (en : Ending) (w' : World) : Prop := ∃ o' : Ad, en = .returned (.tuple #[.slice o'.A o'.n o'.c, .int .i64 0]) ∧ w'.ownsRow w.heap.size 3 1 o'.v o'.n (i64s z) ∧ z.length = o'.n ∧ Below w.heap.size w w'
set_option maxRecDepth 100000 in
set_option maxHeartbeats 8000000 in
theorem below_ok (N L p low : Int) (o : Ad) (l : List CrtD) (x : CrtD) (w : World) (h : GIn w o l) (hm : MayG N L l) (hx : l[cutF (neD p) l]? = some x) :
    Calls Try.prog 47 #[dagV N L o, .int .i64 p, .int .i64 low] w (BelowOk (belC L l x low) w) := by
  obtain ⟨g, hg⟩ : ∃ g, g = w.heap.size := ⟨_, rfl⟩
  obtain ⟨w1, hw1⟩ : ∃ w1, w1 = w.alloc (.cells (dagC N L o).toArray 24) := ⟨_, rfl⟩
  obtain ⟨hb1, hsz, hx0⟩ := boxes1 w _ _ hw1
  rw [← hg] at hb1 hsz hx0
  have HG : Hid (w.heap.size = g) := hg.symm
  have HW : Hid (w.alloc (.cells #[.int .i64 N, .int .i64 L, .slice o.A o.n o.c] 24) = w1) := hw1.symm
  have HIN : Hid (∀ wX, Below g w wX → GIn wX o l) := fun wX hb => h.below (by rw [← hg]; exact hb)
  have HB := Lib.hid hb1
  have HX0 := Lib.hid hx0
  have HC := Lib.hid (check_ok (HIN.out _ hb1) hm)
  have HD : Hid (∀ wX, Below w1.heap.size w1 wX → wX.cell? ⟨g, 0, none⟩ = some (.int .i64 N) ∧ wX.cell? ⟨g, 1, none⟩ = some (.int .i64 L) ∧ wX.cell? ⟨g, 2, none⟩ = some (.slice o.A o.n o.c)) := fun wX hb => dag_cells (HX0.out.below hb HX0.out.1)
  have hgs := hx0.1
  obtain ⟨d0, d1, d2⟩ := dag_cells hx0
  have HF : Hid (∀ p wX, Below w1.heap.size w1 wX → Calls Try.prog 77 #[.agg #[.int .i64 N, .int .i64 L, .slice o.A o.n o.c], .int .i64 p] wX fun e w' => e = .returned (.int .i64 (idxD l p)) ∧ Below wX.heap.size wX w') := fun p wX hb => findQ_is N L p o l wX (HIN.out wX (HB.out.trans (hb.mono (Nat.le_of_lt hgs))))
  obtain ⟨k, hk⟩ : ∃ k, k = cutF (neD p) l := ⟨_, rfl⟩
  have hip : idxD l p = (k : Int) := by rw [hk]; exact (idxF_pos hx).1
  rw [← hk] at hx
  have HRE : Hid (∀ wX, Below w1.heap.size w1 wX → Calls Try.prog 79 #[.agg #[.int .i64 N, .int .i64 L, .slice o.A o.n o.c], .int .i64 k, .int .i64 low] wX (NewI (belC L l x low) wX)) := fun wX hb => reached_is N L low o l k x wX (HIN.out wX (HB.out.trans (hb.mono (Nat.le_of_lt hgs)))) hm hx
  have i0 : ¬ ((k : Int) < 0) := by omega
  have HF2 : Hid (∀ wX, Below w1.heap.size w1 wX → Calls Try.prog 77 #[.agg #[.int .i64 N, .int .i64 L, .slice o.A o.n o.c], .int .i64 p] wX fun e w' => e = .returned (.int .i64 (k : Int)) ∧ Below wX.heap.size wX w') := fun wX hb => by
    have := HF.out p wX hb
    rwa [hip] at this
  clear hx hk hip HF
  clear hg hw1 hb1 hsz hx0 h hm
  unfold dagV at HC ⊢
  go_enter Try.func47, Try.ntmps47
  go_upto_region 1 with fail
  rw [HG.out, HW.out]
  go_upto_region 4 with (go_at_call 16; refine HC.out.mono ?_; rintro e w2 ⟨rfl, hb2⟩)
  clear d0 d1 d2
  obtain ⟨e0, e1, e2⟩ := HD.out w2 hb2
  go_upto_region 7 with (go_at_call 77; refine (HF2.out _ hb2).mono ?_; rintro e w3 ⟨rfl, hb3⟩)
  have hb13 := hb2.trans (hb3.mono hb2.size)
  clear e0 e1 e2
  obtain ⟨e0, e1, e2⟩ := HD.out w3 hb13
  go_wp2_with (go_at_call 79; refine (HRE.out _ hb13).mono ?_; rintro e w4 ⟨⟨A5, n5, q5⟩, rfl, how, hlw, hb4⟩)
  go_ret2
  have hs := hb13.size
  refine ⟨⟨A5, n5, q5⟩, rfl, own_more how (by rw [HG.out]; omega), hlw, by rw [HG.out]; exact HB.out.trans ((hb13.trans (hb4.mono hs)).mono (Nat.le_of_lt hgs))⟩

end Go.Proofs.Ytfldfillcmamcaa
/-
  Package path's Reach: the answer.
-/
namespace Go.Proofs.Ytfldfillcmamcaa
open Go.RowKit

set_option maxRecDepth 100000 in
set_option maxHeartbeats 8000000 in
theorem reach_ok (N L p q : Int) (o : Ad) (l : List CrtD) (x y : CrtD) (w : World) (h : GIn w o l) (hm : MayG N L l) (hx : l[cutF (neD p) l]? = some x) (hy : l[cutF (neD q) l]? = some y) :
    Calls Try.prog 43 #[dagV N L o, .int .i64 p, .int .i64 q] w fun e w' => e = .returned (.tuple #[.bool (rchB L l x y), .int .i64 0]) ∧ Below w.heap.size w w' := by
  obtain ⟨g, hg⟩ : ∃ g, g = w.heap.size := ⟨_, rfl⟩
  obtain ⟨w1, hw1⟩ : ∃ w1, w1 = w.alloc (.cells (dagC N L o).toArray 24) := ⟨_, rfl⟩
  obtain ⟨hb1, hsz, hx0⟩ := boxes1 w _ _ hw1
  rw [← hg] at hb1 hsz hx0
  have HG : Hid (w.heap.size = g) := hg.symm
  have HW : Hid (w.alloc (.cells #[.int .i64 N, .int .i64 L, .slice o.A o.n o.c] 24) = w1) := hw1.symm
  have HIN : Hid (∀ wX, Below g w wX → GIn wX o l) := fun wX hb => h.below (by rw [← hg]; exact hb)
  have HB := Lib.hid hb1
  have HX0 := Lib.hid hx0
  have HC := Lib.hid (check_ok (HIN.out _ hb1) hm)
  have HD : Hid (∀ wX, Below w1.heap.size w1 wX → wX.cell? ⟨g, 0, none⟩ = some (.int .i64 N) ∧ wX.cell? ⟨g, 1, none⟩ = some (.int .i64 L) ∧ wX.cell? ⟨g, 2, none⟩ = some (.slice o.A o.n o.c)) := fun wX hb => dag_cells (HX0.out.below hb HX0.out.1)
  have hgs := hx0.1
  obtain ⟨d0, d1, d2⟩ := dag_cells hx0
  have HF : Hid (∀ p wX, Below w1.heap.size w1 wX → Calls Try.prog 77 #[.agg #[.int .i64 N, .int .i64 L, .slice o.A o.n o.c], .int .i64 p] wX fun e w' => e = .returned (.int .i64 (idxD l p)) ∧ Below wX.heap.size wX w') := fun p wX hb => findQ_is N L p o l wX (HIN.out wX (HB.out.trans (hb.mono (Nat.le_of_lt hgs))))
  obtain ⟨k, hk⟩ : ∃ k, k = cutF (neD p) l := ⟨_, rfl⟩
  obtain ⟨m, hm'⟩ : ∃ m, m = cutF (neD q) l := ⟨_, rfl⟩
  have hip : idxD l p = (k : Int) := by rw [hk]; exact (idxF_pos hx).1
  have hiq : idxD l q = (m : Int) := by rw [hm']; exact (idxF_pos hy).1
  rw [← hk] at hx
  have hyd : y.d = q := (findC_some ((findC_cut q).trans hy)).2
  rw [← hm'] at hy
  obtain ⟨b, off, a, hA, hbl, -, hce⟩ := h.get hy
  have hkl : k < o.n := by have := (List.getElem?_eq_some_iff.1 hx).1; have := h.len; omega
  have hml : m < o.n := by have := (List.getElem?_eq_some_iff.1 hy).1; have := h.len; omega
  obtain ⟨hyr0, hyr1⟩ := (ok_hdr (hm.of_mem (List.mem_of_getElem? hy)).1).2.1
  have hfew := h.few
  have HCE : Hid (∀ wX, Below g w wX → wX.cell? ⟨b, off + m * 6 + 1, none⟩ = some (.int .i64 y.r)) := fun wX hb => (hce wX (by rw [HG.out]; exact hb)).c1
  have HRE : Hid (∀ wX, Below w1.heap.size w1 wX → Calls Try.prog 79 #[.agg #[.int .i64 N, .int .i64 L, .slice o.A o.n o.c], .int .i64 k, .int .i64 (y.r - 1)] wX (NewI (belC L l x (y.r - 1)) wX)) := fun wX hb => reached_is N L (y.r - 1) o l k x wX (HIN.out wX (HB.out.trans (hb.mono (Nat.le_of_lt hgs)))) hm hx
  have HV : Hid (inB (belC L l x (y.r - 1)) q = rchB L l x y) := by
    show _ = _
    rw [Bool.eq_iff_iff, inB_iff, rchB_iff, ← hyd]
    exact mem_bel_dig hm (List.mem_of_getElem? hy)
  have HLL : Hid ((belC L l x (y.r - 1)).length ≤ 1000000) := by
    show _ ≤ _
    unfold belC
    rw [List.length_map]
    have := List.length_filter_le (belF L l x (y.r - 1)) l
    have := h.len
    omega
  have HA := Lib.hid hA
  have i0 : ¬ ((k : Int) < 0) := by omega
  have i1 : ¬ ((m : Int) < 0) := by omega
  have i2 : (0 : Int) ≤ (m : Int) := by omega
  have i3 : (m : Int) < (o.n : Int) := by omega
  clear hA hce hk hm' hx hy hyd hbl
  clear hg hw1 hb1 hsz hx0 h hm
  unfold dagV at HC ⊢
  go_enter Try.func43, Try.ntmps43
  go_upto_region 1 with fail
  rw [HG.out, HW.out]
  go_upto_region 4 with (go_at_call 16; refine HC.out.mono ?_; rintro e w2 ⟨rfl, hb2⟩)
  clear d0 d1 d2
  have p0 : ∀ z : Calm w2, z.val.cell? ⟨g, 0, none⟩ = some (.int .i64 N) := fun z => (HD.out z.val (hb2.trans (z.ok.mono hb2.size))).1
  have p1 : ∀ z : Calm w2, z.val.cell? ⟨g, 1, none⟩ = some (.int .i64 L) := fun z => (HD.out z.val (hb2.trans (z.ok.mono hb2.size))).2.1
  have p2 : ∀ z : Calm w2, z.val.cell? ⟨g, 2, none⟩ = some (.slice o.A o.n o.c) := fun z => (HD.out z.val (hb2.trans (z.ok.mono hb2.size))).2.2
  have h1 := fun z : Calm w2 => HF.out p z.val (hb2.trans (z.ok.mono hb2.size))
  have h2 := fun z : Calm w2 => HF.out q z.val (hb2.trans (z.ok.mono hb2.size))
  rw [hip] at h1
  rw [hiq] at h2
  have H1 := Lib.hid h1
  have H2 := Lib.hid h2
  clear h1 h2 hip hiq
  refine wp_region_calm (by kernel_rfl) (by kernel_rfl) ?_
  repeat (go_big_quiet_step (first
    | (go_at_call 77; exact calm_tells (H1.out _))
    | (go_at_call 77; exact calm_tells (H2.out _))))
  refine wpQuiet_nil ?_
  rintro _ ⟨z, rfl⟩
  obtain ⟨w3, hwz⟩ : ∃ wz, wz = z.val := ⟨_, rfl⟩
  have hb3 : Below w1.heap.size w1 w3 := by rw [hwz]; exact hb2.trans (z.ok.mono hb2.size)
  rw [← hwz]
  clear hwz z p0 p1 p2 H1 H2
  go_upto_region 7 with fail
  have KEEP : Hid (∀ wX, Below w3.heap.size w3 wX → wX.cell? ⟨g, 0, none⟩ = some (.int .i64 N) ∧ wX.cell? ⟨g, 1, none⟩ = some (.int .i64 L) ∧ wX.cell? ⟨g, 2, none⟩ = some (.slice (some ⟨b, off, none⟩) o.n o.c) ∧ wX.cell? ⟨b, off + m * 6 + 1, none⟩ = some (.int .i64 y.r)) := fun wX hb => by
    have hb' := hb3.trans (hb.mono hb3.size)
    obtain ⟨e0, e1, e2⟩ := HD.out wX hb'
    rw [HA.out] at e2
    exact ⟨e0, e1, e2, HCE.out wX (HB.out.trans (hb'.mono (Nat.le_of_lt hgs)))⟩
  obtain ⟨e0, e1, e2, c1⟩ := KEEP.out w3 (Below.refl _ _)
  have HRE3 : Hid (∀ wX, Below w3.heap.size w3 wX → _) := fun wX hb => HRE.out wX (hb3.trans (hb.mono hb3.size))
  rw [HA.out] at HRE3
  obtain ⟨lb, hlb⟩ : ∃ lb, lb = belC L l x (y.r - 1) := ⟨_, rfl⟩
  rw [← hlb] at HRE3 HV HLL
  clear hlb
  have hwr : IntKind.i64.wrap (y.r - 1) = y.r - 1 := IntWalk.i64_in _ (by omega)
  go_region_held3 (fun wX => wX.cell? ⟨g, 0, none⟩ = some (.int .i64 N) ∧ wX.cell? ⟨g, 1, none⟩ = some (.int .i64 L) ∧ wX.cell? ⟨g, 2, none⟩ = some (.slice (some ⟨b, off, none⟩) o.n o.c) ∧ wX.cell? ⟨b, off + m * 6 + 1, none⟩ = some (.int .i64 y.r))
    ((refine KEEP.out _ ?_; first
      | with_reducible exact (Below.refl _ _)
      | with_reducible exact (Below.refl _ _).drew
      | with_reducible exact hb37))
    (first
      | (go_at_call 79; refine (HRE3.out _ ?_).mono ?_
         · exact (Below.refl _ _).drew
         rintro e w7 ⟨⟨A5, n5, q5⟩, rfl, how7, hlw7, hbxw7⟩
         have hb37 : Below w3.heap.size w3 w7 := (Below.refl _ _).drew.trans (hbxw7.mono (by simp)))
      | (go_at_call 78; refine (contains_is q ⟨A5, n5, q5⟩ lb _ hlw7 (rd_of_own how7).2.2 (by have := HLL.out; dsimp only at hlw7 ⊢; omega)).mono ?_
         rintro e w8 ⟨rfl, rfl⟩))
  go_wp2_with fail
  go_ret2
  exact ⟨by rw [HV.out]; rfl, by rw [HG.out]; exact HB.out.trans ((hb3.trans (hb37.mono hb3.size)).mono (Nat.le_of_lt hgs))⟩

end Go.Proofs.Ytfldfillcmamcaa
