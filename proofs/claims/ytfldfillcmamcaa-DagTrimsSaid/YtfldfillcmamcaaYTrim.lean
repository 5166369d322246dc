/-
  Package dag's Trim, and the page's.
-/
import Derived.Test.YtfldfillcmamcaaYCpD
import Derived.Test.YtfldfillcmamcaaYApiA
import Derived.Test.YtfldfillcmamcaaYRRnd
import Derived.Deep.RegionWith
namespace Go.Proofs.Ytfldfillcmamcaa
open Go.RowKit

set_option maxRecDepth 100000 in
set_option maxHeartbeats 4000000 in
theorem trim_bad (N L low : Int) (o : Ad) (l : List CrtD) (w : World) (h : GIn w o l) (hm : ¬ MayG N L l) :
    Calls Try.prog 39 #[dagV N L o, .int .i64 low] w (AddErr 1 w) := by
  obtain ⟨g, hg⟩ : ∃ g, g = w.heap.size := ⟨_, rfl⟩
  obtain ⟨w1, hw1⟩ : ∃ w1, w1 = (w.alloc (.cells (dagC N L o).toArray 24)).alloc (.cells (dagC 0 0 noAd).toArray 24) := ⟨_, rfl⟩
  obtain ⟨hb1, hsz, hx0, hx1⟩ := boxes2 w _ _ _ _ hw1
  rw [← hg] at hb1 hsz hx0 hx1
  have HG : Hid (w.heap.size = g) := hg.symm
  have HW : Hid ((w.alloc (.cells #[.int .i64 N, .int .i64 L, .slice o.A o.n o.c] 24)).alloc (.cells #[.int .i64 0, .int .i64 0, .slice none 0 0] 24) = w1) := hw1.symm
  have HB := Lib.hid hb1
  have HX1 := Lib.hid hx1
  have HC := Lib.hid (check_bad (h.below (by rw [← hg]; exact hb1)) hm)
  have hgs := hx0.1
  obtain ⟨d0, d1, d2⟩ := dag_cells hx0
  clear hg hw1 hb1 hsz hx0 hx1 hm h
  unfold dagV at HC ⊢
  go_enter Try.func39, Try.ntmps39
  go_upto_region 1 with fail
  rw [HG.out, HW.out]
  go_upto_region 3 with (go_at_call 16; refine HC.out.mono ?_; rintro e w2 ⟨rfl, hb2⟩)
  have hy2 : Box w2 (g + 1) (dagC 0 0 noAd) := HX1.out.below hb2 HX1.out.1
  go_wp2_with (refine wpList_store_box rfl 24 _ _ rfl (g + 1) 0 (dagC 0 0 noAd) (dagC 0 0 noAd) (dagC 0 0 noAd) rfl rfl hy2 (show 0 + 3 ≤ 3 by decide) rfl size_dag rfl ?_)
  intro w9 by9 T9
  have t9 := T9 (fun k => k = g + 1) rfl
  obtain ⟨r0, r1, r2⟩ := dag_cells by9
  have hb9 : Below g w w9 := (HB.out.trans (hb2.mono (Nat.le_of_lt hgs))).trans (t9.below (fun k hk => by have e : k = g + 1 := hk; omega) (by have := hb2.size; omega))
  go_wp2_with fail
  refine bodyPost_ret (v := .tuple #[dagV 0 0 noAd, .int .i64 1]) (by simp [results, Try.results39, go_sem, r0, r1, r2, dagV, noAd]) rfl ⟨rfl, ?_⟩
  rw [HG.out]
  exact hb9
set_option maxRecDepth 100000 in
set_option maxHeartbeats 4000000 in
theorem trim_form (N L low : Int) (o : Ad) (l : List CrtD) (w : World) (h : GIn w o l) (hm : MayG N L l) (hl : low < L ∨ 1099511627776 < low) :
    Calls Try.prog 39 #[dagV N L o, .int .i64 low] w (AddErr 1 w) := by
  obtain ⟨g, hg⟩ : ∃ g, g = w.heap.size := ⟨_, rfl⟩
  obtain ⟨w1, hw1⟩ : ∃ w1, w1 = (w.alloc (.cells (dagC N L o).toArray 24)).alloc (.cells (dagC 0 0 noAd).toArray 24) := ⟨_, rfl⟩
  obtain ⟨hb1, hsz, hx0, hx1⟩ := boxes2 w _ _ _ _ hw1
  rw [← hg] at hb1 hsz hx0 hx1
  have HG : Hid (w.heap.size = g) := hg.symm
  have HW : Hid ((w.alloc (.cells #[.int .i64 N, .int .i64 L, .slice o.A o.n o.c] 24)).alloc (.cells #[.int .i64 0, .int .i64 0, .slice none 0 0] 24) = w1) := hw1.symm
  have HB := Lib.hid hb1
  have HX0 := Lib.hid hx0
  have HX1 := Lib.hid hx1
  have HC := Lib.hid (check_ok (h.below (by rw [← hg]; exact hb1)) hm)
  have HD : Hid (∀ wX, Below w1.heap.size w1 wX → wX.cell? ⟨g, 1, none⟩ = some (.int .i64 L)) := fun wX hb => (dag_cells (HX0.out.below hb HX0.out.1)).2.1
  have hgs := hx0.1
  obtain ⟨d0, d1, d2⟩ := dag_cells hx0
  clear hg hw1 hb1 hsz hx0 hx1 hm h
  unfold dagV at HC ⊢
  go_enter Try.func39, Try.ntmps39
  go_upto_region 1 with fail
  rw [HG.out, HW.out]
  by_cases h1 : low < L
  · go_upto_region 5 with (go_at_call 16; refine HC.out.mono ?_; rintro e w2 ⟨rfl, hb2⟩; have e1 := HD.out w2 hb2)
    have hy2 : Box w2 (g + 1) (dagC 0 0 noAd) := HX1.out.below hb2 HX1.out.1
    go_wp2_with (refine wpList_store_box rfl 24 _ _ rfl (g + 1) 0 (dagC 0 0 noAd) (dagC 0 0 noAd) (dagC 0 0 noAd) rfl rfl hy2 (show 0 + 3 ≤ 3 by decide) rfl size_dag rfl ?_)
    intro w9 by9 T9
    have t9 := T9 (fun k => k = g + 1) rfl
    obtain ⟨r0, r1, r2⟩ := dag_cells by9
    have hb9 : Below g w w9 := (HB.out.trans (hb2.mono (Nat.le_of_lt hgs))).trans (t9.below (fun k hk => by have e : k = g + 1 := hk; omega) (by have := hb2.size; omega))
    go_wp2_with fail
    refine bodyPost_ret (v := .tuple #[dagV 0 0 noAd, .int .i64 1]) (by simp [results, Try.results39, go_sem, r0, r1, r2, dagV, noAd]) rfl ⟨rfl, ?_⟩
    rw [HG.out]
    exact hb9
  · have h2 : 1099511627776 < low := by omega
    go_upto_region 5 with (go_at_call 16; refine HC.out.mono ?_; rintro e w2 ⟨rfl, hb2⟩; have e1 := HD.out w2 hb2)
    have hy2 : Box w2 (g + 1) (dagC 0 0 noAd) := HX1.out.below hb2 HX1.out.1
    go_wp2_with (refine wpList_store_box rfl 24 _ _ rfl (g + 1) 0 (dagC 0 0 noAd) (dagC 0 0 noAd) (dagC 0 0 noAd) rfl rfl hy2 (show 0 + 3 ≤ 3 by decide) rfl size_dag rfl ?_)
    intro w9 by9 T9
    have t9 := T9 (fun k => k = g + 1) rfl
    obtain ⟨r0, r1, r2⟩ := dag_cells by9
    have hb9 : Below g w w9 := (HB.out.trans (hb2.mono (Nat.le_of_lt hgs))).trans (t9.below (fun k hk => by have e : k = g + 1 := hk; omega) (by have := hb2.size; omega))
    go_wp2_with fail
    refine bodyPost_ret (v := .tuple #[dagV 0 0 noAd, .int .i64 1]) (by simp [results, Try.results39, go_sem, r0, r1, r2, dagV, noAd]) rfl ⟨rfl, ?_⟩
    rw [HG.out]
    exact hb9

/-- a graph of the call's own, and an answer -/
def TrimOk (N low : Int) (l : List CrtD) (w : World) (en : Ending) (w' : World) : Prop := ∃ o' ms', en = .returned (.tuple #[dagV N low o', .int .i64 0]) ∧ OwnY w.heap.size w' o' ms' ∧ ms'.map Prod.fst = aboveR l low ∧ Below w.heap.size w w'
theorem cut_end {w : World} {o : Ad} {ms : List (CrtD × CrtA)} {l : List CrtD} (h : RowY w o ms) (hl : ms.map Prod.fst = l) {c : Nat} (hc : c ≤ o.n) : GIn w (o.cut c o.n 6) (l.drop c) := by
  have h1 := h.part (i := c) (j := o.n) hc (Nat.le_refl _)
  refine ⟨_, h1, ?_⟩
  rw [List.take_of_length_le (by rw [List.length_drop, h.row.len]; exact Nat.le_refl _), List.map_drop, hl]
set_option maxRecDepth 100000 in
set_option maxHeartbeats 8000000 in
theorem trim_ok (N L low : Int) (o : Ad) (l : List CrtD) (w : World) (h : GIn w o l) (hm : MayG N L l) (h0 : L ≤ low) (h1 : low ≤ 1099511627776) :
    Calls Try.prog 39 #[dagV N L o, .int .i64 low] w (TrimOk N low l w) := by
  obtain ⟨g, hg⟩ : ∃ g, g = w.heap.size := ⟨_, rfl⟩
  obtain ⟨w1, hw1⟩ : ∃ w1, w1 = (w.alloc (.cells (dagC N L o).toArray 24)).alloc (.cells (dagC 0 0 noAd).toArray 24) := ⟨_, rfl⟩
  obtain ⟨hb1, hsz, hx0, hx1⟩ := boxes2 w _ _ _ _ hw1
  rw [← hg] at hb1 hsz hx0 hx1
  have HG : Hid (w.heap.size = g) := hg.symm
  have HW : Hid ((w.alloc (.cells #[.int .i64 N, .int .i64 L, .slice o.A o.n o.c] 24)).alloc (.cells #[.int .i64 0, .int .i64 0, .slice none 0 0] 24) = w1) := hw1.symm
  have HIN : Hid (∀ wX, Below g w wX → GIn wX o l) := fun wX hb => h.below (by rw [← hg]; exact hb)
  have HB := Lib.hid hb1
  have HX0 := Lib.hid hx0
  have HX1 := Lib.hid hx1
  have HC := Lib.hid (check_ok (h.below (by rw [← hg]; exact hb1)) hm)
  have hgs := hx0.1
  have hfew := h.few
  have hL0 := hm.l0
  have hcapc := h.cap
  obtain ⟨d0, d1, d2⟩ := dag_cells hx0
  have HPOST : Hid (∀ wX, Below w1.heap.size w1 wX → (wX.cell? ⟨g, 1, none⟩ = some (.int .i64 L) ∧ wX.frozen? ⟨g, 1, none⟩ = false)) := fun wX hb => (HX0.out.below hb HX0.out.1).2 1 _ rfl
  obtain ⟨c, hc⟩ : ∃ c, c = cutF (isLow (low + 1)) l := ⟨_, rfl⟩
  have hcl : c ≤ o.n := by rw [hc, ← h.len]; exact cutF_le l
  have HAB : Hid (l.drop c = aboveR l low) := by show _ = _; rw [hc]; exact above_part hm.asc low
  have HFF : Hid (∀ wX, Below g w wX → Calls Try.prog 75 #[dagV N low o, .int .i64 (low + 1)] wX fun e w' => e = .returned (.int .i64 c) ∧ Below wX.heap.size wX w') := fun wX hb => by
    obtain ⟨ms, hr, hl⟩ := HIN.out wX hb
    have := firstFrom_is N low (low + 1) o ms l wX hr hl hm.asc
    rwa [← hc] at this
  have HCL : Hid (∀ wX, Below g w wX → Calls Try.prog 67 #[.slice (o.cut c o.n 6).A (o.cut c o.n 6).n (o.cut c o.n 6).c] wX (ClonesTo (aboveR l low) wX)) := fun wX hb => by
    obtain ⟨ms, hr, hl⟩ := HIN.out wX hb
    have := cut_end hr hl hcl
    rw [HAB.out] at this
    exact clones_is _ _ wX this
  clear hg hw1 hb1 hsz hx0 hx1 hm h hc
  unfold dagV at HC HFF ⊢
  unfold Ad.cut at HCL
  dsimp only at HCL
  go_enter Try.func39, Try.ntmps39
  go_upto_region 1 with fail
  rw [HG.out, HW.out]
  go_upto_region 6 with (go_at_call 16; refine HC.out.mono ?_; rintro e w2 ⟨rfl, hb2⟩; obtain ⟨e1, f1⟩ := HPOST.out w2 hb2)
  go_upto_region 7 with fail
  obtain ⟨w3, hw3⟩ : ∃ w3, w3 = w2.setCell ⟨g, 1, none⟩ (.int .i64 low) := ⟨_, rfl⟩
  have HW3 : Hid (w2.setCell ⟨g, 1, none⟩ (.int .i64 low) = w3) := hw3.symm
  rw [HW3.out]
  have hx3 : Box w3 g (dagC N low o) := by rw [hw3]; exact (HX0.out.below hb2 HX0.out.1).set (j := 1) (show 1 < 3 by decide)
  have hy3 : Box w3 (g + 1) (dagC 0 0 noAd) := by rw [hw3]; exact (HX1.out.below hb2 HX1.out.1).far (by omega)
  have HB3 : Hid (Below g w w3) := by show Below g w w3; rw [hw3]; exact (HB.out.trans (hb2.mono (Nat.le_of_lt hgs))).setCell (Nat.le_refl _) _
  have HX3 := Lib.hid hx3
  have HY3 := Lib.hid hy3
  have HS3 : Hid (g ≤ w3.heap.size) := Nat.le_of_lt hx3.1
  clear d0 d1 d2 e1 f1 hw3 hb2 hy3
  obtain ⟨a0, a1, a2⟩ := dag_cells hx3
  have g2 := (hx3.2 2 _ rfl).2
  have hwr : IntKind.i64.wrap (low + 1) = low + 1 := IntWalk.i64_in _ (by omega)
  have j0 : (0 : Int) ≤ (c : Int) := by omega
  have j1 : (c : Int) ≤ (o.n : Int) := by omega
  have j2 : c ≤ o.n := hcl
  have j3 : (o.n : Int) ≤ (o.c : Int) := by omega
  have j4 : o.n ≤ o.c := hcapc.1
  clear hx3 hcapc hcl
  obtain ⟨A, n, cc⟩ := o
  dsimp only at HCL HFF HX3 HY3 a2 hfew j1 j2 j3 j4 ⊢
  by_cases hcf : cc = c
  · rw [if_pos hcf] at HCL
    subst hcf
    obtain rfl : n = cc := by omega
    simp only [Nat.sub_self] at HCL
    go_region_with (first
      | (go_at_call 75; refine (HFF.out _ HB3.out.drew).mono ?_
         rintro e w4 ⟨rfl, hb4⟩
         have hb34 : Below w3.heap.size w3 w4 := (Below.refl _ _).drew.trans (hb4.mono (by simp))
         obtain ⟨c0, c1, c2⟩ := dag_cells (HX3.out.below hb34 HX3.out.1))
      | (go_at_call 67; refine (HCL.out _ (HB3.out.trans (hb34.mono HS3.out))).mono ?_
         rintro e w5 ⟨⟨A5, n5, q5⟩, ms5, rfl, ho5, hm5, hb5⟩
         have hb35 : Below w3.heap.size w3 w5 := hb34.trans (hb5.mono hb34.size)
         obtain ⟨y2, z2⟩ := (HX3.out.below hb35 HX3.out.1).2 2 _ rfl))
    all_goals
      obtain ⟨w6, hw6⟩ : ∃ w6, w6 = w5.setCell ⟨g, 2, none⟩ (.slice A5 n5 q5) := ⟨_, rfl⟩
      rw [← hw6]
      have hx6 : Box w6 g (dagC N low ⟨A5, n5, q5⟩) := by rw [hw6]; exact (HX3.out.below hb35 HX3.out.1).set (j := 2) (show 2 < 3 by decide)
      have hz6 : Box w6 (g + 1) (dagC 0 0 noAd) := by rw [hw6]; exact (HY3.out.below hb35 HY3.out.1).far (by omega)
      have t6 : Touch (fun k => k = g) w5 w6 := by rw [hw6]; exact Touch.set (F := fun k => k = g) (Touch.refl _ _) (.inl rfl) _
      have hs34 := hb34.size
      have hgw3 := HX3.out.1
      have ho6 : OwnY w4.heap.size w6 ⟨A5, n5, q5⟩ ms5 := ho5.touch t6 (fun k hk => by have e : k = g := hk; omega)
      have hb6 : Below g w w6 := (HB3.out.trans (hb35.mono HS3.out)).trans (t6.below (fun k hk => by have e : k = g := hk; omega) (by have := hb35.size; omega))
      have HO6 := Lib.hid ho6
      have HM5 := Lib.hid hm5
      have HB6 := Lib.hid hb6
      have hs6 : w4.heap.size ≤ w6.heap.size := by have := hb5.size; have := t6.size; omega
      have HS6 : Hid (g + 1 < w4.heap.size ∧ w4.heap.size ≤ w6.heap.size) := ⟨by have := HY3.out.1; omega, hs6⟩
      clear hw6 t6 ho6 ho5 hm5 hb5 hb4 hb34 hb35 hb6 y2 z2 c0 c1 c2 hs34 hgw3 hs6
      go_wp2_with (first
        | (refine wpList_load_box rfl 24 _ rfl g rfl (dagC N low ⟨A5, n5, q5⟩) hx6 _ Try.underlying24 rfl size_dag ?_)
        | (refine wpList_store_box rfl 24 _ _ rfl (g + 1) 0 (dagC N low ⟨A5, n5, q5⟩) (dagC 0 0 noAd) (dagC N low ⟨A5, n5, q5⟩) rfl rfl hz6 (show 0 + 3 ≤ 3 by decide) rfl size_dag rfl ?_))
      intro w9 by9 T9
      have t9 := T9 (fun k => k = g + 1) rfl
      obtain ⟨r0, r1, r2⟩ := dag_cells by9
      have ho9 := HO6.out.touch t9 (fun k hk => by have e : k = g + 1 := hk; have := HS6.out.1; omega)
      have hb9 : Below g w w9 := HB6.out.trans (t9.below (fun k hk => by have e : k = g + 1 := hk; omega) (by have := HS6.out; omega))
      go_wp2_with fail
      refine bodyPost_ret (v := .tuple #[dagV N low ⟨A5, n5, q5⟩, .int .i64 0]) (by simp [results, Try.results39, go_sem, r0, r1, r2, dagV]) rfl ⟨⟨A5, n5, q5⟩, ms5, rfl, ho9.more (by rw [HG.out]; have := HS6.out; omega), HM5.out, ?_⟩
      rw [HG.out]
      exact hb9
  · rw [if_neg hcf] at HCL
    go_region_with (first
      | (go_at_call 75; refine (HFF.out _ HB3.out.drew).mono ?_
         rintro e w4 ⟨rfl, hb4⟩
         have hb34 : Below w3.heap.size w3 w4 := (Below.refl _ _).drew.trans (hb4.mono (by simp))
         obtain ⟨c0, c1, c2⟩ := dag_cells (HX3.out.below hb34 HX3.out.1))
      | (go_at_call 67; refine (HCL.out _ (HB3.out.trans (hb34.mono HS3.out))).mono ?_
         rintro e w5 ⟨⟨A5, n5, q5⟩, ms5, rfl, ho5, hm5, hb5⟩
         have hb35 : Below w3.heap.size w3 w5 := hb34.trans (hb5.mono hb34.size)
         obtain ⟨y2, z2⟩ := (HX3.out.below hb35 HX3.out.1).2 2 _ rfl))
    all_goals
      obtain ⟨w6, hw6⟩ : ∃ w6, w6 = w5.setCell ⟨g, 2, none⟩ (.slice A5 n5 q5) := ⟨_, rfl⟩
      rw [← hw6]
      have hx6 : Box w6 g (dagC N low ⟨A5, n5, q5⟩) := by rw [hw6]; exact (HX3.out.below hb35 HX3.out.1).set (j := 2) (show 2 < 3 by decide)
      have hz6 : Box w6 (g + 1) (dagC 0 0 noAd) := by rw [hw6]; exact (HY3.out.below hb35 HY3.out.1).far (by omega)
      have t6 : Touch (fun k => k = g) w5 w6 := by rw [hw6]; exact Touch.set (F := fun k => k = g) (Touch.refl _ _) (.inl rfl) _
      have hs34 := hb34.size
      have hgw3 := HX3.out.1
      have ho6 : OwnY w4.heap.size w6 ⟨A5, n5, q5⟩ ms5 := ho5.touch t6 (fun k hk => by have e : k = g := hk; omega)
      have hb6 : Below g w w6 := (HB3.out.trans (hb35.mono HS3.out)).trans (t6.below (fun k hk => by have e : k = g := hk; omega) (by have := hb35.size; omega))
      have HO6 := Lib.hid ho6
      have HM5 := Lib.hid hm5
      have HB6 := Lib.hid hb6
      have hs6 : w4.heap.size ≤ w6.heap.size := by have := hb5.size; have := t6.size; omega
      have HS6 : Hid (g + 1 < w4.heap.size ∧ w4.heap.size ≤ w6.heap.size) := ⟨by have := HY3.out.1; omega, hs6⟩
      clear hw6 t6 ho6 ho5 hm5 hb5 hb4 hb34 hb35 hb6 y2 z2 c0 c1 c2 hs34 hgw3 hs6
      go_wp2_with (first
        | (refine wpList_load_box rfl 24 _ rfl g rfl (dagC N low ⟨A5, n5, q5⟩) hx6 _ Try.underlying24 rfl size_dag ?_)
        | (refine wpList_store_box rfl 24 _ _ rfl (g + 1) 0 (dagC N low ⟨A5, n5, q5⟩) (dagC 0 0 noAd) (dagC N low ⟨A5, n5, q5⟩) rfl rfl hz6 (show 0 + 3 ≤ 3 by decide) rfl size_dag rfl ?_))
      intro w9 by9 T9
      have t9 := T9 (fun k => k = g + 1) rfl
      obtain ⟨r0, r1, r2⟩ := dag_cells by9
      have ho9 := HO6.out.touch t9 (fun k hk => by have e : k = g + 1 := hk; have := HS6.out.1; omega)
      have hb9 : Below g w w9 := HB6.out.trans (t9.below (fun k hk => by have e : k = g + 1 := hk; omega) (by have := HS6.out; omega))
      go_wp2_with fail
      refine bodyPost_ret (v := .tuple #[dagV N low ⟨A5, n5, q5⟩, .int .i64 0]) (by simp [results, Try.results39, go_sem, r0, r1, r2, dagV]) rfl ⟨⟨A5, n5, q5⟩, ms5, rfl, ho9.more (by rw [HG.out]; have := HS6.out; omega), HM5.out, ?_⟩
      rw [HG.out]
      exact hb9

end Go.Proofs.Ytfldfillcmamcaa
