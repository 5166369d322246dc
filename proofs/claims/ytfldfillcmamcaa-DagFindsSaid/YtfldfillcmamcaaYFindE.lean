/-
  Package dag's Find: what is refused.
-/
import Derived.Test.YtfldfillcmamcaaYPar
namespace Go.Proofs.Ytfldfillcmamcaa
open Go.RowKit

set_option maxRecDepth 100000 in
set_option maxHeartbeats 8000000 in
theorem find_bad (N L p : Int) (o : Ad) (l : List CrtD) (w : World) (h : GIn w o l) (hm : ¬ MayG N L l) :
    Calls Try.prog 28 #[dagV N L o, .int .i64 p] w (FindErr 1 w) := by
  obtain ⟨g, hg⟩ : ∃ g, g = w.heap.size := ⟨_, rfl⟩
  obtain ⟨w1, hw1⟩ : ∃ w1, w1 = ((w.alloc (.cells (dagC N L o).toArray 24)).alloc (.cells (crtC zeroC6 zeroCA).toArray 45)) := ⟨_, rfl⟩
  obtain ⟨hb1, hsz, hx0, hx1⟩ := boxes2 w _ _ _ _ hw1
  rw [← hg] at hb1 hsz hx0 hx1
  have HG : Hid (w.heap.size = g) := hg.symm
  have HW : Hid (((w.alloc (.cells #[.int .i64 N, .int .i64 L, .slice o.A o.n o.c] 24)).alloc (.cells #[.int .i64 0, .int .i64 0, .slice none 0 0, .slice none 0 0, .int .i64 0, .slice none 0 0] 45)) = w1) := hw1.symm
  have HIN : Hid (∀ wX, Below g w wX → GIn wX o l) := fun wX hb => h.below (by rw [← hg]; exact hb)
  have HB := Lib.hid hb1
  have HX1 := Lib.hid hx1
  have HC := Lib.hid (check_bad (HIN.out _ hb1) hm)
  have hgs := hx0.1
  obtain ⟨d10, d11, d12⟩ := dag_cells hx0
  clear hg hw1 hb1 hsz hx0 hx1 h hm
  unfold dagV at HC ⊢
  go_enter Try.func28, Try.ntmps28
  go_upto_region 1 with fail
  rw [HG.out, HW.out]
  go_upto_region 3 with (go_at_call 16; refine HC.out.mono ?_; rintro e w2 ⟨rfl, hb2⟩)
  go_wp2_with (first
    | (refine wpList_store_box rfl 45 _ _ rfl (g + 1) 0 (crtC zeroC6 zeroCA) (crtC zeroC6 zeroCA) (crtC zeroC6 zeroCA) rfl rfl (HX1.out.below hb2 HX1.out.1) (show 0 + 6 ≤ 6 by decide) rfl size_crt rfl ?_))
  intro w9 by9 T9
  have t9 := T9 (fun k => k = g + 1) rfl
  obtain ⟨r0, r1, r2, r3, r4, r5⟩ := crt_cells by9
  have hb9 : Below g w w9 := (HB.out.trans (hb2.mono (Nat.le_of_lt hgs))).trans (t9.below (fun k hk => by have e : k = g + 1 := hk; omega) (by have := hb2.size; omega))
  go_wp2_with fail
  refine bodyPost_ret (v := .tuple #[crtV zeroC6 zeroCA, .int .i64 1]) (by simp [results, Try.results28, go_sem, r0, r1, r2, r3, r4, r5, crtV]) rfl ⟨rfl, ?_⟩
  rw [HG.out]; exact hb9

set_option maxRecDepth 100000 in
set_option maxHeartbeats 8000000 in
theorem find_none (N L p : Int) (o : Ad) (l : List CrtD) (w : World) (h : GIn w o l) (hm : MayG N L l) (hx : l[cutF (neD p) l]? = none) :
    Calls Try.prog 28 #[dagV N L o, .int .i64 p] w (FindErr 3 w) := by
  obtain ⟨g, hg⟩ : ∃ g, g = w.heap.size := ⟨_, rfl⟩
  obtain ⟨w1, hw1⟩ : ∃ w1, w1 = ((w.alloc (.cells (dagC N L o).toArray 24)).alloc (.cells (crtC zeroC6 zeroCA).toArray 45)) := ⟨_, rfl⟩
  obtain ⟨hb1, hsz, hx0, hx1⟩ := boxes2 w _ _ _ _ hw1
  rw [← hg] at hb1 hsz hx0 hx1
  have HG : Hid (w.heap.size = g) := hg.symm
  have HW : Hid (((w.alloc (.cells #[.int .i64 N, .int .i64 L, .slice o.A o.n o.c] 24)).alloc (.cells #[.int .i64 0, .int .i64 0, .slice none 0 0, .slice none 0 0, .int .i64 0, .slice none 0 0] 45)) = w1) := hw1.symm
  have HIN : Hid (∀ wX, Below g w wX → GIn wX o l) := fun wX hb => h.below (by rw [← hg]; exact hb)
  have HB := Lib.hid hb1
  have HX0 := Lib.hid hx0
  have HX1 := Lib.hid hx1
  have HC := Lib.hid (check_ok (HIN.out _ hb1) hm)
  have HD : Hid (∀ wX, Below w1.heap.size w1 wX → wX.cell? ⟨g, 2, none⟩ = some (.slice o.A o.n o.c)) := fun wX hb => (dag_cells (HX0.out.below hb HX0.out.1)).2.2
  obtain ⟨z, hz⟩ : ∃ z, z = idxF (neD p) l := ⟨_, rfl⟩
  have hneg : z < 0 := by rw [hz]; exact idxF_neg.2 hx
  have HF : Hid (∀ wX, Below g w wX → Calls Try.prog 70 #[.slice o.A o.n o.c, .int .i64 p] wX fun e w' => e = .returned (.int .i64 z) ∧ Below wX.heap.size wX w') := fun wX hb => by
    rw [hz]; exact findDigest_is p o l wX (HIN.out wX hb)
  have hgs := hx0.1
  obtain ⟨d10, d11, d12⟩ := dag_cells hx0
  clear hg hw1 hb1 hsz hx0 hx1 h hm hx hz
  unfold dagV at HC ⊢
  go_enter Try.func28, Try.ntmps28
  go_upto_region 1 with fail
  rw [HG.out, HW.out]
  go_upto_region 4 with (go_at_call 16; refine HC.out.mono ?_; rintro e w2 ⟨rfl, hb2⟩)
  have d2 := HD.out w2 hb2
  have hbb2 := HB.out.trans (hb2.mono (Nat.le_of_lt hgs))
  clear d10 d11 d12
  go_upto_region 6 with (go_at_call 70; refine (HF.out _ hbb2).mono ?_; rintro e w3 ⟨rfl, hb3⟩)
  have hb13 := hb2.trans (hb3.mono hb2.size)
  have hbb3 := HB.out.trans (hb13.mono (Nat.le_of_lt hgs))
  go_wp2_with (first
    | (refine wpList_store_box rfl 45 _ _ rfl (g + 1) 0 (crtC zeroC6 zeroCA) (crtC zeroC6 zeroCA) (crtC zeroC6 zeroCA) rfl rfl (HX1.out.below hb13 HX1.out.1) (show 0 + 6 ≤ 6 by decide) rfl size_crt rfl ?_))
  intro w9 by9 T9
  have t9 := T9 (fun k => k = g + 1) rfl
  obtain ⟨r0, r1, r2, r3, r4, r5⟩ := crt_cells by9
  have hb9 : Below g w w9 := hbb3.trans (t9.below (fun k hk => by have e : k = g + 1 := hk; omega) (by have := hb13.size; omega))
  go_wp2_with fail
  refine bodyPost_ret (v := .tuple #[crtV zeroC6 zeroCA, .int .i64 3]) (by simp [results, Try.results28, go_sem, r0, r1, r2, r3, r4, r5, crtV]) rfl ⟨rfl, ?_⟩
  rw [HG.out]; exact hb9

end Go.Proofs.Ytfldfillcmamcaa
