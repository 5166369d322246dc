/-
  Package dag's New; the laws' waking call.
-/
import Derived.Test.YtejkeccoialogaaYAddB
import Derived.Test.YtejkeccoialogaaYHeavy
namespace Go.Proofs.Ytejkeccoialogaa
open Go.RowKit

theorem mayG_nil {n : Int} (h : mayB n = true) : MayG n 0 [] := ⟨h, by omega, by omega, by simp, fun i x hx => by simp at hx, fun x hx => by simp at hx⟩
set_option maxRecDepth 100000 in
set_option maxHeartbeats 4000000 in
theorem new_ok (n : Int) (w : World) (hm : mayB n = true) :
    Calls Try.prog 22 #[.int .i64 n] w fun e w' => e = .returned (.tuple #[dagV n 0 noAd, .int .i64 0]) ∧ Below w.heap.size w w' := by
  obtain ⟨g, hg⟩ : ∃ g, g = w.heap.size := ⟨_, rfl⟩
  obtain ⟨w1, hw1⟩ : ∃ w1, w1 = (w.alloc (.cells (dagC 0 0 noAd).toArray 24)).alloc (.cells (dagC n 0 noAd).toArray 24) := ⟨_, rfl⟩
  obtain ⟨hb1, hsz, hx0, hx1⟩ := boxes2 w _ _ _ _ hw1
  rw [← hg] at hb1 hsz hx0 hx1
  have HG : Hid (w.heap.size = g) := hg.symm
  have HW : Hid ((w.alloc (.cells #[.int .i64 0, .int .i64 0, .slice none 0 0] 24)).alloc (.cells #[.int .i64 n, .int .i64 0, .slice none 0 0] 24) = w1) := hw1.symm
  have HB := Lib.hid hb1
  have HSZ := Lib.hid hsz
  have HX0 := Lib.hid hx0
  have HX1 := Lib.hid hx1
  have HC := Lib.hid (check_ok (gIn_none w1) (mayG_nil hm))
  obtain ⟨d0, d1, d2⟩ := dag_cells hx1
  have HD : Hid (∀ wX, Below w1.heap.size w1 wX → wX.cell? ⟨g + 1, 0, none⟩ = some (.int .i64 n) ∧ wX.cell? ⟨g + 1, 1, none⟩ = some (.int .i64 0) ∧ wX.cell? ⟨g + 1, 2, none⟩ = some (.slice none 0 0)) := fun wX hb => dag_cells (HX1.out.below hb HX1.out.1)
  clear hg hw1 hb1 hsz hx0 hx1 hm
  unfold dagV at HC
  dsimp only [noAd] at d2
  have hgs := HX0.out.1
  go_enter Try.func22, Try.ntmps22
  go_upto_region 2 with fail
  rw [HG.out, HW.out]
  go_upto_region 5 with (go_at_call 21; refine HC.out.mono ?_; rintro e w2 ⟨rfl, hb2⟩; obtain ⟨e0, e1, e2⟩ := HD.out w2 hb2)
  have hy2 : Box w2 g (dagC 0 0 noAd) := HX0.out.below hb2 hgs
  have hy3 : Box w2 (g + 1) (dagC n 0 noAd) := HX1.out.below hb2 HX1.out.1
  go_wp2_with (first
    | (refine wpList_load_box rfl 24 _ rfl (g + 1) rfl (dagC n 0 noAd) hy3 _ Try.underlying24 rfl size_dag ?_)
    | (refine wpList_store_box rfl 24 _ _ rfl g 0 (dagC n 0 noAd) (dagC 0 0 noAd) (dagC n 0 noAd) rfl rfl hy2 (show 0 + 3 ≤ 3 by decide) rfl size_dag rfl ?_))
  intro w9 by9 T9
  have t9 := T9 (fun k => k = g) rfl
  obtain ⟨r0, r1, r2⟩ := dag_cells by9
  have hb9 : Below g w w9 := (HB.out.trans (hb2.mono (Nat.le_of_lt hgs))).trans (t9.below (fun k hk => by have e : k = g := hk; omega) (by have := hb2.size; omega))
  go_wp2_with fail
  refine bodyPost_ret (v := .tuple #[dagV n 0 noAd, .int .i64 0]) (by simp [results, Try.results22, go_sem, r0, r1, r2, dagV, noAd]) rfl ⟨rfl, ?_⟩
  rw [HG.out]
  exact hb9
set_option maxRecDepth 100000 in
set_option maxHeartbeats 4000000 in
theorem new_bad (n : Int) (w : World) (hm : mayB n = false) :
    Calls Try.prog 22 #[.int .i64 n] w (AddErr 1 w) := by
  obtain ⟨g, hg⟩ : ∃ g, g = w.heap.size := ⟨_, rfl⟩
  obtain ⟨w1, hw1⟩ : ∃ w1, w1 = (w.alloc (.cells (dagC 0 0 noAd).toArray 24)).alloc (.cells (dagC n 0 noAd).toArray 24) := ⟨_, rfl⟩
  obtain ⟨hb1, hsz, hx0, hx1⟩ := boxes2 w _ _ _ _ hw1
  rw [← hg] at hb1 hsz hx0 hx1
  have HG : Hid (w.heap.size = g) := hg.symm
  have HW : Hid ((w.alloc (.cells #[.int .i64 0, .int .i64 0, .slice none 0 0] 24)).alloc (.cells #[.int .i64 n, .int .i64 0, .slice none 0 0] 24) = w1) := hw1.symm
  have HB := Lib.hid hb1
  have HX0 := Lib.hid hx0
  have HC := Lib.hid (check_bad (gIn_none w1) (fun h : MayG n 0 [] => by have := h.n; rw [hm] at this; cases this))
  obtain ⟨d0, d1, d2⟩ := dag_cells hx1
  clear hg hw1 hb1 hsz hx0 hx1 hm
  unfold dagV at HC
  dsimp only [noAd] at d2
  have hgs := HX0.out.1
  go_enter Try.func22, Try.ntmps22
  go_upto_region 2 with fail
  rw [HG.out, HW.out]
  go_upto_region 4 with (go_at_call 21; refine HC.out.mono ?_; rintro e w2 ⟨rfl, hb2⟩)
  have hy2 : Box w2 g (dagC 0 0 noAd) := HX0.out.below hb2 hgs
  go_wp2_with (refine wpList_store_box rfl 24 _ _ rfl g 0 (dagC 0 0 noAd) (dagC 0 0 noAd) (dagC 0 0 noAd) rfl rfl hy2 (show 0 + 3 ≤ 3 by decide) rfl size_dag rfl ?_)
  intro w9 by9 T9
  have t9 := T9 (fun k => k = g) rfl
  obtain ⟨r0, r1, r2⟩ := dag_cells by9
  have hb9 : Below g w w9 := (HB.out.trans (hb2.mono (Nat.le_of_lt hgs))).trans (t9.below (fun k hk => by have e : k = g := hk; omega) (by have := hb2.size; omega))
  go_wp2_with fail
  refine bodyPost_ret (v := .tuple #[dagV 0 0 noAd, .int .i64 1]) (by simp [results, Try.results22, go_sem, r0, r1, r2, dagV, noAd]) rfl ⟨rfl, ?_⟩
  rw [HG.out]
  exact hb9

def wakeC : CrtD := ⟨1, 1, [], [], 3, [1]⟩
theorem wake_ok : chkC 1 0 wakeC = 0 := by decide +kernel
theorem wake_in (w : World) : CIn (w.alloc (.cells #[.int .i64 1] 3)) wakeC ⟨noAd, noAd, ⟨some ⟨w.heap.size, 0, none⟩, 1, 1⟩⟩ :=
  ⟨slIn_none _, slIn_none _, ⟨rfl, Nat.le_refl _, by simp [maxLen], rd_new w [.int .i64 1] 3⟩⟩
theorem wake_fit : CrtFit wakeC := by
  have h1 : I64 1 := by unfold I64; omega
  have h3 : I64 3 := by unfold I64; omega
  exact ⟨h1, h1, h3, i64s_nil, i64s_nil, fun x hx => by simp [wakeC] at hx; rw [hx]; exact h1, by simp [wakeC], by simp [wakeC], by simp [wakeC]⟩
set_option maxRecDepth 100000 in
set_option maxHeartbeats 4000000 in
theorem wakesY_any (w : World) : Calls Try.prog 20 #[] w fun e w' => e = .returned (.bool true) ∧ Below w.heap.size w w' := by
  go_enter Try.func20, Try.ntmps20
  go_upto_region 2 with (go_at_call 22; refine (new_ok 1 _ (by decide)).mono ?_; rintro e w1 ⟨rfl, hb1⟩; dsimp only [dagV, noAd])
  obtain ⟨w2, hw2⟩ : ∃ w2, w2 = w1.alloc (.cells (dagC 1 0 noAd).toArray 24) := ⟨_, rfl⟩
  obtain ⟨hb2, hs2, hx2⟩ := boxes1 w1 _ _ hw2
  have HW2 : Hid (w1.alloc (.cells #[.int .i64 1, .int .i64 0, .slice none 0 0] 24) = w2) := hw2.symm
  rw [HW2.out]
  have hbw2 := hb1.trans (hb2.mono hb1.size)
  obtain ⟨d0, d1, d2⟩ := dag_cells hx2
  dsimp only [noAd] at d2
  have hb3 : Below w2.heap.size w2 (w2.alloc (.cells #[.int .i64 1] 3)) := (Below.refl _ _).alloc (Nat.le_refl _) _
  have hx3 : Box (w2.alloc (.cells #[.int .i64 1] 3)) w1.heap.size (dagC 1 0 noAd) := hx2.below hb3 hx2.1
  have HADD := Lib.hid (add_ok 1 0 noAd [] wakeC ⟨noAd, noAd, ⟨some ⟨w2.heap.size, 0, none⟩, 1, 1⟩⟩ (w2.alloc (.cells #[.int .i64 1] 3)) (gIn_none _) (mayG_nil (by decide)) (wake_in w2) wake_fit wake_ok rfl rfl rfl)
  have HX3 := Lib.hid hx3
  have HB3 := Lib.hid (hbw2.trans (hb3.mono hbw2.size))
  have HS1 := Lib.hid hb1.size
  clear hw2 hb2 hs2 hx2 HW2 hx3 hb3 hb1 hbw2
  unfold dagV crtV at HADD
  dsimp only [noAd, wakeC] at HADD
  go_wp2_with (first
    | (go_at_call 15; refine HADD.out.mono ?_; rintro e w4 ⟨o4, ms4, rfl, ho4, hm4, hb4⟩; dsimp only [dagV]; have hx4 := HX3.out.below hb4 HX3.out.1)
    | (refine wpList_store_box rfl 24 _ _ rfl w1.heap.size 0 (dagC 1 0 o4) (dagC 1 0 noAd) (dagC 1 0 o4) rfl rfl hx4 (show 0 + 3 ≤ 3 by decide) rfl size_dag rfl ?_))
  intro w5 by5 T5
  have t5 := T5 (fun k => k = w1.heap.size) rfl
  obtain ⟨r0, r1, r2⟩ := dag_cells by5
  have hn4 : o4.n = 1 := by
    rw [← ho4.len, ← List.length_map (f := Prod.fst), hm4]
    rfl
  rw [hn4] at r2
  have hb14 := HB3.out.trans (hb4.mono HB3.out.size)
  have hb5 : Below w.heap.size w w5 := hb14.trans (t5.below (fun k hk => by have e : k = w1.heap.size := hk; have := HS1.out; omega) hb14.size)
  have HB5 := Lib.hid hb5
  clear hb5 hb14 t5 T5 by5 hx4 hn4 ho4 hm4 hb4 d0 d1 d2
  go_wp2_with (go_at_call 16; refine (numY_any _ _).mono ?_; rintro e w6 ⟨rfl, rfl⟩)
  go_ret
  exact ⟨rfl, HB5.out⟩

end Go.Proofs.Ytejkeccoialogaa
