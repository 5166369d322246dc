/-
  The eight statements on one kind each.
-/
import Derived.Test.YtcfnomnhameleaaROnly
namespace Go.Proofs.Ytcfnomnhameleaa
open Go.RowKit

set_option maxRecDepth 100000 in
theorem realBatches_walk {I : BookIs} (K : BookK I) (R : RContracts I) (s : ScrD) (w : World) (h : ScrIn w s) : Calls Try.prog 6 #[scrV s] w (Tells w.heap.size w (.bool true)) := by
  obtain ⟨w1, hw1⟩ : ∃ w1, w1 = w.alloc (.cells #[.int .i64 s.N, .slice s.Al s.nl s.cl, .slice s.AM s.nM s.cM, .slice s.AP s.nP s.cP, .slice s.AW s.nW s.cW, .slice s.AX s.nX s.cX] 26) := ⟨_, rfl⟩
  have hb1 : Below w.heap.size w w1 := by rw [hw1]; exact (Below.refl _ _).alloc (Nat.le_refl _) _
  have bx1 : Box w1 w.heap.size (scrC s) := by rw [hw1]; exact box_new w (scrC s) 26
  have HW := Lib.hid hw1
  have HX := Lib.hid bx1
  have HI := Lib.hid (h.below hb1)
  clear hw1 bx1 h
  unfold scrV
  go_enter Try.func6, Try.ntmps6
  go_upto_region 1 with fail
  rw [← HW.out]
  go_wp2_with (refine wpList_load_box rfl 26 _ rfl w.heap.size rfl (scrC s) HX.out _ Try.underlying26 rfl size_scr ?_)
  refine (only_is K R 1 s _ HI.out).mono ?_
  rintro e w2 ⟨rfl, hq2⟩
  go_wp2_with fail
  go_ret
  exact ⟨rfl, hb1.trans (hq2.mono hb1.size)⟩

set_option maxRecDepth 100000 in
theorem realGives_walk {I : BookIs} (K : BookK I) (R : RContracts I) (s : ScrD) (w : World) (h : ScrIn w s) : Calls Try.prog 7 #[scrV s] w (Tells w.heap.size w (.bool true)) := by
  obtain ⟨w1, hw1⟩ : ∃ w1, w1 = w.alloc (.cells #[.int .i64 s.N, .slice s.Al s.nl s.cl, .slice s.AM s.nM s.cM, .slice s.AP s.nP s.cP, .slice s.AW s.nW s.cW, .slice s.AX s.nX s.cX] 26) := ⟨_, rfl⟩
  have hb1 : Below w.heap.size w w1 := by rw [hw1]; exact (Below.refl _ _).alloc (Nat.le_refl _) _
  have bx1 : Box w1 w.heap.size (scrC s) := by rw [hw1]; exact box_new w (scrC s) 26
  have HW := Lib.hid hw1
  have HX := Lib.hid bx1
  have HI := Lib.hid (h.below hb1)
  clear hw1 bx1 h
  unfold scrV
  go_enter Try.func7, Try.ntmps7
  go_upto_region 1 with fail
  rw [← HW.out]
  go_wp2_with (refine wpList_load_box rfl 26 _ rfl w.heap.size rfl (scrC s) HX.out _ Try.underlying26 rfl size_scr ?_)
  refine (only_is K R 3 s _ HI.out).mono ?_
  rintro e w2 ⟨rfl, hq2⟩
  go_wp2_with fail
  go_ret
  exact ⟨rfl, hb1.trans (hq2.mono hb1.size)⟩

set_option maxRecDepth 100000 in
theorem realTells_walk {I : BookIs} (K : BookK I) (R : RContracts I) (s : ScrD) (w : World) (h : ScrIn w s) : Calls Try.prog 8 #[scrV s] w (Tells w.heap.size w (.bool true)) := by
  obtain ⟨w1, hw1⟩ : ∃ w1, w1 = w.alloc (.cells #[.int .i64 s.N, .slice s.Al s.nl s.cl, .slice s.AM s.nM s.cM, .slice s.AP s.nP s.cP, .slice s.AW s.nW s.cW, .slice s.AX s.nX s.cX] 26) := ⟨_, rfl⟩
  have hb1 : Below w.heap.size w w1 := by rw [hw1]; exact (Below.refl _ _).alloc (Nat.le_refl _) _
  have bx1 : Box w1 w.heap.size (scrC s) := by rw [hw1]; exact box_new w (scrC s) 26
  have HW := Lib.hid hw1
  have HX := Lib.hid bx1
  have HI := Lib.hid (h.below hb1)
  clear hw1 bx1 h
  unfold scrV
  go_enter Try.func8, Try.ntmps8
  go_upto_region 1 with fail
  rw [← HW.out]
  go_wp2_with (refine wpList_load_box rfl 26 _ rfl w.heap.size rfl (scrC s) HX.out _ Try.underlying26 rfl size_scr ?_)
  refine (only_is K R 2 s _ HI.out).mono ?_
  rintro e w2 ⟨rfl, hq2⟩
  go_wp2_with fail
  go_ret
  exact ⟨rfl, hb1.trans (hq2.mono hb1.size)⟩

set_option maxRecDepth 100000 in
theorem realVotes_walk {I : BookIs} (K : BookK I) (R : RContracts I) (s : ScrD) (w : World) (h : ScrIn w s) : Calls Try.prog 9 #[scrV s] w (Tells w.heap.size w (.bool true)) := by
  obtain ⟨w1, hw1⟩ : ∃ w1, w1 = w.alloc (.cells #[.int .i64 s.N, .slice s.Al s.nl s.cl, .slice s.AM s.nM s.cM, .slice s.AP s.nP s.cP, .slice s.AW s.nW s.cW, .slice s.AX s.nX s.cX] 26) := ⟨_, rfl⟩
  have hb1 : Below w.heap.size w w1 := by rw [hw1]; exact (Below.refl _ _).alloc (Nat.le_refl _) _
  have bx1 : Box w1 w.heap.size (scrC s) := by rw [hw1]; exact box_new w (scrC s) 26
  have HW := Lib.hid hw1
  have HX := Lib.hid bx1
  have HI := Lib.hid (h.below hb1)
  clear hw1 bx1 h
  unfold scrV
  go_enter Try.func9, Try.ntmps9
  go_upto_region 1 with fail
  rw [← HW.out]
  go_wp2_with (refine wpList_load_box rfl 26 _ rfl w.heap.size rfl (scrC s) HX.out _ Try.underlying26 rfl size_scr ?_)
  refine (only_is K R 5 s _ HI.out).mono ?_
  rintro e w2 ⟨rfl, hq2⟩
  go_wp2_with fail
  go_ret
  exact ⟨rfl, hb1.trans (hq2.mono hb1.size)⟩

set_option maxRecDepth 100000 in
theorem realHeaders_walk {I : BookIs} (K : BookK I) (R : RContracts I) (s : ScrD) (w : World) (h : ScrIn w s) : Calls Try.prog 10 #[scrV s] w (Tells w.heap.size w (.bool true)) := by
  obtain ⟨w1, hw1⟩ : ∃ w1, w1 = w.alloc (.cells #[.int .i64 s.N, .slice s.Al s.nl s.cl, .slice s.AM s.nM s.cM, .slice s.AP s.nP s.cP, .slice s.AW s.nW s.cW, .slice s.AX s.nX s.cX] 26) := ⟨_, rfl⟩
  have hb1 : Below w.heap.size w w1 := by rw [hw1]; exact (Below.refl _ _).alloc (Nat.le_refl _) _
  have bx1 : Box w1 w.heap.size (scrC s) := by rw [hw1]; exact box_new w (scrC s) 26
  have HW := Lib.hid hw1
  have HX := Lib.hid bx1
  have HI := Lib.hid (h.below hb1)
  clear hw1 bx1 h
  unfold scrV
  go_enter Try.func10, Try.ntmps10
  go_upto_region 1 with fail
  rw [← HW.out]
  go_wp2_with (refine wpList_load_box rfl 26 _ rfl w.heap.size rfl (scrC s) HX.out _ Try.underlying26 rfl size_scr ?_)
  refine (only_is K R 4 s _ HI.out).mono ?_
  rintro e w2 ⟨rfl, hq2⟩
  go_wp2_with fail
  go_ret
  exact ⟨rfl, hb1.trans (hq2.mono hb1.size)⟩

set_option maxRecDepth 100000 in
theorem realCerts_walk {I : BookIs} (K : BookK I) (R : RContracts I) (s : ScrD) (w : World) (h : ScrIn w s) : Calls Try.prog 11 #[scrV s] w (Tells w.heap.size w (.bool true)) := by
  obtain ⟨w1, hw1⟩ : ∃ w1, w1 = w.alloc (.cells #[.int .i64 s.N, .slice s.Al s.nl s.cl, .slice s.AM s.nM s.cM, .slice s.AP s.nP s.cP, .slice s.AW s.nW s.cW, .slice s.AX s.nX s.cX] 26) := ⟨_, rfl⟩
  have hb1 : Below w.heap.size w w1 := by rw [hw1]; exact (Below.refl _ _).alloc (Nat.le_refl _) _
  have bx1 : Box w1 w.heap.size (scrC s) := by rw [hw1]; exact box_new w (scrC s) 26
  have HW := Lib.hid hw1
  have HX := Lib.hid bx1
  have HI := Lib.hid (h.below hb1)
  clear hw1 bx1 h
  unfold scrV
  go_enter Try.func11, Try.ntmps11
  go_upto_region 1 with fail
  rw [← HW.out]
  go_wp2_with (refine wpList_load_box rfl 26 _ rfl w.heap.size rfl (scrC s) HX.out _ Try.underlying26 rfl size_scr ?_)
  refine (only_is K R 6 s _ HI.out).mono ?_
  rintro e w2 ⟨rfl, hq2⟩
  go_wp2_with fail
  go_ret
  exact ⟨rfl, hb1.trans (hq2.mono hb1.size)⟩

set_option maxRecDepth 100000 in
theorem realWants_walk {I : BookIs} (K : BookK I) (R : RContracts I) (s : ScrD) (w : World) (h : ScrIn w s) : Calls Try.prog 12 #[scrV s] w (Tells w.heap.size w (.bool true)) := by
  obtain ⟨w1, hw1⟩ : ∃ w1, w1 = w.alloc (.cells #[.int .i64 s.N, .slice s.Al s.nl s.cl, .slice s.AM s.nM s.cM, .slice s.AP s.nP s.cP, .slice s.AW s.nW s.cW, .slice s.AX s.nX s.cX] 26) := ⟨_, rfl⟩
  have hb1 : Below w.heap.size w w1 := by rw [hw1]; exact (Below.refl _ _).alloc (Nat.le_refl _) _
  have bx1 : Box w1 w.heap.size (scrC s) := by rw [hw1]; exact box_new w (scrC s) 26
  have HW := Lib.hid hw1
  have HX := Lib.hid bx1
  have HI := Lib.hid (h.below hb1)
  clear hw1 bx1 h
  unfold scrV
  go_enter Try.func12, Try.ntmps12
  go_upto_region 1 with fail
  rw [← HW.out]
  go_wp2_with (refine wpList_load_box rfl 26 _ rfl w.heap.size rfl (scrC s) HX.out _ Try.underlying26 rfl size_scr ?_)
  refine (only_is K R 7 s _ HI.out).mono ?_
  rintro e w2 ⟨rfl, hq2⟩
  go_wp2_with fail
  go_ret
  exact ⟨rfl, hb1.trans (hq2.mono hb1.size)⟩

set_option maxRecDepth 100000 in
theorem realSeeks_walk {I : BookIs} (K : BookK I) (R : RContracts I) (s : ScrD) (w : World) (h : ScrIn w s) : Calls Try.prog 13 #[scrV s] w (Tells w.heap.size w (.bool true)) := by
  obtain ⟨w1, hw1⟩ : ∃ w1, w1 = w.alloc (.cells #[.int .i64 s.N, .slice s.Al s.nl s.cl, .slice s.AM s.nM s.cM, .slice s.AP s.nP s.cP, .slice s.AW s.nW s.cW, .slice s.AX s.nX s.cX] 26) := ⟨_, rfl⟩
  have hb1 : Below w.heap.size w w1 := by rw [hw1]; exact (Below.refl _ _).alloc (Nat.le_refl _) _
  have bx1 : Box w1 w.heap.size (scrC s) := by rw [hw1]; exact box_new w (scrC s) 26
  have HW := Lib.hid hw1
  have HX := Lib.hid bx1
  have HI := Lib.hid (h.below hb1)
  clear hw1 bx1 h
  unfold scrV
  go_enter Try.func13, Try.ntmps13
  go_upto_region 1 with fail
  rw [← HW.out]
  go_wp2_with (refine wpList_load_box rfl 26 _ rfl w.heap.size rfl (scrC s) HX.out _ Try.underlying26 rfl size_scr ?_)
  refine (only_is K R 8 s _ HI.out).mono ?_
  rintro e w2 ⟨rfl, hq2⟩
  go_wp2_with fail
  go_ret
  exact ⟨rfl, hb1.trans (hq2.mono hb1.size)⟩

end Go.Proofs.Ytcfnomnhameleaa
