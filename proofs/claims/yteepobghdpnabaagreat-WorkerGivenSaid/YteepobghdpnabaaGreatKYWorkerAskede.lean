/-
 Take of both workers, messages of kind 1.
-/
import Derived.Test.YteepobghdpnabaaGreatKYWorkerAskedd
import Derived.Test.YteepobghdpnabaaGreatKDg
namespace Go.Proofs.YteepobghdpnabaaGreat
open Go.RowKit

theorem rtakeIs_1 : RTakeIs 1 := fun P a m am w h hm hfm hf hmy hk => by
 by_cases hE : takeE P m = 0
 ·have h0 := hE
  unfold takeE at h0
  split at h0
  ·rename_i hc
   exact rtake_1 P a m am w h hm hfm hf hmy hc.1 hc.2 hk
  ·exact absurd h0 (by decide)
 ·exact rtake_no P a m am w h hm hfm hf hmy hE
theorem takeIs_1 : TakeIs 1 := fun P a m am w h hm ho hfm hf hk => by
 by_cases hok : ifMay P (takeE P m) = 0
 ·exact take_held P a m am w h hm ho hfm hf hok (.inl hk)
 ·exact take_no P a m am w h hm ho hfm hf hok

end Go.Proofs.YteepobghdpnabaaGreat
namespace Go.Proofs.YteepobghdpnabaaGreat
open Go.RowKit

set_option maxRecDepth 100000 in
theorem workerAsked_walk (s : ScrZ) (w : World) (h : ScrIn w s) : Calls Tryz.prog 10 #[scrV s] w (Tells w.heap.size w (.bool true)) := by
 obtain ⟨w1, hw1⟩ : ∃ w1, w1 = w.alloc (.cells #[.int .i64 s.P.i, .int .i64 s.P.N, .int .i64 s.P.x, .slice s.a.O.A s.a.O.n s.a.O.c, .int .i64 s.P.g, .int .i64 s.P.c, .slice s.a.W.A s.a.W.n s.a.W.c, .slice s.a.H.A s.a.H.n s.a.H.c, .slice s.a.R.A s.a.R.n s.a.R.c, .slice s.A s.n s.c] 30) := ⟨_, rfl⟩
 have hb1 : Below w.heap.size w w1 := by rw [hw1]; exact (Below.refl _ _).alloc (Nat.le_refl _) _
 have bx1 : Box w1 w.heap.size (scrC s) := by rw [hw1]; exact box_new w (scrC s) 30
 have HW := Lib.hid hw1
 have HX := Lib.hid bx1
 have HI := Lib.hid (h.below hb1)
 clear hw1 bx1 h
 unfold scrV
 go_enter Tryz.func10, Tryz.ntmps10
 go_upto_region 1 with fail
 rw [← HW.out]
 go_wp2_with (refine wpList_load_box rfl 30 _ rfl w.heap.size rfl (scrC s) HX.out _ Tryz.underlying30 rfl size_scr ?_)
 refine (takes_is 1 (fun P a x w h hg hx hf hr hk => step_take 0 P a x w h hg (by decide) hx hf 1 rtakeIs_1 takeIs_1 hk hr) s _ HI.out).mono ?_
 rintro e w2 ⟨rfl, hq2⟩
 go_wp2_with fail
 go_ret
 exact ⟨rfl, hb1.trans (hq2.mono hb1.size)⟩

end Go.Proofs.YteepobghdpnabaaGreat
namespace Go.Proofs.YteepobghdpnabaaGreat
open Go.RowKit

theorem rtakeIs_3 : RTakeIs 3 := fun P a m am w h hm hfm hf hmy hk => by
 by_cases hE : takeE P m = 0
 ·have h0 := hE
  unfold takeE at h0
  split at h0
  ·rename_i hc
   exact rtake_3 P a m am w h hm hfm hf hmy hc.1 hc.2 hk
  ·exact absurd h0 (by decide)
 ·exact rtake_no P a m am w h hm hfm hf hmy hE
theorem takeIs_3 : TakeIs 3 := fun P a m am w h hm ho hfm hf hk => by
 by_cases hok : ifMay P (takeE P m) = 0
 ·exact take_held P a m am w h hm ho hfm hf hok (.inr hk)
 ·exact take_no P a m am w h hm ho hfm hf hok

end Go.Proofs.YteepobghdpnabaaGreat
namespace Go.Proofs.YteepobghdpnabaaGreat
open Go.RowKit

set_option maxRecDepth 100000 in
theorem workerGiven_walk (s : ScrZ) (w : World) (h : ScrIn w s) : Calls Tryz.prog 11 #[scrV s] w (Tells w.heap.size w (.bool true)) := by
 obtain ⟨w1, hw1⟩ : ∃ w1, w1 = w.alloc (.cells #[.int .i64 s.P.i, .int .i64 s.P.N, .int .i64 s.P.x, .slice s.a.O.A s.a.O.n s.a.O.c, .int .i64 s.P.g, .int .i64 s.P.c, .slice s.a.W.A s.a.W.n s.a.W.c, .slice s.a.H.A s.a.H.n s.a.H.c, .slice s.a.R.A s.a.R.n s.a.R.c, .slice s.A s.n s.c] 30) := ⟨_, rfl⟩
 have hb1 : Below w.heap.size w w1 := by rw [hw1]; exact (Below.refl _ _).alloc (Nat.le_refl _) _
 have bx1 : Box w1 w.heap.size (scrC s) := by rw [hw1]; exact box_new w (scrC s) 30
 have HW := Lib.hid hw1
 have HX := Lib.hid bx1
 have HI := Lib.hid (h.below hb1)
 clear hw1 bx1 h
 unfold scrV
 go_enter Tryz.func11, Tryz.ntmps11
 go_upto_region 1 with fail
 rw [← HW.out]
 go_wp2_with (refine wpList_load_box rfl 30 _ rfl w.heap.size rfl (scrC s) HX.out _ Tryz.underlying30 rfl size_scr ?_)
 refine (takes_is 3 (fun P a x w h hg hx hf hr hk => step_take 0 P a x w h hg (by decide) hx hf 3 rtakeIs_3 takeIs_3 hk hr) s _ HI.out).mono ?_
 rintro e w2 ⟨rfl, hq2⟩
 go_wp2_with fail
 go_ret
 exact ⟨rfl, hb1.trans (hq2.mono hb1.size)⟩

end Go.Proofs.YteepobghdpnabaaGreat
