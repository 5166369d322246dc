/-
 The page's Take: what is refused.
-/
import Derived.Test.YteepobghdpnabaaGreatKDd
import Derived.Test.YteepobghdpnabaaGreatKBag
import Derived.Test.YteepobghdpnabaaGreatKDh
namespace Go.Proofs.YteepobghdpnabaaGreat
open Go.RowKit

set_option maxRecDepth 100000 in
set_option maxHeartbeats 16000000 in
theorem rtake_no (P : WkD) (a : WkA) (m : MsgD) (am : MsgA) (w : World) (h : WIn w P a) (hm : MsgIn w m am) (hfm : MsgFew 1000000 am) (hf : WFew P 300000) (hmy : mayW P = true) (hne : takeE P m ≠ 0) : Calls Tryz.prog 54 #[wkV P a, msgV m am] w (StTo2 (takeW P m) (takeO P m) (takeE P m) w) := by
 obtain ⟨g, hg⟩ : ∃ g, g = w.heap.size := ⟨_, rfl⟩
 obtain ⟨wa0, hwa0⟩ : ∃ wa0, wa0 = w.alloc (.cells #[.int .i64 P.i, .int .i64 P.N, .int .i64 P.x, .slice a.O.A a.O.n a.O.c, .int .i64 P.g, .int .i64 P.c, .slice a.W.A a.W.n a.W.c, .slice a.H.A a.H.n a.H.c, .slice a.R.A a.R.n a.R.c] 27) := ⟨_, rfl⟩
 have hs0 : wa0.heap.size = g + 1 := by rw [hwa0]; simp; omega
 have bn0 : Box wa0 (g) (wkC P a) := by rw [hwa0, hg]; exact box_new w (wkC P a) 27
 have hb0 : Below g w wa0 := by rw [hwa0]; exact (Below.refl _ _).alloc (by omega) _
 obtain ⟨wa1, hwa1⟩ : ∃ wa1, wa1 = wa0.alloc (.cells #[.int .i64 m.k, .int .i64 m.f, .int .i64 m.t, .int .i64 m.d, .int .i64 m.ba, .int .i64 m.bn, .slice am.AL am.nL am.cL, .int .i64 m.ha, .int .i64 m.hr, .slice am.AhB am.nhB am.chB, .slice am.AhP am.nhP am.chP, .int .i64 m.ca, .int .i64 m.cr, .slice am.AcB am.ncB am.ccB, .slice am.AcP am.ncP am.ccP, .int .i64 m.cd, .slice am.AcS am.ncS am.ccS, .slice am.AD am.nD am.cD] 48) := ⟨_, rfl⟩
 have hs1 : wa1.heap.size = g + 2 := by rw [hwa1]; simp; omega
 have bn1 : Box wa1 (g + 1) (msgC m am) := by rw [hwa1, ← hs0]; exact box_new wa0 (msgC m am) 48
 have hb1 : Below g w wa1 := by rw [hwa1]; exact hb0.alloc (by omega) _
 have HX0 : Hid (Box wa1 (g) (wkC P a)) := (bn0.below (show Below wa0.heap.size wa0 wa1 by rw [hwa1]; exact (Below.refl _ _).alloc (Nat.le_refl _) _) (by omega))
 have HX1 : Hid (Box wa1 (g + 1) (msgC m am)) := bn1
 obtain ⟨w0, hw0⟩ : ∃ w0, w0 = wa1 := ⟨_, rfl⟩
 rw [← hw0] at HX0
 rw [← hw0] at HX1
 have hsz0 : w0.heap.size = g + 2 := by rw [hw0]; exact hs1
 have hb0w : Below g w w0 := by rw [hw0]; exact hb1
 have HW0 : Hid ((w.alloc (.cells #[.int .i64 P.i, .int .i64 P.N, .int .i64 P.x, .slice a.O.A a.O.n a.O.c, .int .i64 P.g, .int .i64 P.c, .slice a.W.A a.W.n a.W.c, .slice a.H.A a.H.n a.H.c, .slice a.R.A a.R.n a.R.c] 27)).alloc (.cells #[.int .i64 m.k, .int .i64 m.f, .int .i64 m.t, .int .i64 m.d, .int .i64 m.ba, .int .i64 m.bn, .slice am.AL am.nL am.cL, .int .i64 m.ha, .int .i64 m.hr, .slice am.AhB am.nhB am.chB, .slice am.AhP am.nhP am.chP, .int .i64 m.ca, .int .i64 m.cr, .slice am.AcB am.ncB am.ccB, .slice am.AcP am.ncP am.ccP, .int .i64 m.cd, .slice am.AcS am.ncS am.ccS, .slice am.AD am.nD am.cD] 48) = w0) := by show (w.alloc (.cells #[.int .i64 P.i, .int .i64 P.N, .int .i64 P.x, .slice a.O.A a.O.n a.O.c, .int .i64 P.g, .int .i64 P.c, .slice a.W.A a.W.n a.W.c, .slice a.H.A a.H.n a.H.c, .slice a.R.A a.R.n a.R.c] 27)).alloc (.cells #[.int .i64 m.k, .int .i64 m.f, .int .i64 m.t, .int .i64 m.d, .int .i64 m.ba, .int .i64 m.bn, .slice am.AL am.nL am.cL, .int .i64 m.ha, .int .i64 m.hr, .slice am.AhB am.nhB am.chB, .slice am.AhP am.nhP am.chP, .int .i64 m.ca, .int .i64 m.cr, .slice am.AcB am.ncB am.ccB, .slice am.AcP am.ncP am.ccP, .int .i64 m.cd, .slice am.AcS am.ncS am.ccS, .slice am.AD am.nD am.cD] 48) = w0; rw [hw0, hwa1, hwa0]
 have HG : Hid (w.heap.size = g) := hg.symm
 have HS0 := Lib.hid hsz0
 have HB0 := Lib.hid hb0w
 have hl0 : g < w0.heap.size := by omega
 have hl1 : g + 1 < w0.heap.size := by omega
 have hgw : g ≤ w0.heap.size := by omega
 have hin0 := h.below' HB0.out HG.out
 have HIN : Hid (∀ wX, Below w0.heap.size w0 wX → WIn wX P a) := by show ∀ wX, _; exact fun wX hX => hin0.below hX
 have HMI : Hid (∀ wX, Below g w wX → MsgIn wX m am) := by show ∀ wX, _; exact fun wX hX => hm.below (by rw [HG.out]; exact hX)
 have HF := Lib.hid hf
 have HMW := Lib.hid (mayW_iff.1 hmy)
 have HFM := Lib.hid hfm
 have HMC : Hid (∀ b, messB m P.N = b → ∀ wX, Below g w wX → Calls Tryz.prog 97 #[msgV m am, .int .i64 P.N] wX (Tells wX.heap.size wX (.bool b))) := by
  show ∀ b, _
  exact fun b hb wX hX => rmsg_is b m am P.N wX hb (HMI.out wX hX) HFM.out
 clear hg hsz0 hb0w hw0 hwa0 hs0 bn0 hb0 hwa1 hs1 bn1 hb1
 clear hin0 h hm hfm hf hmy
 unfold wkV Ad.v msgV
 cases hmb : messB m P.N with
 | false =>
  have HE : Hid (takeE P m = 1) := by show _ = _; rw [takeE, if_neg (by rw [hmb]; simp)]
  rw [HE.out]
  have HMB := Lib.hid hmb
  clear hmb hne
  go_enter Tryz.func54, Tryz.ntmps54
  go_upto_region 1 with fail
  rw [HG.out, HW0.out]
  go_upto_region 2 with (first
   | (refine wpList_load_box rfl 27 _ rfl g rfl (wkC P a) (HX0.out) _ Tryz.underlying27 rfl size_wk ?_)
   | (go_at_call 15; refine (rcopyWk_any P a w0 (HIN.out _ (Below.refl _ _)) (HF.out.more (by decide))).mono ?_; rintro e w4 ⟨a4, rfl, hn4, hb4⟩; dsimp only [wkV, Ad.v]))
  obtain ⟨w5, hw5⟩ : ∃ w5, w5 = w4.alloc (.cells #[.int .i64 P.i, .int .i64 P.N, .int .i64 P.x, .slice a4.O.A a4.O.n a4.O.c, .int .i64 P.g, .int .i64 P.c, .slice a4.W.A a4.W.n a4.W.c, .slice a4.H.A a4.H.n a4.H.c, .slice a4.R.A a4.R.n a4.R.c, .slice none 0 0] 75) := ⟨_, rfl⟩
  obtain ⟨s, hs⟩ : ∃ s, s = w4.heap.size := ⟨_, rfl⟩
  rw [← hw5, ← hs]
  have hst : StAt s w0.heap.size w5 P a4 [] noAd [] := by rw [hw5, hs]; exact st_new hn4 hb4.size
  have hb5 : Below w0.heap.size w0 w5 := by rw [hw5]; exact hb4.alloc hb4.size _
  have HST := Lib.hid hst
  have HB5 := Lib.hid hb5
  have HN4 := Lib.hid hn4
  have hs0 : w0.heap.size ≤ s := by rw [hs]; exact hb4.size
  have hs5 : s < w5.heap.size := hst.box.1
  have k1 : w5.cell? ⟨g, 1, none⟩ = some (.int .i64 P.N) := ((HX0.out.below hb5 hl0).2 1 _ rfl).1
  have hm5 : Below g w w5 := HB0.out.trans (hb5.mono hgw)
  clear hw5 hs hst hb5 hn4 hb4
  go_wp2_with (first
   | (refine wpList_load_box rfl 48 _ rfl (g + 1) rfl (msgC m am) (HX1.out.below HB5.out hl1) _ Tryz.underlying48 rfl size_mes ?_)
   | (go_at_call 97; refine (HMC.out false HMB.out w5 hm5).mono ?_; rintro e w6 ⟨rfl, hb6⟩; have hb06 : Below w0.heap.size w0 w6 := HB5.out.trans (hb6.mono HB5.out.size); have HB06 := Lib.hid hb06; have q2 : w6.cell? ⟨g + 1, 2, none⟩ = some (.int .i64 m.t) := ((HX1.out.below hb06 hl1).2 2 _ rfl).1; have q0 : w6.cell? ⟨g + 1, 0, none⟩ = some (.int .i64 m.k) := ((HX1.out.below hb06 hl1).2 0 _ rfl).1; have z0 : w6.cell? ⟨g, 0, none⟩ = some (.int .i64 P.i) := ((HX0.out.below hb06 hl0).2 0 _ rfl).1; have HST6 := Lib.hid (HST.out.below hb6); have HSZ6 : Hid (w5.heap.size ≤ w6.heap.size) := hb6.size; clear hb6 hb06))
  go_ret2
  exact ⟨s, rfl, .inl ⟨by decide, by rw [HG.out]; exact HB0.out.trans (HB06.out.mono hgw)⟩⟩
 | true =>
  have HMB := Lib.hid hmb
  by_cases ht : m.t = P.i
  ·have hk : ¬ (m.k = 1 ∨ m.k = 2 ∨ m.k = 3 ∨ m.k = 7) := fun hk => hne (by rw [takeE, if_pos ⟨hmb, ht⟩, if_pos hk])
   have HE : Hid (takeE P m = 10) := by show _ = _; rw [takeE, if_pos ⟨hmb, ht⟩, if_neg hk]
   rw [HE.out]
   have jt : (m.t == P.i) = true := by simp [ht]
   have jt2 : (m.t != P.i) = false := by simp [ht]
   have j1 : (m.k == 1) = false := by simp; omega
   have j2 : (m.k == 2) = false := by simp; omega
   have j3 : (m.k == 3) = false := by simp; omega
   have j7 : (m.k == 7) = false := by simp; omega
   clear hmb ht hk hne
   go_enter Tryz.func54, Tryz.ntmps54
   go_upto_region 1 with fail
   rw [HG.out, HW0.out]
   go_upto_region 2 with (first
    | (refine wpList_load_box rfl 27 _ rfl g rfl (wkC P a) (HX0.out) _ Tryz.underlying27 rfl size_wk ?_)
    | (go_at_call 15; refine (rcopyWk_any P a w0 (HIN.out _ (Below.refl _ _)) (HF.out.more (by decide))).mono ?_; rintro e w4 ⟨a4, rfl, hn4, hb4⟩; dsimp only [wkV, Ad.v]))
   obtain ⟨w5, hw5⟩ : ∃ w5, w5 = w4.alloc (.cells #[.int .i64 P.i, .int .i64 P.N, .int .i64 P.x, .slice a4.O.A a4.O.n a4.O.c, .int .i64 P.g, .int .i64 P.c, .slice a4.W.A a4.W.n a4.W.c, .slice a4.H.A a4.H.n a4.H.c, .slice a4.R.A a4.R.n a4.R.c, .slice none 0 0] 75) := ⟨_, rfl⟩
   obtain ⟨s, hs⟩ : ∃ s, s = w4.heap.size := ⟨_, rfl⟩
   rw [← hw5, ← hs]
   have hst : StAt s w0.heap.size w5 P a4 [] noAd [] := by rw [hw5, hs]; exact st_new hn4 hb4.size
   have hb5 : Below w0.heap.size w0 w5 := by rw [hw5]; exact hb4.alloc hb4.size _
   have HST := Lib.hid hst
   have HB5 := Lib.hid hb5
   have HN4 := Lib.hid hn4
   have hs0 : w0.heap.size ≤ s := by rw [hs]; exact hb4.size
   have hs5 : s < w5.heap.size := hst.box.1
   have k1 : w5.cell? ⟨g, 1, none⟩ = some (.int .i64 P.N) := ((HX0.out.below hb5 hl0).2 1 _ rfl).1
   have hm5 : Below g w w5 := HB0.out.trans (hb5.mono hgw)
   clear hw5 hs hst hb5 hn4 hb4
   go_wp2_with (first
    | (refine wpList_load_box rfl 48 _ rfl (g + 1) rfl (msgC m am) (HX1.out.below HB5.out hl1) _ Tryz.underlying48 rfl size_mes ?_)
    | (go_at_call 97; refine (HMC.out true HMB.out w5 hm5).mono ?_; rintro e w6 ⟨rfl, hb6⟩; have hb06 : Below w0.heap.size w0 w6 := HB5.out.trans (hb6.mono HB5.out.size); have HB06 := Lib.hid hb06; have q2 : w6.cell? ⟨g + 1, 2, none⟩ = some (.int .i64 m.t) := ((HX1.out.below hb06 hl1).2 2 _ rfl).1; have q0 : w6.cell? ⟨g + 1, 0, none⟩ = some (.int .i64 m.k) := ((HX1.out.below hb06 hl1).2 0 _ rfl).1; have z0 : w6.cell? ⟨g, 0, none⟩ = some (.int .i64 P.i) := ((HX0.out.below hb06 hl0).2 0 _ rfl).1; have HST6 := Lib.hid (HST.out.below hb6); have HSZ6 : Hid (w5.heap.size ≤ w6.heap.size) := hb6.size; clear hb6 hb06))
   go_ret2
   exact ⟨s, rfl, .inl ⟨by decide, by rw [HG.out]; exact HB0.out.trans (HB06.out.mono hgw)⟩⟩
  ·have HE : Hid (takeE P m = 1) := by show _ = _; rw [takeE, if_neg (fun h => ht h.2)]
   rw [HE.out]
   have jt : (m.t == P.i) = false := by simp [ht]
   have jt2 : (m.t != P.i) = true := by simp [ht]
   clear hmb ht hne
   go_enter Tryz.func54, Tryz.ntmps54
   go_upto_region 1 with fail
   rw [HG.out, HW0.out]
   go_upto_region 2 with (first
    | (refine wpList_load_box rfl 27 _ rfl g rfl (wkC P a) (HX0.out) _ Tryz.underlying27 rfl size_wk ?_)
    | (go_at_call 15; refine (rcopyWk_any P a w0 (HIN.out _ (Below.refl _ _)) (HF.out.more (by decide))).mono ?_; rintro e w4 ⟨a4, rfl, hn4, hb4⟩; dsimp only [wkV, Ad.v]))
   obtain ⟨w5, hw5⟩ : ∃ w5, w5 = w4.alloc (.cells #[.int .i64 P.i, .int .i64 P.N, .int .i64 P.x, .slice a4.O.A a4.O.n a4.O.c, .int .i64 P.g, .int .i64 P.c, .slice a4.W.A a4.W.n a4.W.c, .slice a4.H.A a4.H.n a4.H.c, .slice a4.R.A a4.R.n a4.R.c, .slice none 0 0] 75) := ⟨_, rfl⟩
   obtain ⟨s, hs⟩ : ∃ s, s = w4.heap.size := ⟨_, rfl⟩
   rw [← hw5, ← hs]
   have hst : StAt s w0.heap.size w5 P a4 [] noAd [] := by rw [hw5, hs]; exact st_new hn4 hb4.size
   have hb5 : Below w0.heap.size w0 w5 := by rw [hw5]; exact hb4.alloc hb4.size _
   have HST := Lib.hid hst
   have HB5 := Lib.hid hb5
   have HN4 := Lib.hid hn4
   have hs0 : w0.heap.size ≤ s := by rw [hs]; exact hb4.size
   have hs5 : s < w5.heap.size := hst.box.1
   have k1 : w5.cell? ⟨g, 1, none⟩ = some (.int .i64 P.N) := ((HX0.out.below hb5 hl0).2 1 _ rfl).1
   have hm5 : Below g w w5 := HB0.out.trans (hb5.mono hgw)
   clear hw5 hs hst hb5 hn4 hb4
   go_wp2_with (first
    | (refine wpList_load_box rfl 48 _ rfl (g + 1) rfl (msgC m am) (HX1.out.below HB5.out hl1) _ Tryz.underlying48 rfl size_mes ?_)
    | (go_at_call 97; refine (HMC.out true HMB.out w5 hm5).mono ?_; rintro e w6 ⟨rfl, hb6⟩; have hb06 : Below w0.heap.size w0 w6 := HB5.out.trans (hb6.mono HB5.out.size); have HB06 := Lib.hid hb06; have q2 : w6.cell? ⟨g + 1, 2, none⟩ = some (.int .i64 m.t) := ((HX1.out.below hb06 hl1).2 2 _ rfl).1; have q0 : w6.cell? ⟨g + 1, 0, none⟩ = some (.int .i64 m.k) := ((HX1.out.below hb06 hl1).2 0 _ rfl).1; have z0 : w6.cell? ⟨g, 0, none⟩ = some (.int .i64 P.i) := ((HX0.out.below hb06 hl0).2 0 _ rfl).1; have HST6 := Lib.hid (HST.out.below hb6); have HSZ6 : Hid (w5.heap.size ≤ w6.heap.size) := hb6.size; clear hb6 hb06))
   go_ret2
   exact ⟨s, rfl, .inl ⟨by decide, by rw [HG.out]; exact HB0.out.trans (HB06.out.mono hgw)⟩⟩

end Go.Proofs.YteepobghdpnabaaGreat
