/-
 Package worker's Take: what is refused.
-/
import Derived.Test.YteepobghdpnabaaGreatKDd
import Derived.Test.YteepobghdpnabaaGreatKBag
namespace Go.Proofs.YteepobghdpnabaaGreat
open Go.RowKit

set_option maxRecDepth 100000 in
set_option maxHeartbeats 16000000 in
theorem take_no (P : WkD) (a : WkA) (m : MsgD) (am : MsgA) (w : World) (h : WIn w P a) (hm : MsgIn w m am) (ho : MsgOk m) (hfm : MsgFew 1000000 am) (hf : WFew P 300000) (hne : ifMay P (takeE P m) ≠ 0) : Calls Tryz.prog 56 #[wkV P a, msgV m am] w (Ret3 (orW (ifMay P (takeE P m)) (takeW P m)) (orO (ifMay P (takeE P m)) (takeO P m)) (ifMay P (takeE P m)) w) := by
 obtain ⟨g, hg⟩ : ∃ g, g = w.heap.size := ⟨_, rfl⟩
 obtain ⟨wa0, hwa0⟩ : ∃ wa0, wa0 = w.alloc (.cells #[.int .i64 P.i, .int .i64 P.N, .int .i64 P.x, .slice a.O.A a.O.n a.O.c, .int .i64 P.g, .int .i64 P.c, .slice a.W.A a.W.n a.W.c, .slice a.H.A a.H.n a.H.c, .slice a.R.A a.R.n a.R.c] 27) := ⟨_, rfl⟩
 have hs0 : wa0.heap.size = g + 1 := by rw [hwa0]; simp; omega
 have bn0 : Box wa0 (g) (wkC P a) := by rw [hwa0, hg]; exact box_new w (wkC P a) 27
 have hb0 : Below g w wa0 := by rw [hwa0]; exact (Below.refl _ _).alloc (by omega) _
 obtain ⟨wa1, hwa1⟩ : ∃ wa1, wa1 = wa0.alloc (.cells #[.int .i64 m.k, .int .i64 m.f, .int .i64 m.t, .int .i64 m.d, .int .i64 m.ba, .int .i64 m.bn, .slice am.AL am.nL am.cL, .int .i64 m.ha, .int .i64 m.hr, .slice am.AhB am.nhB am.chB, .slice am.AhP am.nhP am.chP, .int .i64 m.ca, .int .i64 m.cr, .slice am.AcB am.ncB am.ccB, .slice am.AcP am.ncP am.ccP, .int .i64 m.cd, .slice am.AcS am.ncS am.ccS, .slice am.AD am.nD am.cD] 48) := ⟨_, rfl⟩
 have hs1 : wa1.heap.size = g + 2 := by rw [hwa1]; simp; omega
 have bn1 : Box wa1 (g + 1) (msgC m am) := by rw [hwa1, ← hs0]; exact box_new wa0 (msgC m am) 48
 have hb1 : Below g w wa1 := by rw [hwa1]; exact hb0.alloc (by omega) _
 obtain ⟨wa2, hwa2⟩ : ∃ wa2, wa2 = wa1.alloc (.cells #[.int .i64 0, .int .i64 0, .int .i64 0, .slice none 0 0, .int .i64 0, .int .i64 0, .slice none 0 0, .slice none 0 0, .slice none 0 0] 27) := ⟨_, rfl⟩
 have hs2 : wa2.heap.size = g + 3 := by rw [hwa2]; simp; omega
 have bn2 : Box wa2 (g + 2) (zeroC) := by rw [hwa2, ← hs1]; exact box_new wa1 (zeroC) 27
 have hb2 : Below g w wa2 := by rw [hwa2]; exact hb1.alloc (by omega) _
 have HX0 : Hid (Box wa2 (g) (wkC P a)) := ((bn0.below (show Below wa0.heap.size wa0 wa1 by rw [hwa1]; exact (Below.refl _ _).alloc (Nat.le_refl _) _) (by omega)).below (show Below wa1.heap.size wa1 wa2 by rw [hwa2]; exact (Below.refl _ _).alloc (Nat.le_refl _) _) (by omega))
 have HX1 : Hid (Box wa2 (g + 1) (msgC m am)) := (bn1.below (show Below wa1.heap.size wa1 wa2 by rw [hwa2]; exact (Below.refl _ _).alloc (Nat.le_refl _) _) (by omega))
 have HX2 : Hid (Box wa2 (g + 2) (zeroC)) := bn2
 obtain ⟨w0, hw0⟩ : ∃ w0, w0 = wa2 := ⟨_, rfl⟩
 rw [← hw0] at HX0
 rw [← hw0] at HX1
 rw [← hw0] at HX2
 have hsz0 : w0.heap.size = g + 3 := by rw [hw0]; exact hs2
 have hb0w : Below g w w0 := by rw [hw0]; exact hb2
 have HW0 : Hid (((w.alloc (.cells #[.int .i64 P.i, .int .i64 P.N, .int .i64 P.x, .slice a.O.A a.O.n a.O.c, .int .i64 P.g, .int .i64 P.c, .slice a.W.A a.W.n a.W.c, .slice a.H.A a.H.n a.H.c, .slice a.R.A a.R.n a.R.c] 27)).alloc (.cells #[.int .i64 m.k, .int .i64 m.f, .int .i64 m.t, .int .i64 m.d, .int .i64 m.ba, .int .i64 m.bn, .slice am.AL am.nL am.cL, .int .i64 m.ha, .int .i64 m.hr, .slice am.AhB am.nhB am.chB, .slice am.AhP am.nhP am.chP, .int .i64 m.ca, .int .i64 m.cr, .slice am.AcB am.ncB am.ccB, .slice am.AcP am.ncP am.ccP, .int .i64 m.cd, .slice am.AcS am.ncS am.ccS, .slice am.AD am.nD am.cD] 48)).alloc (.cells #[.int .i64 0, .int .i64 0, .int .i64 0, .slice none 0 0, .int .i64 0, .int .i64 0, .slice none 0 0, .slice none 0 0, .slice none 0 0] 27) = w0) := by show ((w.alloc (.cells #[.int .i64 P.i, .int .i64 P.N, .int .i64 P.x, .slice a.O.A a.O.n a.O.c, .int .i64 P.g, .int .i64 P.c, .slice a.W.A a.W.n a.W.c, .slice a.H.A a.H.n a.H.c, .slice a.R.A a.R.n a.R.c] 27)).alloc (.cells #[.int .i64 m.k, .int .i64 m.f, .int .i64 m.t, .int .i64 m.d, .int .i64 m.ba, .int .i64 m.bn, .slice am.AL am.nL am.cL, .int .i64 m.ha, .int .i64 m.hr, .slice am.AhB am.nhB am.chB, .slice am.AhP am.nhP am.chP, .int .i64 m.ca, .int .i64 m.cr, .slice am.AcB am.ncB am.ccB, .slice am.AcP am.ncP am.ccP, .int .i64 m.cd, .slice am.AcS am.ncS am.ccS, .slice am.AD am.nD am.cD] 48)).alloc (.cells #[.int .i64 0, .int .i64 0, .int .i64 0, .slice none 0 0, .int .i64 0, .int .i64 0, .slice none 0 0, .slice none 0 0, .slice none 0 0] 27) = w0; rw [hw0, hwa2, hwa1, hwa0]
 have HG : Hid (w.heap.size = g) := hg.symm
 have HS0 := Lib.hid hsz0
 have HB0 := Lib.hid hb0w
 have hl0 : g < w0.heap.size := by omega
 have hl1 : g + 1 < w0.heap.size := by omega
 have hl2 : g + 2 < w0.heap.size := by omega
 have hgw : g ≤ w0.heap.size := by omega
 have hin0 := h.below' HB0.out HG.out
 have HIN : Hid (∀ wX, Below w0.heap.size w0 wX → WIn wX P a) := by show ∀ wX, _; exact fun wX hX => hin0.below hX
 have HMI : Hid (∀ wX, Below g w wX → MsgIn wX m am) := by show ∀ wX, _; exact fun wX hX => hm.below (by rw [HG.out]; exact hX)
 have HF := Lib.hid hf
 have hcheck := check_is (mayW P) P a w0 rfl hin0 (hf.more (by decide))
 have HMC : Hid (∀ b, messB m P.N = b → ∀ wX, Below g w wX → Calls Tryz.prog 101 #[msgV m am, .int .i64 P.N] wX (Tells wX.heap.size wX (.int .i64 (okV b)))) := by
  show ∀ b, _
  exact fun b hb wX hX => mcheck_is b m am P.N wX hb (HMI.out wX hX) ho hfm
 have HFM := Lib.hid hfm
 obtain ⟨E, hE⟩ : ∃ E, E = ifMay P (takeE P m) := ⟨_, rfl⟩
 rw [← hE] at hne ⊢
 have HQ : Hid (orW E (takeW P m) = zeroW) := orW_no hne _
 have HL : Hid (orO E (takeO P m) = []) := orO_no hne _
 obtain ⟨b, hb⟩ : ∃ b, b = mayW P := ⟨_, rfl⟩
 rw [← hb] at hcheck
 have HCK := Lib.hid hcheck
 clear hg hsz0 hb0w hw0 hwa0 hs0 bn0 hb0 hwa1 hs1 bn1 hb1 hwa2 hs2 bn2 hb2
 clear hcheck hin0 h hm ho hfm hf
 unfold wkV Ad.v msgV
 cases b with
 | false =>
  have HE : Hid (E = 1) := by show E = 1; rw [hE, ifMay_no hb.symm]
  clear hE hb hne
  go_enter Tryz.func56, Tryz.ntmps56
  go_upto_region 1 with fail
  rw [HG.out, HW0.out]
  go_wp2_with (first
   | (refine wpList_load_box rfl 27 _ rfl g rfl (wkC P a) (HX0.out) _ Tryz.underlying27 rfl size_wk ?_)
   | (go_at_call 18; refine HCK.out.mono ?_; rintro e w1 ⟨rfl, hb1⟩; have k1 : w1.cell? ⟨g, 1, none⟩ = some (.int .i64 P.N) := ((HX0.out.below hb1 hl0).2 1 _ rfl).1; have hm1 : Below g w w1 := HB0.out.trans (hb1.mono hgw))
   | (refine wpList_store_box rfl 27 _ _ rfl (g + 2) 0 zeroC zeroC zeroC rfl rfl (HX2.out.below hb1 hl2) (show 0 + 9 ≤ 9 by decide) rfl size_wk rfl ?_; intro w9 bx9 T9))
  obtain ⟨r0, r1, r2, r3, r4, r5, r6, r7, r8⟩ := zero_cells bx9
  have t9 := T9 (fun k => k = g + 2) rfl
  refine bodyPost_ret (v := .tuple #[wkV zeroW zeroWA, .slice none 0 0, .int .i64 1]) (by simp [results, Tryz.results56, go_sem, r0, r1, r2, r3, r4, r5, r6, r7, r8, wkV, Ad.v, zeroW, zeroWA, noAd, okV]) rfl ⟨zeroWA, noAd, [], by rw [HQ.out, HE.out]; rfl, by rw [HQ.out]; exact wNew_zero _ _, rowOwn_none _ _, by rw [HL.out]; rfl, fun y hy => by simp at hy, ?_⟩
  have hz9 := hb1.size
  rw [HG.out]
  exact (HB0.out.trans (hb1.mono hgw)).trans (t9.below (fun k hk => by omega) (by omega))
 | true =>
  have hE1 : E = takeE P m := by rw [hE, ifMay_yes hb.symm]
  rw [takeE] at hE1
  clear hE
  cases hmb : messB m P.N with
  | false =>
   have HE : Hid (E = 1) := by show E = 1; rw [hE1, if_neg (by rw [hmb]; simp)]
   have HMB := Lib.hid hmb
   clear hE1 hb hne hmb
   go_enter Tryz.func56, Tryz.ntmps56
   go_upto_region 1 with fail
   rw [HG.out, HW0.out]
   go_wp2_with (first
    | (refine wpList_load_box rfl 27 _ rfl g rfl (wkC P a) (HX0.out) _ Tryz.underlying27 rfl size_wk ?_)
    | (go_at_call 18; refine HCK.out.mono ?_; rintro e w1 ⟨rfl, hb1⟩; have k1 : w1.cell? ⟨g, 1, none⟩ = some (.int .i64 P.N) := ((HX0.out.below hb1 hl0).2 1 _ rfl).1; have hm1 : Below g w w1 := HB0.out.trans (hb1.mono hgw))
    | (refine wpList_load_box rfl 48 _ rfl (g + 1) rfl (msgC m am) (HX1.out.below hb1 hl1) _ Tryz.underlying48 rfl size_mes ?_)
    | (go_at_call 101; refine (HMC.out false HMB.out w1 hm1).mono ?_; rintro e w2 ⟨rfl, hb2⟩; have hb02 : Below w0.heap.size w0 w2 := hb1.trans (hb2.mono hb1.size); have q2 : w2.cell? ⟨g + 1, 2, none⟩ = some (.int .i64 m.t) := ((HX1.out.below hb02 hl1).2 2 _ rfl).1; have k0 : w2.cell? ⟨g, 0, none⟩ = some (.int .i64 P.i) := ((HX0.out.below hb02 hl0).2 0 _ rfl).1; have q0 : w2.cell? ⟨g + 1, 0, none⟩ = some (.int .i64 m.k) := ((HX1.out.below hb02 hl1).2 0 _ rfl).1)
    | (refine wpList_store_box rfl 27 _ _ rfl (g + 2) 0 zeroC zeroC zeroC rfl rfl (HX2.out.below hb02 hl2) (show 0 + 9 ≤ 9 by decide) rfl size_wk rfl ?_; intro w9 bx9 T9))
   obtain ⟨r0, r1, r2, r3, r4, r5, r6, r7, r8⟩ := zero_cells bx9
   have t9 := T9 (fun k => k = g + 2) rfl
   refine bodyPost_ret (v := .tuple #[wkV zeroW zeroWA, .slice none 0 0, .int .i64 1]) (by simp [results, Tryz.results56, go_sem, r0, r1, r2, r3, r4, r5, r6, r7, r8, wkV, Ad.v, zeroW, zeroWA, noAd]) rfl ⟨zeroWA, noAd, [], by rw [HQ.out, HE.out]; rfl, by rw [HQ.out]; exact wNew_zero _ _, rowOwn_none _ _, by rw [HL.out]; rfl, fun y hy => by simp at hy, ?_⟩
   have hz9 := hb02.size
   rw [HG.out]
   exact (HB0.out.trans (hb02.mono hgw)).trans (t9.below (fun k hk => by omega) (by omega))
  | true =>
   have HMB := Lib.hid hmb
   by_cases ht : m.t = P.i
   ·rw [if_pos ⟨hmb, ht⟩] at hE1
    have hk : ¬ (m.k = 1 ∨ m.k = 2 ∨ m.k = 3 ∨ m.k = 7) := fun hk => hne (by rw [hE1, if_pos hk])
    have HE : Hid (E = 10) := by show E = 10; rw [hE1, if_neg hk]
    have jt : (m.t == P.i) = true := by simp [ht]
    have j1 : (m.k == 1) = false := by simp; omega
    have j2 : (m.k == 2) = false := by simp; omega
    have j3 : (m.k == 3) = false := by simp; omega
    have j7 : (m.k == 7) = false := by simp; omega
    clear hE1 hb hne hmb ht hk
    go_enter Tryz.func56, Tryz.ntmps56
    go_upto_region 1 with fail
    rw [HG.out, HW0.out]
    go_wp2_with (first
     | (refine wpList_load_box rfl 27 _ rfl g rfl (wkC P a) (HX0.out) _ Tryz.underlying27 rfl size_wk ?_)
     | (go_at_call 18; refine HCK.out.mono ?_; rintro e w1 ⟨rfl, hb1⟩; have k1 : w1.cell? ⟨g, 1, none⟩ = some (.int .i64 P.N) := ((HX0.out.below hb1 hl0).2 1 _ rfl).1; have hm1 : Below g w w1 := HB0.out.trans (hb1.mono hgw))
     | (refine wpList_load_box rfl 48 _ rfl (g + 1) rfl (msgC m am) (HX1.out.below hb1 hl1) _ Tryz.underlying48 rfl size_mes ?_)
     | (go_at_call 101; refine (HMC.out true HMB.out w1 hm1).mono ?_; rintro e w2 ⟨rfl, hb2⟩; have hb02 : Below w0.heap.size w0 w2 := hb1.trans (hb2.mono hb1.size); have q2 : w2.cell? ⟨g + 1, 2, none⟩ = some (.int .i64 m.t) := ((HX1.out.below hb02 hl1).2 2 _ rfl).1; have k0 : w2.cell? ⟨g, 0, none⟩ = some (.int .i64 P.i) := ((HX0.out.below hb02 hl0).2 0 _ rfl).1; have q0 : w2.cell? ⟨g + 1, 0, none⟩ = some (.int .i64 m.k) := ((HX1.out.below hb02 hl1).2 0 _ rfl).1)
     | (refine wpList_load_box rfl 27 _ rfl g rfl (wkC P a) (HX0.out.below hb02 hl0) _ Tryz.underlying27 rfl size_wk ?_)
     | (go_at_call 90; refine (clone_any P a w2 (HIN.out _ hb02) (HF.out.more (by decide))).mono ?_; rintro e w4 ⟨a4, rfl, hn4, hb4⟩)
     | (refine wpList_store_box rfl 27 _ _ rfl g 0 (wkC P a4) (wkC P a) (wkC P a4) rfl rfl ((HX0.out.below hb02 hl0).below hb4 (by have := hb02.size; omega)) (show 0 + 9 ≤ 9 by decide) rfl size_wk rfl ?_; intro w5 bx5 T5; have t5 := T5 (fun k => k = g) rfl; have b4 : Below w0.heap.size w0 w4 := hb02.trans (hb4.mono hb02.size); have q50 : w5.cell? ⟨g + 1, 0, none⟩ = some (.int .i64 m.k) := (((HX1.out.below b4 hl1).touch t5 (by omega)).2 0 _ rfl).1)
     | (refine wpList_store_box rfl 27 _ _ rfl (g + 2) 0 zeroC zeroC zeroC rfl rfl ((HX2.out.below b4 hl2).touch t5 (by omega)) (show 0 + 9 ≤ 9 by decide) rfl size_wk rfl ?_; intro w9 bx9 T9))
    obtain ⟨r0, r1, r2, r3, r4, r5, r6, r7, r8⟩ := zero_cells bx9
    have t9 := T9 (fun k => k = g + 2) rfl
    refine bodyPost_ret (v := .tuple #[wkV zeroW zeroWA, .slice none 0 0, .int .i64 10]) (by simp [results, Tryz.results56, go_sem, r0, r1, r2, r3, r4, r5, r6, r7, r8, wkV, Ad.v, zeroW, zeroWA, noAd]) rfl ⟨zeroWA, noAd, [], by rw [HQ.out, HE.out]; rfl, by rw [HQ.out]; exact wNew_zero _ _, rowOwn_none _ _, by rw [HL.out]; rfl, fun y hy => by simp at hy, ?_⟩
    have hz9 := Nat.le_trans b4.size t5.size
    rw [HG.out]
    exact ((HB0.out.trans (b4.mono hgw)).trans (t5.below (fun k hk => by omega) (by have := b4.size; omega))).trans (t9.below (fun k hk => by omega) (by omega))
   ·have HE : Hid (E = 1) := by show E = 1; rw [hE1, if_neg (fun h => ht h.2)]
    have jt : (m.t == P.i) = false := by simp [ht]
    clear hE1 hb hne hmb ht
    go_enter Tryz.func56, Tryz.ntmps56
    go_upto_region 1 with fail
    rw [HG.out, HW0.out]
    go_wp2_with (first
     | (refine wpList_load_box rfl 27 _ rfl g rfl (wkC P a) (HX0.out) _ Tryz.underlying27 rfl size_wk ?_)
     | (go_at_call 18; refine HCK.out.mono ?_; rintro e w1 ⟨rfl, hb1⟩; have k1 : w1.cell? ⟨g, 1, none⟩ = some (.int .i64 P.N) := ((HX0.out.below hb1 hl0).2 1 _ rfl).1; have hm1 : Below g w w1 := HB0.out.trans (hb1.mono hgw))
     | (refine wpList_load_box rfl 48 _ rfl (g + 1) rfl (msgC m am) (HX1.out.below hb1 hl1) _ Tryz.underlying48 rfl size_mes ?_)
     | (go_at_call 101; refine (HMC.out true HMB.out w1 hm1).mono ?_; rintro e w2 ⟨rfl, hb2⟩; have hb02 : Below w0.heap.size w0 w2 := hb1.trans (hb2.mono hb1.size); have q2 : w2.cell? ⟨g + 1, 2, none⟩ = some (.int .i64 m.t) := ((HX1.out.below hb02 hl1).2 2 _ rfl).1; have k0 : w2.cell? ⟨g, 0, none⟩ = some (.int .i64 P.i) := ((HX0.out.below hb02 hl0).2 0 _ rfl).1; have q0 : w2.cell? ⟨g + 1, 0, none⟩ = some (.int .i64 m.k) := ((HX1.out.below hb02 hl1).2 0 _ rfl).1)
     | (refine wpList_store_box rfl 27 _ _ rfl (g + 2) 0 zeroC zeroC zeroC rfl rfl (HX2.out.below hb02 hl2) (show 0 + 9 ≤ 9 by decide) rfl size_wk rfl ?_; intro w9 bx9 T9))
    obtain ⟨r0, r1, r2, r3, r4, r5, r6, r7, r8⟩ := zero_cells bx9
    have t9 := T9 (fun k => k = g + 2) rfl
    refine bodyPost_ret (v := .tuple #[wkV zeroW zeroWA, .slice none 0 0, .int .i64 1]) (by simp [results, Tryz.results56, go_sem, r0, r1, r2, r3, r4, r5, r6, r7, r8, wkV, Ad.v, zeroW, zeroWA, noAd]) rfl ⟨zeroWA, noAd, [], by rw [HQ.out, HE.out]; rfl, by rw [HQ.out]; exact wNew_zero _ _, rowOwn_none _ _, by rw [HL.out]; rfl, fun y hy => by simp at hy, ?_⟩
    have hz9 := hb02.size
    rw [HG.out]
    exact (HB0.out.trans (hb02.mono hgw)).trans (t9.below (fun k hk => by omega) (by omega))

end Go.Proofs.YteepobghdpnabaaGreat
namespace Go.Proofs.YteepobghdpnabaaGreat
open Go.RowKit

theorem msg_cells {w : World} {g : Nat} {m : MsgD} {am : MsgA} (h : Box w g (msgC m am)) : w.cell? ⟨g, 0, none⟩ = some (.int .i64 m.k) ∧ w.cell? ⟨g, 1, none⟩ = some (.int .i64 m.f) ∧ w.cell? ⟨g, 3, none⟩ = some (.int .i64 m.d) ∧
  w.cell? ⟨g, 4, none⟩ = some (.int .i64 m.ba) ∧ w.cell? ⟨g, 5, none⟩ = some (.int .i64 m.bn) ∧ w.cell? ⟨g, 6, none⟩ = some (.slice am.AL am.nL am.cL) ∧ w.cell? ⟨g, 17, none⟩ = some (.slice am.AD am.nD am.cD) :=
 ⟨(h.2 0 _ rfl).1, (h.2 1 _ rfl).1, (h.2 3 _ rfl).1, (h.2 4 _ rfl).1, (h.2 5 _ rfl).1, (h.2 6 _ rfl).1, (h.2 17 _ rfl).1⟩

end Go.Proofs.YteepobghdpnabaaGreat
namespace Go.Proofs.YteepobghdpnabaaGreat
open Go.RowKit

def StepIsK (kd : Int) : Prop := ∀ (P : WkD) (a : WkA) (x : ActD) (w : World), WIn w P a → Grown 0 P → ActIn w x → MsgFew 2000 x.b ∧ x.L.length ≤ 12000 → wrap64 ((IntKind.u64.wrap x.Do).tmod ((11 : Nat) : Int)) = ((5 : Nat) : Int) → x.m.k = kd → Calls Tryz.prog 19 #[wkV P a, actV x] w (StepTo 0 w)

set_option maxRecDepth 100000 in
set_option maxHeartbeats 16000000 in
theorem takes_is (kd : Int) (HSTEP : StepIsK kd) (s : ScrZ) (w : World) (h : ScrIn w s) : Calls Tryz.prog 22 #[scrV s, .int .i64 kd] w (Tells w.heap.size w (.bool true)) := by
 have h5 : wrap64 ((IntKind.u64.wrap (5 : Int)).tmod ((11 : Nat) : Int)) = ((5 : Nat) : Int) := by decide +kernel
 obtain ⟨g, hg⟩ : ∃ g, g = w.heap.size := ⟨_, rfl⟩
 obtain ⟨w1, hw1⟩ : ∃ w1, w1 = w.alloc (.cells #[.int .i64 s.P.i, .int .i64 s.P.N, .int .i64 s.P.x, .slice s.a.O.A s.a.O.n s.a.O.c, .int .i64 s.P.g, .int .i64 s.P.c, .slice s.a.W.A s.a.W.n s.a.W.c, .slice s.a.H.A s.a.H.n s.a.H.c, .slice s.a.R.A s.a.R.n s.a.R.c, .slice s.A s.n s.c] 30) := ⟨_, rfl⟩
 have hb1 : Below g w w1 := by rw [hw1]; exact (Below.refl _ _).alloc (by omega) _
 have bx1 : Box w1 g (scrC s) := by rw [hw1, hg]; exact box_new w (scrC s) 30
 have HG : Hid (w.heap.size = g) := hg.symm
 have HW : Hid (w.alloc (.cells #[.int .i64 s.P.i, .int .i64 s.P.N, .int .i64 s.P.x, .slice s.a.O.A s.a.O.n s.a.O.c, .int .i64 s.P.g, .int .i64 s.P.c, .slice s.a.W.A s.a.W.n s.a.W.c, .slice s.a.H.A s.a.H.n s.a.H.c, .slice s.a.R.A s.a.R.n s.a.R.c, .slice s.A s.n s.c] 30) = w1) := hw1.symm
 have hsz : w1.heap.size = g + 1 := by rw [hw1, hg]; simp
 have HIN : Hid (∀ wX, Below w1.heap.size w1 wX → ScrIn wX s) := by
  show ∀ wX, _
  exact fun wX hX => h.below (by rw [← hg]; exact hb1.trans (hX.mono (by omega)))
 have HBX : Hid (∀ wX, Below w1.heap.size w1 wX → Box wX g (scrC s)) := by
  show ∀ wX, _
  exact fun wX hX => bx1.below hX bx1.1
 have HB1 := Lib.hid hb1
 have HHV := Lib.hid (heavyZ_any s w1 (h.below (by rw [← hg]; exact hb1)))
 obtain ⟨nL, hnL⟩ : ∃ n, n = s.n := ⟨_, rfl⟩
 have HNL := Lib.hid hnL
 have HC : Hid (∀ wX, Below w1.heap.size w1 wX → wX.cell? ⟨g, 9, none⟩ = some (.slice s.A nL s.c) ∧ wX.rangeAt g 0 (wkC s.P s.a)) := by
  show ∀ wX, _
  intro wX hX
  have hb := HBX.out wX hX
  rw [hnL]
  exact ⟨(hb.2 9 _ rfl).1, scr_wk hb⟩
 clear hw1 bx1 hg h hnL hb1
 unfold scrV
 go_enter Tryz.func22, Tryz.ntmps22
 go_upto_region 1 with fail
 rw [HG.out, HW.out]
 go_wp2_with (refine wpList_load_box rfl 30 _ rfl g rfl (scrC s) (HBX.out w1 (Below.refl _ _)) _ Tryz.underlying30 rfl size_scr ?_)
 refine HHV.out.mono ?_
 rintro e w2 ⟨bv, rfl, hb2, hlt⟩
 cases bv with
 | true =>
  go_wp2_with fail
  go_ret
  exact ⟨rfl, by rw [HG.out]; exact HB1.out.trans (hb2.mono (by omega))⟩
 | false =>
 have HLT : Hid (LightZ s) := hlt rfl
 have HB2 := Lib.hid hb2
 clear hlt hb2 HHV
 go_wp2_with fail
 go_loopw [5] (fun i wr => ∃ k : Nat, i = .int .i64 k ∧ k ≤ nL ∧ k ≤ 12 ∧ Hid (Below w1.heap.size w1 wr)) (fun i _ => 12 - (intOf i).toNat)
 case atStart => exact ⟨0, rfl, by omega, by omega, HB2⟩
 case round =>
  clear HB2
  obtain ⟨k, rfl, hk, hk12, HB⟩ := hrel
  have i0 : (0 : Int) ≤ (k : Int) := by omega
  obtain ⟨c9, cw⟩ := HC.out _ HB.out
  go_upto_region 4 with fail
  go_cut [19] from 11 to 18 (fun bv wx => bv = .bool (decide (k < nL ∧ k < 12)) ∧ wr = wx)
  case first =>
   by_cases hlt : k < nL
   ·have i1 : (k : Int) < (nL : Int) := by omega
    by_cases h12 : k < 12
    ·have i2 : (k : Int) < 12 := by omega
     have HD : Hid (decide (k < nL ∧ k < 12) = true) := decide_eq_true ⟨hlt, h12⟩
     go_wp2_with fail
     go_meet
     exact ⟨by rw [HD.out], rfl⟩
    ·have i2 : ¬ ((k : Int) < 12) := by omega
     have HD : Hid (decide (k < nL ∧ k < 12) = false) := decide_eq_false (fun h => h12 h.2)
     go_wp2_with fail
     go_meet
     exact ⟨by rw [HD.out], rfl⟩
   ·have i1 : ¬ ((k : Int) < (nL : Int)) := by omega
    have HD : Hid (decide (k < nL ∧ k < 12) = false) := decide_eq_false (fun h => hlt h.1)
    go_wp2_with fail
    go_meet
    exact ⟨by rw [HD.out], rfl⟩
  case rest =>
  obtain ⟨rfl, rfl⟩ := hcut
  by_cases hc : k < nL ∧ k < 12
  ·rw [decide_eq_true hc]
   obtain ⟨hlt, h12⟩ := hc
   obtain ⟨b, off, x, hA, hx, hm, hbl, hrg⟩ := (HIN.out _ HB.out).at_ (k := k) (by rw [← HNL.out]; exact hlt)
   rw [hA] at c9
   have HACT : Hid (∀ wX, Below wr.heap.size wr wX → ActIn wX x) := by
    show ∀ wX, _
    exact fun wX hX => ((HIN.out _ HB.out).acts x hm).below hX
   have HFE : Hid (MsgFew 2000 x.b ∧ x.L.length ≤ 12000) := ⟨(HLT.out.acts x hm).2, (HLT.out.acts x hm).1⟩
   have HRG := Lib.hid hrg
   have i1 : (k : Int) < (nL : Int) := by omega
   clear hA hx hm hrg cw
   go_upto_region 7 with (first
    | (refine wpList_load_mid rfl 50 _ rfl b (off + k * 26) rfl (actC x) _ HRG.out Tryz.underlying50 rfl size_act ?_)
    | (refine wpList_store_box rfl 50 _ _ rfl wr.heap.size 0 (actC x) zeroAct (actC x) rfl rfl (box_new wr zeroAct 50) (show 0 + 26 ≤ 26 by decide) rfl size_act rfl ?_; intro w3 bx3 T3))
   have t3 := T3 (fun j => j = wr.heap.size) rfl
   obtain ⟨q, hq⟩ : ∃ q, q = wr.heap.size := ⟨_, rfl⟩
   rw [← hq] at bx3 t3 ⊢
   have hb3 : Below wr.heap.size wr w3 := ((Below.refl _ _).alloc (Nat.le_refl _) _).trans (t3.below (fun j hj => by omega) (by simp))
   have hql := bx3.1
   have hqge : wr.heap.size ≤ q := by omega
   clear hq
   have c6 := (bx3.2 6 _ rfl).1
   by_cases hkd : x.m.k = kd
   ·have j1 : (x.m.k != kd) = false := by simp [hkd]
    have j2 : (x.m.k == kd) = true := by simp [hkd]
    have HKD := Lib.hid hkd
    clear hkd
    go_upto_region 9 with (refine wpList_store_cell rfl 3 _ _ rfl q 0 (.int .i64 5) (actC x) rfl rfl rfl rfl bx3 (show 0 < 26 by decide) size_int ?_; intro w4 bx4 T4)
    clear c6
    have t4 := T4 (fun j => j = q) rfl
    have hb4 : Below wr.heap.size wr w4 := hb3.trans (t4.below (fun j hj => by omega) hb3.size)
    have HB4 : Hid (Below w1.heap.size w1 w4) := HB.out.trans (hb4.mono HB.out.size)
    have HX4 : Hid (Box w4 q (actC { x with Do := 5 })) := bx4
    have ha4 : ActIn w4 { x with Do := 5 } := (HACT.out w4 hb4).setDo (show I64 5 by unfold I64; omega)
    have HST := Lib.hid (HSTEP s.P s.a { x with Do := 5 } w4 (HIN.out w4 HB4.out).wk HLT.out.grown ha4 HFE.out h5 HKD.out)
    obtain ⟨c9', cw4⟩ := HC.out _ HB4.out
    have HCW := Lib.hid cw4
    clear t3 T3 t4 T4 hb3 hb4 bx3 bx4 ha4 hql cw4 c9'
    go_upto_region 10 with (first
     | (refine wpList_load_mid rfl 27 _ rfl g 0 rfl (wkC s.P s.a) _ HCW.out Tryz.underlying27 rfl size_wk ?_)
     | (refine wpList_load_box rfl 50 _ rfl q rfl (actC { x with Do := 5 }) HX4.out _ Tryz.underlying50 rfl size_act ?_)
     | (go_at_call 19; refine HST.out.mono ?_; rintro e w5 ⟨Q, a5, rfl, -, -, hb5⟩)
     | (refine wpList_store_box rfl 27 _ _ rfl w5.heap.size 0 (wkC Q a5) zeroC (wkC Q a5) rfl rfl (box_new w5 zeroC 27) (show 0 + 9 ≤ 9 by decide) rfl size_wk rfl ?_; intro w6 bx6 T6))
    have t6 := T6 (fun j => j = w5.heap.size) rfl
    have hz5 := hb5.size
    have HB6 : Hid (Below w1.heap.size w1 w6) := (HB4.out.trans (hb5.mono HB4.out.size)).trans (((Below.refl w5.heap.size w5).alloc (Nat.le_refl _) _).trans (t6.below (fun j hj => by omega) (by simp)) |>.mono (by have := HB4.out.size; omega))
    clear t6 T6 bx6 hb5 HST HCW HX4
    go_wp2_with fail
    go_roundw
    case rel => exact ⟨k + 1, by go_num, by omega, by omega, HB6⟩
    case measure => simp [intOf]; omega
   ·have j1 : (x.m.k != kd) = true := by simp [hkd]
    have j2 : (x.m.k == kd) = false := by simp [hkd]
    have HB6 : Hid (Below w1.heap.size w1 w3) := HB.out.trans (hb3.mono HB.out.size)
    clear hkd t3 T3 hb3 bx3 hql
    go_wp2_with fail
    go_roundw
    case rel => exact ⟨k + 1, by go_num, by omega, by omega, HB6⟩
    case measure => simp [intOf]; omega
  ·rw [decide_eq_false hc]
   clear hc
   have HWK := Lib.hid (wakes13_any wr)
   go_wp2_with (go_at_call 20; refine HWK.out.mono ?_; rintro e w9 ⟨rfl, hb9⟩)
   go_ret
   exact ⟨rfl, by rw [HG.out]; exact HB1.out.trans ((HB.out.trans (hb9.mono HB.out.size)).mono (by omega))⟩

end Go.Proofs.YteepobghdpnabaaGreat
namespace Go.Proofs.YteepobghdpnabaaGreat
open Go.RowKit

def RTakeIs (kd : Int) : Prop := ∀ (P : WkD) (a : WkA) (m : MsgD) (am : MsgA) (w : World), WIn w P a → MsgIn w m am → MsgFew 1000000 am → WFew P 300000 → mayW P = true → m.k = kd → Calls Tryz.prog 54 #[wkV P a, msgV m am] w (StTo2 (takeW P m) (takeO P m) (takeE P m) w)
def TakeIs (kd : Int) : Prop := ∀ (P : WkD) (a : WkA) (m : MsgD) (am : MsgA) (w : World), WIn w P a → MsgIn w m am → MsgOk m → MsgFew 1000000 am → WFew P 300000 → m.k = kd → Calls Tryz.prog 56 #[wkV P a, msgV m am] w (Ret3 (orW (ifMay P (takeE P m)) (takeW P m)) (orO (ifMay P (takeE P m)) (takeO P m)) (ifMay P (takeE P m)) w)
structure TakeMid (P : WkD) (m : MsgD) (w52 wx : World) (v8 : Value) (E : Int) : Prop where
 bel : Below w52.heap.size w52 wx
 err : E = ifMay P (takeE P m)
 st : E = 0 → ∃ (s B : Nat) (a : WkA) (o : Ad) (ms : List (OtD × Ad)), v8 = .pointer (some ⟨s, 0, none⟩) ∧ w52.heap.size ≤ B ∧ StAt s B wx (takeW P m) a (takeO P m) o ms

end Go.Proofs.YteepobghdpnabaaGreat
namespace Go.Proofs.YteepobghdpnabaaGreat
open Go.RowKit

theorem size_mesF : (Tryz.prog.info? 48).map (·.size) = some 18 := by kernel_rfl
def zeroMC : List Value := [.int .i64 0, .int .i64 0, .int .i64 0, .int .i64 0, .int .i64 0, .int .i64 0, .slice none 0 0, .int .i64 0, .int .i64 0, .slice none 0 0, .slice none 0 0, .int .i64 0, .int .i64 0, .slice none 0 0, .slice none 0 0, .int .i64 0, .slice none 0 0, .slice none 0 0]
theorem mes_cells {w : World} {g : Nat} {m : MsgD} {a : MsgA} (h : Box w g (msgC m a)) : w.cell? ⟨g, 0, none⟩ = some (.int .i64 m.k) ∧ w.cell? ⟨g, 1, none⟩ = some (.int .i64 m.f) ∧ w.cell? ⟨g, 2, none⟩ = some (.int .i64 m.t) ∧ w.cell? ⟨g, 3, none⟩ = some (.int .i64 m.d) ∧ w.cell? ⟨g, 4, none⟩ = some (.int .i64 m.ba) ∧ w.cell? ⟨g, 5, none⟩ = some (.int .i64 m.bn) ∧ w.cell? ⟨g, 6, none⟩ = some (.slice a.AL a.nL a.cL) ∧ w.cell? ⟨g, 7, none⟩ = some (.int .i64 m.ha) ∧ w.cell? ⟨g, 8, none⟩ = some (.int .i64 m.hr) ∧ w.cell? ⟨g, 9, none⟩ = some (.slice a.AhB a.nhB a.chB) ∧ w.cell? ⟨g, 10, none⟩ = some (.slice a.AhP a.nhP a.chP) ∧ w.cell? ⟨g, 11, none⟩ = some (.int .i64 m.ca) ∧ w.cell? ⟨g, 12, none⟩ = some (.int .i64 m.cr) ∧ w.cell? ⟨g, 13, none⟩ = some (.slice a.AcB a.ncB a.ccB) ∧ w.cell? ⟨g, 14, none⟩ = some (.slice a.AcP a.ncP a.ccP) ∧ w.cell? ⟨g, 15, none⟩ = some (.int .i64 m.cd) ∧ w.cell? ⟨g, 16, none⟩ = some (.slice a.AcS a.ncS a.ccS) ∧ w.cell? ⟨g, 17, none⟩ = some (.slice a.AD a.nD a.cD) :=
 ⟨(h.2 0 _ rfl).1, (h.2 1 _ rfl).1, (h.2 2 _ rfl).1, (h.2 3 _ rfl).1, (h.2 4 _ rfl).1, (h.2 5 _ rfl).1, (h.2 6 _ rfl).1, (h.2 7 _ rfl).1, (h.2 8 _ rfl).1, (h.2 9 _ rfl).1, (h.2 10 _ rfl).1, (h.2 11 _ rfl).1, (h.2 12 _ rfl).1, (h.2 13 _ rfl).1, (h.2 14 _ rfl).1, (h.2 15 _ rfl).1, (h.2 16 _ rfl).1, (h.2 17 _ rfl).1⟩
theorem MsgIn.wants {w : World} {m : MsgD} {a : MsgA} {gd : Nat} {d : Int} (h : MsgIn w m a) (hr : Rd w (some ⟨gd, 0, none⟩) (i64s [d])) : MsgIn w { m with D := [d] } { a with AD := some ⟨gd, 0, none⟩, nD := 1, cD := 1 } :=
 ⟨h.zL, h.rL, h.kL, h.xL, h.zhB, h.rhB, h.khB, h.xhB, h.zhP, h.rhP, h.khP, h.xhP, h.zcB, h.rcB, h.kcB, h.xcB, h.zcP, h.rcP, h.kcP, h.xcP, h.zcS, h.rcS, h.kcS, h.xcS, rfl, hr, Nat.le_refl _, (by decide : 1 ≤ maxLen)⟩
theorem MsgFew.wants {a : MsgA} {gd : Nat} (h : MsgFew 2000 a) : MsgFew 2000 { a with AD := some ⟨gd, 0, none⟩, nD := 1, cD := 1 } := ⟨h.sL, h.shB, h.shP, h.scB, h.scP, h.scS, (by decide : 1 ≤ 2000)⟩
theorem MsgOk.wants {m : MsgD} {d : Int} (h : MsgOk m) (hd : I64 d) : MsgOk { m with D := [d] } := ⟨h.wk, h.wf, h.wt, h.wd, h.wba, h.wbn, h.wL, h.wha, h.whr, h.whB, h.whP, h.wca, h.wcr, h.wcB, h.wcP, h.wcd, h.wcS, fun y hy => by rw [List.mem_singleton.1 hy]; exact hd⟩
theorem few_same {w w' : World} {m : MsgD} {a b : MsgA} {s : Nat} (h : MsgIn w m a) (h' : MsgIn w' m b) (hf : MsgFew s b) : MsgFew s a :=
 ⟨by have := h.zL; have := h'.zL; have := hf.sL; omega, by have := h.zhB; have := h'.zhB; have := hf.shB; omega, by have := h.zhP; have := h'.zhP; have := hf.shP; omega, by have := h.zcB; have := h'.zcB; have := hf.scB; omega,
  by have := h.zcP; have := h'.zcP; have := hf.scP; omega, by have := h.zcS; have := h'.zcS; have := hf.scS; omega, by have := h.zD; have := h'.zD; have := hf.sD; omega⟩
theorem fit_wrap (r : Nat) (h : r ≤ 16) : IntKind.i64.wrap (r : Int) = (r : Int) ∧ IntKind.i64.wrap ((r : Int) + 1) = (r : Int) + 1 := ⟨IntWalk.i64_in _ (by omega), IntWalk.i64_in _ (by omega)⟩
theorem fit_keep {B : Nat} {w w9 : World} {m m' : MsgD} {am : MsgA} (h : MsgNew B w9 m am) (s : SameL m m') (hB : w.heap.size ≤ B) : ∀ wX, Touch (fun j => j < w.heap.size) w9 wX → MsgIn wX m' am := fun wX hX =>
 ((h.kept fun j hj hl => hX.block j hl (by have := (h.lt hj).2; omega)).in_).same s
theorem fit_mod0 {i N : Int} (h : 1 ≤ i ∧ i ≤ N) (hN : N ≤ 16 ∧ 1 ≤ N) : ∃ r : Nat, i.tmod N = r ∧ r ≤ 16 := by
 refine ⟨(i % N).toNat, ?_, ?_⟩
 ·rw [Int.tmod_eq_emod_of_nonneg (by omega), Int.toNat_of_nonneg (Int.emod_nonneg _ (by omega))]
 ·have := Int.emod_lt_of_pos i (show 0 < N by omega)
  omega
theorem fit_mod {i N : Int} (h : 1 ≤ i ∧ i ≤ N) (hN : N ≤ 16 ∧ 1 ≤ N) : ∃ r : Nat, i.tmod N = r ∧ r ≤ 16 ∧ IntKind.i64.wrap (i.tmod N) = (r : Int) ∧ IntKind.i64.wrap ((r : Int) + 1) = (r : Int) + 1 := by
 obtain ⟨r, h1, h2⟩ := fit_mod0 h hN
 exact ⟨r, h1, h2, by rw [h1]; exact (fit_wrap r h2).1, (fit_wrap r h2).2⟩
def FitTo (k : Int) (w : World) (e : Ending) (w' : World) : Prop := ∃ (m' : MsgD) (am' : MsgA), e = .returned (msgV m' am') ∧ (∀ wX, Touch (fun j => j < w.heap.size) w' wX → MsgIn wX m' am') ∧ MsgFew 2000 am' ∧ MsgOk m' ∧ Below w.heap.size w w' ∧ m'.k = k

set_option maxHeartbeats 4000000 in
theorem fres (tmps : Array Value) (w : World) (g : Nat) (m : MsgD) (a : MsgA) (h4 : tmps.getD 4 undef = .pointer (some ⟨g, 0, none⟩)) (bx : Box w g (msgC m a)) :
  (results Tryz.f53 tmps).run Tryz.prog w = .ok (msgV m a) w := by
 obtain ⟨r0, r1, r2, r3, r4, r5, r6, r7, r8, r9, r10, r11, r12, r13, r14, r15, r16, r17⟩ := mes_cells bx
 rw [Array.getD_eq_getD_getElem?] at h4
 unfold msgV
 simp [results, Tryz.results53, go_sem, h4, r0, r1, r2, r3, r4, r5, r6, r7, r8, r9, r10, r11, r12, r13, r14, r15, r16, r17]

end Go.Proofs.YteepobghdpnabaaGreat
