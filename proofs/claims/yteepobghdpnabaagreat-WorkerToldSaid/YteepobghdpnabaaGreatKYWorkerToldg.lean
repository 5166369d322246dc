/-
 Package worker's Take: a batch that a node keeps.
-/
import Derived.Test.YteepobghdpnabaaGreatKYWorkerToldf
import Derived.Test.YteepobghdpnabaaGreatKDg
namespace Go.Proofs.YteepobghdpnabaaGreat
open Go.RowKit

set_option maxRecDepth 100000 in
set_option maxHeartbeats 16000000 in
theorem take_told (P : WkD) (a : WkA) (m : MsgD) (am : MsgA) (w : World) (h : WIn w P a) (hm : MsgIn w m am) (ho : MsgOk m) (hfm : MsgFew 1000000 am) (hf : WFew P 300000) (hok : ifMay P (takeE P m) = 0) (hk : m.k = 2) : Calls Tryz.prog 56 #[wkV P a, msgV m am] w (Ret3 (orW (ifMay P (takeE P m)) (takeW P m)) (orO (ifMay P (takeE P m)) (takeO P m)) (ifMay P (takeE P m)) w) := by
  obtain ⟨g, hg⟩ : ∃ g, g = w.heap.size := ⟨_, rfl⟩
  obtain ⟨wa0, hwa0⟩ : ∃ wa0, wa0 = w.alloc (.cells #[.int .i64 P.i, .int .i64 P.N, .int .i64 P.x, .slice a.O.A a.O.n a.O.c, .int .i64 P.g, .int .i64 P.c, .slice a.W.A a.W.n a.W.c, .slice a.H.A a.H.n a.H.c, .slice a.R.A a.R.n a.R.c] 27) := ⟨_, rfl⟩
  have hs0 : wa0.heap.size = g + 1 := by rw [hwa0]; simp; omega
  have bn0 : Box wa0 (g) (wkC P a) := by rw [hwa0, hg]; exact box_new w (wkC P a) 27
  have hb0 : Below g w wa0 := by rw [hwa0]; exact (Below.refl _ _).alloc (by omega) _
  obtain ⟨wa1, hwa1⟩ : ∃ wa1, wa1 = wa0.alloc (.cells #[.int .i64 m.k, .int .i64 m.f, .int .i64 m.t, .int .i64 m.d, .int .i64 m.ba, .int .i64 m.bn, .slice am.AL am.nL am.cL, .int .i64 m.ha, .int .i64 m.hr, .slice am.AhB am.nhB am.chB, .slice am.AhP am.nhP am.chP, .int .i64 m.ca, .int .i64 m.cr, .slice am.AcB am.ncB am.ccB, .slice am.AcP am.ncP am.ccP, .int .i64 m.cd, .slice am.AcS am.ncS am.ccS, .slice am.AD am.nD am.cD] 48) := ⟨_, rfl⟩
  have hs1 : wa1.heap.size = g + 2 := by rw [hwa1]; simp; omega
  have bn1 : Box wa1 (g + 1) (msgC m am) := by rw [hwa1, ← hs0]; exact box_new wa0 (msgC m am) 48
  have hb1 : Below g w wa1 := by rw [hwa1]; exact hb0.alloc (by omega) _
  obtain ⟨wa2, hwa2⟩ : ∃ wa2, wa2 = wa1.alloc (.cells #[.int .i64 0, .int .i64 0, .int .i64 0, .slice none 0 0, .int .i64 0, .int .i64 0, .slice none 0 0, .slice none 0 0, .slice none 0 0] 27) := ⟨_, rfl⟩
  have hs2 : wa2.heap.size = g + 3 := by rw [hwa2]; simp; omega
  have bn2 : Box wa2 (g + 2) (zeroC) := by rw [hwa2, ← hs1]; exact box_new wa1 (zeroC) 27
  have hb2 : Below g w wa2 := by rw [hwa2]; exact hb1.alloc (by omega) _
  have HX0 : Hid (Box wa2 (g) (wkC P a)) := ((bn0.below (show Below wa0.heap.size wa0 wa1 by rw [hwa1]; exact (Below.refl _ _).alloc (Nat.le_refl _) _) (by omega)).below (show Below wa1.heap.size wa1 wa2 by rw [hwa2]; exact (Below.refl _ _).alloc (Nat.le_refl _) _) (by omega))
  have HX1 : Hid (Box wa2 (g + 1) (msgC m am)) := (bn1.below (show Below wa1.heap.size wa1 wa2 by rw [hwa2]; exact (Below.refl _ _).alloc (Nat.le_refl _) _) (by omega))
  have HX2 : Hid (Box wa2 (g + 2) (zeroC)) := bn2
  obtain ⟨w0, hw0⟩ : ∃ w0, w0 = wa2 := ⟨_, rfl⟩
  rw [← hw0] at HX0
  rw [← hw0] at HX1
  rw [← hw0] at HX2
  have hsz0 : w0.heap.size = g + 3 := by rw [hw0]; exact hs2
  have hb0w : Below g w w0 := by rw [hw0]; exact hb2
  have HW0 : Hid (((w.alloc (.cells #[.int .i64 P.i, .int .i64 P.N, .int .i64 P.x, .slice a.O.A a.O.n a.O.c, .int .i64 P.g, .int .i64 P.c, .slice a.W.A a.W.n a.W.c, .slice a.H.A a.H.n a.H.c, .slice a.R.A a.R.n a.R.c] 27)).alloc (.cells #[.int .i64 m.k, .int .i64 m.f, .int .i64 m.t, .int .i64 m.d, .int .i64 m.ba, .int .i64 m.bn, .slice am.AL am.nL am.cL, .int .i64 m.ha, .int .i64 m.hr, .slice am.AhB am.nhB am.chB, .slice am.AhP am.nhP am.chP, .int .i64 m.ca, .int .i64 m.cr, .slice am.AcB am.ncB am.ccB, .slice am.AcP am.ncP am.ccP, .int .i64 m.cd, .slice am.AcS am.ncS am.ccS, .slice am.AD am.nD am.cD] 48)).alloc (.cells #[.int .i64 0, .int .i64 0, .int .i64 0, .slice none 0 0, .int .i64 0, .int .i64 0, .slice none 0 0, .slice none 0 0, .slice none 0 0] 27) = w0) := by show ((w.alloc (.cells #[.int .i64 P.i, .int .i64 P.N, .int .i64 P.x, .slice a.O.A a.O.n a.O.c, .int .i64 P.g, .int .i64 P.c, .slice a.W.A a.W.n a.W.c, .slice a.H.A a.H.n a.H.c, .slice a.R.A a.R.n a.R.c] 27)).alloc (.cells #[.int .i64 m.k, .int .i64 m.f, .int .i64 m.t, .int .i64 m.d, .int .i64 m.ba, .int .i64 m.bn, .slice am.AL am.nL am.cL, .int .i64 m.ha, .int .i64 m.hr, .slice am.AhB am.nhB am.chB, .slice am.AhP am.nhP am.chP, .int .i64 m.ca, .int .i64 m.cr, .slice am.AcB am.ncB am.ccB, .slice am.AcP am.ncP am.ccP, .int .i64 m.cd, .slice am.AcS am.ncS am.ccS, .slice am.AD am.nD am.cD] 48)).alloc (.cells #[.int .i64 0, .int .i64 0, .int .i64 0, .slice none 0 0, .int .i64 0, .int .i64 0, .slice none 0 0, .slice none 0 0, .slice none 0 0] 27) = w0; rw [hw0, hwa2, hwa1, hwa0]
  have HG : Hid (w.heap.size = g) := hg.symm
  have HS0 := Lib.hid hsz0
  have HB0 := Lib.hid hb0w
  have hl0 : g < w0.heap.size := by omega
  have hl1 : g + 1 < w0.heap.size := by omega
  have hl2 : g + 2 < w0.heap.size := by omega
  have hgw : g ≤ w0.heap.size := by omega
  have hin0 := h.below' HB0.out HG.out
  have HIN : Hid (∀ wX, Below w0.heap.size w0 wX → WIn wX P a) := by show ∀ wX, _; exact fun wX hX => hin0.below hX
  have HMI : Hid (∀ wX, Below g w wX → MsgIn wX m am) := by show ∀ wX, _; exact fun wX hX => hm.below (by rw [HG.out]; exact hX)
  have HF := Lib.hid hf
  have hcheck := check_is (mayW P) P a w0 rfl hin0 (hf.more (by decide))
  have HMC : Hid (∀ b, messB m P.N = b → ∀ wX, Below g w wX → Calls Tryz.prog 101 #[msgV m am, .int .i64 P.N] wX (Tells wX.heap.size wX (.int .i64 (okV b)))) := by
    show ∀ b, _
    exact fun b hb wX hX => mcheck_is b m am P.N wX hb (HMI.out wX hX) ho hfm
  have HFM := Lib.hid hfm
  obtain ⟨hmay, hte⟩ := ifMay_zero hok
  have hmw := mayW_iff.1 hmay
  have hmt : messB m P.N = true ∧ m.t = P.i := by
    unfold takeE at hte
    split at hte
    · assumption
    · omega
  rw [hmay] at hcheck
  rw [hok]
  have HCK := Lib.hid hcheck
  have HMB := Lib.hid hmt.1
  have jt : (m.t == P.i) = true := by simp [hmt.2]
  have HMW := Lib.hid hmw
  obtain ⟨P4, hP4⟩ : ∃ P4, P4 = takeW P m := ⟨_, rfl⟩
  have HP4 := Lib.hid hP4
  have HQ : Hid (orW 0 (takeW P m) = P4) := by show _ = _; rw [hP4]; rfl
  have HL : Hid (orO 0 (takeO P m) = takeO P m) := by show _ = _; rfl
  have j0 : (m.k == 1) = false := by simp; omega
  have j3 : (m.k == 3) = false := by simp; omega
  have j2 : (m.k == 2) = true := by simp [hk]
  obtain ⟨P2, hP2⟩ : ∃ P2, P2 = ackW P m.d m.f := ⟨_, rfl⟩
  have h4 : P4 = settleW P2 := by rw [hP4, hP2, takeW, if_neg (by omega), if_pos hk]
  have hak : ∀ (B g : Nat) (aX : WkA) (wX : World), WAt B g wX P aX → Calls Tryz.prog 102 #[.pointer (some ⟨g, 0, none⟩), .int .i64 m.d, .int .i64 m.f] wX (WTo B g P2 wX) := by
    rw [hP2]
    exact fun B g aX wX hX => ack_any B g P aX m.d m.f wX hX hmw.drise hmw.srise (hf.more (by decide))
  have hst : ∀ (B g : Nat) (aX : WkA) (wX : World), WAt B g wX P2 aX → Calls Tryz.prog 96 #[.pointer (some ⟨g, 0, none⟩)] wX fun e w' => ∃ a', e = .returned (.tuple #[]) ∧ WAt B g w' P4 a' ∧ Touch (fun k => k = g ∨ aX.R.v.ownBlock = some k) wX w' := by
    rw [h4, hP2]
    intro B g aX wX hX
    refine (settle_any B g _ aX wX hX (show Go.Proofs.YteepobghdpnabaaGreat.may P.N = true from hmw.may) (ack_digs hmw.digs') (ack_few hf)).mono ?_
    rintro e w' ⟨a', r1, r2, r3, -, -⟩
    exact ⟨a', r1, r2, r3⟩
  have HAK := Lib.hid hak
  have HST := Lib.hid hst
  have HMS : Hid (([] : List (OtD × Ad)).map Prod.fst = takeO P m) := by show _ = _; rw [takeO, if_neg (by omega), if_neg (by omega)]; rfl
  clear hak hst h4 hP2 hk
  clear hg hsz0 hb0w hw0 hwa0 hs0 bn0 hb0 hwa1 hs1 bn1 hb1 hwa2 hs2 bn2 hb2
  clear hcheck hin0 h hm ho hfm hf hmay hte hmw hmt hok hP4
  unfold wkV Ad.v msgV
  go_enter Tryz.func56, Tryz.ntmps56
  go_upto_region 1 with fail
  rw [HG.out, HW0.out]
  go_upto_region 8 with (first
    | (refine wpList_load_box rfl 27 _ rfl g rfl (wkC P a) (HX0.out) _ Tryz.underlying27 rfl size_wk ?_)
    | (go_at_call 18; refine HCK.out.mono ?_; rintro e w1 ⟨rfl, hb1⟩; have k1 : w1.cell? ⟨g, 1, none⟩ = some (.int .i64 P.N) := ((HX0.out.below hb1 hl0).2 1 _ rfl).1; have hm1 : Below g w w1 := HB0.out.trans (hb1.mono hgw))
    | (refine wpList_load_box rfl 48 _ rfl (g + 1) rfl (msgC m am) (HX1.out.below hb1 hl1) _ Tryz.underlying48 rfl size_mes ?_)
    | (go_at_call 101; refine (HMC.out true HMB.out w1 hm1).mono ?_; rintro e w2 ⟨rfl, hb2⟩; have hb02 : Below w0.heap.size w0 w2 := hb1.trans (hb2.mono hb1.size); have q2 : w2.cell? ⟨g + 1, 2, none⟩ = some (.int .i64 m.t) := ((HX1.out.below hb02 hl1).2 2 _ rfl).1; have k0 : w2.cell? ⟨g, 0, none⟩ = some (.int .i64 P.i) := ((HX0.out.below hb02 hl0).2 0 _ rfl).1; have q0 : w2.cell? ⟨g + 1, 0, none⟩ = some (.int .i64 m.k) := ((HX1.out.below hb02 hl1).2 0 _ rfl).1)
    | (refine wpList_load_box rfl 27 _ rfl g rfl (wkC P a) (HX0.out.below hb02 hl0) _ Tryz.underlying27 rfl size_wk ?_)
    | (go_at_call 90; refine (clone_any P a w2 (HIN.out _ hb02) (HF.out.more (by decide))).mono ?_; rintro e w4 ⟨a4, rfl, hn4, hb4⟩)
    | (refine wpList_store_box rfl 27 _ _ rfl g 0 (wkC P a4) (wkC P a) (wkC P a4) rfl rfl ((HX0.out.below hb02 hl0).below hb4 (by have := hb02.size; omega)) (show 0 + 9 ≤ 9 by decide) rfl size_wk rfl ?_; intro w5 bx5 T5; have t5 := T5 (fun k => k = g) rfl; have b4 : Below w0.heap.size w0 w4 := hb02.trans (hb4.mono hb02.size); have q50 : w5.cell? ⟨g + 1, 0, none⟩ = some (.int .i64 m.k) := (((HX1.out.below b4 hl1).touch t5 (by omega)).2 0 _ rfl).1))
  have hAT5 : WAt w2.heap.size g w5 P a4 := ⟨bx5, hn4.touch t5 (fun k hk ho => by have := (hn4.core.lt ho).2; have := hb02.size; omega) (fun k hk ho => by have := (own_lt hn4.open_ ho).2; have := hb02.size; omega), by have := hb02.size; omega, by have := hb4.size; have := t5.size; omega⟩
  have hTK5 : TK w2.heap.size g m am w w5 := ⟨(HX1.out.below b4 hl1).touch t5 (by omega), (HX2.out.below b4 hl2).touch t5 (by omega), (HB0.out.trans (b4.mono hgw)).trans (t5.below (fun k hk => by omega) (by have := b4.size; omega)), by have := hb02.size; have := HS0.out; omega⟩
  obtain ⟨B, hB⟩ : ∃ B, B = w2.heap.size := ⟨_, rfl⟩
  rw [← hB] at hAT5 hTK5
  have HAT5 := Lib.hid hAT5
  have HTK5 := Lib.hid hTK5
  have hgB := hAT5.lt
  have hg2 := hTK5.lt
  have hB5 := hAT5.le
  obtain ⟨q0', q1, q3, q4, q5, q6, q17⟩ := msg_cells hTK5.msg
  clear hAT5 hTK5 hn4 hb4 b4 hb1 hb2 hb02 hm1 T5 t5 bx5 hB k1 q2 k0 q0' q0
  go_wp2_with (first
    | (go_at_call 102; refine (HAK.out B g a4 w5 HAT5.out).mono ?_; rintro e w6 ⟨a6, rfl, hAT6, hT6⟩)
    | (go_at_call 96; refine (HST.out B g a6 w6 hAT6).mono ?_; rintro e wZ ⟨aZ, rfl, hATZ, hTZ⟩
       have hTKZ := (HTK5.out.touch hT6).touch (hTZ.mono fun k hk => hk.imp id fun h => (own_lt hAT6.new.core.ready h).2))
    | (refine wpList_load_box rfl 27 _ rfl g rfl (wkC P4 aZ) (hATZ.box) _ Tryz.underlying27 rfl size_wk ?_)
    | (refine wpList_store_box rfl 27 _ _ rfl (g + 2) 0 (wkC P4 aZ) zeroC (wkC P4 aZ) rfl rfl hTKZ.res (show 0 + 9 ≤ 9 by decide) rfl size_wk rfl ?_; intro wE bxE TE))
  have tE := TE (fun k => k = g + 2) rfl
  have hrowZ := (rowOwn_none wZ B : RowOwn KM B wZ noAd [])
  have hrow2 := hrowZ.touch tE (fun k hk hf => by have := (own_lt hrowZ.row hk).2; omega) (fun y hy k hk hf => by have := (own_lt (hrowZ.sub y hy).1 hk).2; omega)
  have hbel : Below g w wE := hTKZ.bel.trans (tE.below (fun k hk => by omega) (by have := hTKZ.res.1; omega))
  obtain ⟨r0, r1, r2, r3, r4, r5, r6, r7, r8⟩ := wk_cells bxE
  refine bodyPost_ret (v := .tuple #[wkV P4 aZ, .slice none 0 0, .int .i64 0]) (by simp [results, Tryz.results56, go_sem, r0, r1, r2, r3, r4, r5, r6, r7, r8, wkV, Ad.v]) rfl ⟨aZ, noAd, [], by rw [HQ.out]; rfl, ?_, hrow2.more (by rw [HG.out]; omega), by rw [HL.out]; exact HMS.out, fun y hy => by simp at hy, by rw [HG.out]; exact hbel⟩
  rw [HQ.out, HG.out]
  exact (hATZ.new.touch tE (fun k hk ho => by have := (hATZ.new.core.lt ho).2; omega) (fun k hk ho => by have := (own_lt hATZ.new.open_ ho).2; omega)).more (by omega)

end Go.Proofs.YteepobghdpnabaaGreat
namespace Go.Proofs.YteepobghdpnabaaGreat
open Go.RowKit

theorem rtakeIs_2 : RTakeIs 2 := fun P a m am w h hm hfm hf hmy hk => by
 by_cases hE : takeE P m = 0
 ·have h0 := hE
  unfold takeE at h0
  split at h0
  ·rename_i hc
   exact rtake_2 P a m am w h hm hfm hf hmy hc.1 hc.2 hk
  ·exact absurd h0 (by decide)
 ·exact rtake_no P a m am w h hm hfm hf hmy hE
theorem takeIs_2 : TakeIs 2 := fun P a m am w h hm ho hfm hf hk => by
 by_cases hok : ifMay P (takeE P m) = 0
 ·exact take_told P a m am w h hm ho hfm hf hok hk
 ·exact take_no P a m am w h hm ho hfm hf hok

end Go.Proofs.YteepobghdpnabaaGreat
namespace Go.Proofs.YteepobghdpnabaaGreat
open Go.RowKit

set_option maxRecDepth 100000 in
theorem workerTold_walk (s : ScrZ) (w : World) (h : ScrIn w s) : Calls Tryz.prog 12 #[scrV s] w (Tells w.heap.size w (.bool true)) := by
 obtain ⟨w1, hw1⟩ : ∃ w1, w1 = w.alloc (.cells #[.int .i64 s.P.i, .int .i64 s.P.N, .int .i64 s.P.x, .slice s.a.O.A s.a.O.n s.a.O.c, .int .i64 s.P.g, .int .i64 s.P.c, .slice s.a.W.A s.a.W.n s.a.W.c, .slice s.a.H.A s.a.H.n s.a.H.c, .slice s.a.R.A s.a.R.n s.a.R.c, .slice s.A s.n s.c] 30) := ⟨_, rfl⟩
 have hb1 : Below w.heap.size w w1 := by rw [hw1]; exact (Below.refl _ _).alloc (Nat.le_refl _) _
 have bx1 : Box w1 w.heap.size (scrC s) := by rw [hw1]; exact box_new w (scrC s) 30
 have HW := Lib.hid hw1
 have HX := Lib.hid bx1
 have HI := Lib.hid (h.below hb1)
 clear hw1 bx1 h
 unfold scrV
 go_enter Tryz.func12, Tryz.ntmps12
 go_upto_region 1 with fail
 rw [← HW.out]
 go_wp2_with (refine wpList_load_box rfl 30 _ rfl w.heap.size rfl (scrC s) HX.out _ Tryz.underlying30 rfl size_scr ?_)
 refine (takes_is 2 (fun P a x w h hg hx hf hr hk => step_take 0 P a x w h hg (by decide) hx hf 2 rtakeIs_2 takeIs_2 hk hr) s _ HI.out).mono ?_
 rintro e w2 ⟨rfl, hq2⟩
 go_wp2_with fail
 go_ret
 exact ⟨rfl, hb1.trans (hq2.mono hb1.size)⟩

end Go.Proofs.YteepobghdpnabaaGreat
