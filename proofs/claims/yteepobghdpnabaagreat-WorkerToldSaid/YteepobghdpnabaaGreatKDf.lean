/-
 An act's message, made to fit a worker: the walk.
-/
import Derived.Test.YteepobghdpnabaaGreatKDe
namespace Go.Proofs.YteepobghdpnabaaGreat
open Go.RowKit

set_option maxRecDepth 100000 in
set_option maxHeartbeats 16000000 in
theorem fit_any (P : WkD) (a : WkA) (x : ActD) (w : World) (h : WIn w P a) (hf : WFew P 1000000) (hx : ActIn w x) (hfew : MsgFew 2000 x.b) : Calls Tryz.prog 53 #[wkV P a, actV x] w (FitTo x.m.k w) := by
 obtain ⟨g, hg⟩ : ∃ g, g = w.heap.size := ⟨_, rfl⟩
 obtain ⟨wa0, hwa0⟩ : ∃ wa0, wa0 = w.alloc (.cells #[.int .i64 P.i, .int .i64 P.N, .int .i64 P.x, .slice a.O.A a.O.n a.O.c, .int .i64 P.g, .int .i64 P.c, .slice a.W.A a.W.n a.W.c, .slice a.H.A a.H.n a.H.c, .slice a.R.A a.R.n a.R.c] 27) := ⟨_, rfl⟩
 have hs0 : wa0.heap.size = g + 1 := by rw [hwa0]; simp; omega
 have bn0 : Box wa0 (g) (wkC P a) := by rw [hwa0, hg]; exact box_new w (wkC P a) 27
 have hb0 : Below g w wa0 := by rw [hwa0]; exact (Below.refl _ _).alloc (by omega) _
 obtain ⟨wa1, hwa1⟩ : ∃ wa1, wa1 = wa0.alloc (.cells #[.int .i64 x.Do, .int .i64 x.D, .int .i64 x.t.s, .int .i64 x.t.q, .string x.t.k, .string x.t.v, .int .i64 x.m.k, .int .i64 x.m.f, .int .i64 x.m.t, .int .i64 x.m.d, .int .i64 x.m.ba, .int .i64 x.m.bn, .slice x.b.AL x.b.nL x.b.cL, .int .i64 x.m.ha, .int .i64 x.m.hr, .slice x.b.AhB x.b.nhB x.b.chB, .slice x.b.AhP x.b.nhP x.b.chP, .int .i64 x.m.ca, .int .i64 x.m.cr, .slice x.b.AcB x.b.ncB x.b.ccB, .slice x.b.AcP x.b.ncP x.b.ccP, .int .i64 x.m.cd, .slice x.b.AcS x.b.ncS x.b.ccS, .slice x.b.AD x.b.nD x.b.cD, .bool x.fit, .slice x.A x.n x.c] 50) := ⟨_, rfl⟩
 have hs1 : wa1.heap.size = g + 2 := by rw [hwa1]; simp; omega
 have bn1 : Box wa1 (g + 1) (actC x) := by rw [hwa1, ← hs0]; exact box_new wa0 (actC x) 50
 have hb1 : Below g w wa1 := by rw [hwa1]; exact hb0.alloc (by omega) _
 obtain ⟨wa2, hwa2⟩ : ∃ wa2, wa2 = wa1.alloc (.cells #[.int .i64 0, .int .i64 0, .int .i64 0, .int .i64 0, .int .i64 0, .int .i64 0, .slice none 0 0, .int .i64 0, .int .i64 0, .slice none 0 0, .slice none 0 0, .int .i64 0, .int .i64 0, .slice none 0 0, .slice none 0 0, .int .i64 0, .slice none 0 0, .slice none 0 0] 48) := ⟨_, rfl⟩
 have hs2 : wa2.heap.size = g + 3 := by rw [hwa2]; simp; omega
 have bn2 : Box wa2 (g + 2) (zeroMC) := by rw [hwa2, ← hs1]; exact box_new wa1 (zeroMC) 48
 have hb2 : Below g w wa2 := by rw [hwa2]; exact hb1.alloc (by omega) _
 have HX0 : Hid (Box wa2 (g) (wkC P a)) := ((bn0.below (show Below wa0.heap.size wa0 wa1 by rw [hwa1]; exact (Below.refl _ _).alloc (Nat.le_refl _) _) (by omega)).below (show Below wa1.heap.size wa1 wa2 by rw [hwa2]; exact (Below.refl _ _).alloc (Nat.le_refl _) _) (by omega))
 have HX1 : Hid (Box wa2 (g + 1) (actC x)) := (bn1.below (show Below wa1.heap.size wa1 wa2 by rw [hwa2]; exact (Below.refl _ _).alloc (Nat.le_refl _) _) (by omega))
 have HX2 : Hid (Box wa2 (g + 2) (zeroMC)) := bn2
 obtain ⟨w0, hw0⟩ : ∃ w0, w0 = wa2 := ⟨_, rfl⟩
 rw [← hw0] at HX0
 rw [← hw0] at HX1
 rw [← hw0] at HX2
 have hsz0 : w0.heap.size = g + 3 := by rw [hw0]; exact hs2
 have hb0w : Below g w w0 := by rw [hw0]; exact hb2
 have HW0 : Hid (((w.alloc (.cells #[.int .i64 P.i, .int .i64 P.N, .int .i64 P.x, .slice a.O.A a.O.n a.O.c, .int .i64 P.g, .int .i64 P.c, .slice a.W.A a.W.n a.W.c, .slice a.H.A a.H.n a.H.c, .slice a.R.A a.R.n a.R.c] 27)).alloc (.cells #[.int .i64 x.Do, .int .i64 x.D, .int .i64 x.t.s, .int .i64 x.t.q, .string x.t.k, .string x.t.v, .int .i64 x.m.k, .int .i64 x.m.f, .int .i64 x.m.t, .int .i64 x.m.d, .int .i64 x.m.ba, .int .i64 x.m.bn, .slice x.b.AL x.b.nL x.b.cL, .int .i64 x.m.ha, .int .i64 x.m.hr, .slice x.b.AhB x.b.nhB x.b.chB, .slice x.b.AhP x.b.nhP x.b.chP, .int .i64 x.m.ca, .int .i64 x.m.cr, .slice x.b.AcB x.b.ncB x.b.ccB, .slice x.b.AcP x.b.ncP x.b.ccP, .int .i64 x.m.cd, .slice x.b.AcS x.b.ncS x.b.ccS, .slice x.b.AD x.b.nD x.b.cD, .bool x.fit, .slice x.A x.n x.c] 50)).alloc (.cells #[.int .i64 0, .int .i64 0, .int .i64 0, .int .i64 0, .int .i64 0, .int .i64 0, .slice none 0 0, .int .i64 0, .int .i64 0, .slice none 0 0, .slice none 0 0, .int .i64 0, .int .i64 0, .slice none 0 0, .slice none 0 0, .int .i64 0, .slice none 0 0, .slice none 0 0] 48) = w0) := by show ((w.alloc (.cells #[.int .i64 P.i, .int .i64 P.N, .int .i64 P.x, .slice a.O.A a.O.n a.O.c, .int .i64 P.g, .int .i64 P.c, .slice a.W.A a.W.n a.W.c, .slice a.H.A a.H.n a.H.c, .slice a.R.A a.R.n a.R.c] 27)).alloc (.cells #[.int .i64 x.Do, .int .i64 x.D, .int .i64 x.t.s, .int .i64 x.t.q, .string x.t.k, .string x.t.v, .int .i64 x.m.k, .int .i64 x.m.f, .int .i64 x.m.t, .int .i64 x.m.d, .int .i64 x.m.ba, .int .i64 x.m.bn, .slice x.b.AL x.b.nL x.b.cL, .int .i64 x.m.ha, .int .i64 x.m.hr, .slice x.b.AhB x.b.nhB x.b.chB, .slice x.b.AhP x.b.nhP x.b.chP, .int .i64 x.m.ca, .int .i64 x.m.cr, .slice x.b.AcB x.b.ncB x.b.ccB, .slice x.b.AcP x.b.ncP x.b.ccP, .int .i64 x.m.cd, .slice x.b.AcS x.b.ncS x.b.ccS, .slice x.b.AD x.b.nD x.b.cD, .bool x.fit, .slice x.A x.n x.c] 50)).alloc (.cells #[.int .i64 0, .int .i64 0, .int .i64 0, .int .i64 0, .int .i64 0, .int .i64 0, .slice none 0 0, .int .i64 0, .int .i64 0, .slice none 0 0, .slice none 0 0, .int .i64 0, .int .i64 0, .slice none 0 0, .slice none 0 0, .int .i64 0, .slice none 0 0, .slice none 0 0] 48) = w0; rw [hw0, hwa2, hwa1, hwa0]
 have HG : Hid (w.heap.size = g) := hg.symm
 have HS0 := Lib.hid hsz0
 have HB0 := Lib.hid hb0w
 have hl0 : g < w0.heap.size := by omega
 have hl1 : g + 1 < w0.heap.size := by omega
 have hl2 : g + 2 < w0.heap.size := by omega
 have hgw : g ≤ w0.heap.size := by omega
 have HAM : Hid (w0.rangeAt (g + 1) 6 (msgC x.m x.b)) := by
  have h1 := act_msg (b := g + 1) (o := 0) (x := x) (box_rangeZ HX1.out)
  rw [Nat.zero_add] at h1
  exact h1
 have hx0 := hx.below (by rw [HG.out]; exact HB0.out)
 have HCP := Lib.hid (rcopyMsg_any x.m x.b w0 hx0.m (hfew.more (by decide)))
 have HMAY := Lib.hid (fun (b : Bool) (hb : mayW P = b) (wX : World) (hX : Below w0.heap.size w0 wX) => rmayW_is b P a wX hb ((h.below (by rw [HG.out]; exact HB0.out)).below hX) hf)
 have HFW : Hid (MsgFew 2000 x.b) := hfew
 have HWF := Lib.hid hf
 have HOK : Hid (MsgOk x.m) := hx.ok
 have HIN : Hid (∀ wX, Below w0.heap.size w0 wX → WIn wX P a) := by show ∀ wX, _; exact fun wX hX => (h.below (by rw [HG.out]; exact HB0.out)).below hX
 have HAI : Hid (MsgIn w0 x.m x.b) := hx0.m
 have HG0 : Hid (w.heap.size ≤ w0.heap.size) := by show _ ≤ _; rw [HG.out]; exact hgw
 clear hg hsz0 hb0w hw0 hwa0 hs0 bn0 hb0 hwa1 hs1 bn1 hb1 hwa2 hs2 bn2 hb2
 clear hx hx0 h hf hfew
 unfold wkV Ad.v actV
 go_enter Tryz.func53, Tryz.ntmps53
 go_upto_region 1 with fail
 rw [HG.out, HW0.out]
 go_upto_region 2 with (first
  | (refine wpList_load_mid rfl 48 _ rfl (g + 1) 6 rfl (msgC x.m x.b) _ HAM.out Tryz.underlying48 rfl size_mesF ?_)
  | (go_at_call 55; refine HCP.out.mono ?_; rintro e w3 ⟨am, rfl, hn3, hfm3, hb3⟩)
  | (refine wpList_store_box rfl 48 _ _ rfl w3.heap.size 0 (msgC x.m am) zeroMC (msgC x.m am) rfl rfl (box_new w3 zeroMC 48) (show 0 + 18 ≤ 18 by decide) rfl size_mesF rfl ?_; intro w4 bx4 T4))
 obtain ⟨q, hq⟩ : ∃ q, q = w3.heap.size := ⟨_, rfl⟩
 have HFM : Hid (MsgFew 2000 am) := few_same hn3.in_ HAI.out HFW.out
 have HN3 : Hid (MsgNew w0.heap.size w3 x.m am) := hn3
 rw [← hq] at bx4 T4 ⊢
 have hsz3 := hb3.size
 have t4 := T4 (fun k => k = q) rfl
 have hb34 : Below w3.heap.size w3 w4 := ((Below.refl _ _).alloc (Nat.le_refl _) _).trans (t4.below (fun k hk => by omega) (by simp))
 have HS4 : Hid (FitAt w3 q x.m am w4 x.m) := ⟨hb34, bx4, HOK.out, ⟨rfl, rfl, rfl, rfl, rfl, rfl, rfl, rfl⟩⟩
 have HB3 : Hid (Below w0.heap.size w0 w3) := hb3
 have HZ3 : Hid (Box w3 (g + 2) zeroMC) := HX2.out.below hb3 hl2
 have hg23 : g + 2 < w3.heap.size := by omega
 have hq3 : w3.heap.size = q := hq.symm
 have HEND : Hid (∀ w8 w9, Below w3.heap.size w3 w8 → Touch (fun k => k = g + 2) w8 w9 → Below w.heap.size w w9 ∧ MsgNew w0.heap.size w9 x.m am) := by
  show ∀ w8 w9, _
  intro w8 w9 h8 t9
  have h08 := HB3.out.trans (h8.mono hsz3)
  refine ⟨by rw [HG.out]; exact (HB0.out.trans (h08.mono hgw)).trans (t9.below (fun k hk => by omega) (by have := h08.size; omega)), ?_⟩
  have h1 := HN3.out.below h8
  exact h1.kept fun k hk hlt => t9.block k hlt (fun e => by have := (h1.lt hk).2; omega)
 have HXX : Hid (∀ wX, Below w3.heap.size w3 wX → wX.cell? ⟨g, 0, none⟩ = some (.int .i64 P.i) ∧ wX.cell? ⟨g, 1, none⟩ = some (.int .i64 P.N) ∧ wX.cell? ⟨g, 6, none⟩ = some (.slice a.W.A a.W.n a.W.c) ∧ wX.cell? ⟨g, 7, none⟩ = some (.slice a.H.A a.H.n a.H.c) ∧ wX.cell? ⟨g + 1, 1, none⟩ = some (.int .i64 x.D) ∧ wX.cell? ⟨g + 1, 24, none⟩ = some (.bool x.fit)) := by
  show ∀ wX, _
  intro wX hX
  have h0X := HB3.out.trans (hX.mono hsz3)
  have b0 := HX0.out.below h0X hl0
  have b1 := HX1.out.below h0X hl1
  exact ⟨(b0.2 0 _ rfl).1, (b0.2 1 _ rfl).1, (b0.2 6 _ rfl).1, (b0.2 7 _ rfl).1, (b1.2 1 _ rfl).1, (b1.2 24 _ rfl).1⟩
 have HWB : Hid (∀ wX, Below w3.heap.size w3 wX → Box wX g (wkC P a)) := by
  show ∀ wX, _
  exact fun wX hX => HX0.out.below (HB3.out.trans (hX.mono hsz3)) hl0
 have HIN3 : Hid (∀ wX, Below w3.heap.size w3 wX → WIn wX P a) := by
  show ∀ wX, _
  exact fun wX hX => HIN.out wX (HB3.out.trans (hX.mono hsz3))
 have HMAY3 : Hid (∀ (b : Bool), mayW P = b → ∀ wX, Below w3.heap.size w3 wX → Calls Tryz.prog 16 #[wkV P a] wX (Tells wX.heap.size wX (.bool b))) := by
  show ∀ b : Bool, _
  exact fun b hb wX hX => HMAY.out b hb wX (HB3.out.trans (hX.mono hsz3))
 clear hn3 hfm3 hb3 T4 t4 hq hb34 bx4 HCP HAM HMAY HIN
 obtain ⟨c0, c1, c6, c7, d1, d24⟩ := HXX.out _ HS4.out.bel
 obtain ⟨fb, hfb⟩ : ∃ fb, fb = x.fit := ⟨_, rfl⟩
 rw [← hfb] at d24
 clear c6 c7 d1 hfb
 cases fb with
 | false =>
  go_wp2_with (first
   | (refine wpList_load_box rfl 48 _ rfl q rfl (msgC x.m am) HS4.out.box _ Tryz.underlying48 rfl size_mesF ?_)
   | (refine wpList_store_box rfl 48 _ _ rfl (g + 2) 0 (msgC x.m am) zeroMC (msgC x.m am) rfl rfl ((HZ3.out).below HS4.out.bel hg23) (show 0 + 18 ≤ 18 by decide) rfl size_mesF rfl ?_; intro w9 bx9 T9))
  have t9 := T9 (fun k => k = g + 2) rfl
  have hfin := HEND.out _ _ HS4.out.bel t9
  refine bodyPost_ret (v := msgV x.m am) (fres _ _ (g + 2) _ _ rfl bx9) rfl ⟨x.m, am, rfl, fit_keep hfin.2 HS4.out.same HG0.out, HFM.out, HS4.out.ok, hfin.1, HS4.out.same.k⟩
 | true =>
  by_cases hm : mayW P = true
  ·have HMC := Lib.hid (HMAY3.out true hm _ HS4.out.bel)
   have hmw := mayW_iff.1 hm
   have hN16 : P.N ≤ 16 ∧ 1 ≤ P.N := by have := hmw.nodes; simp [mayB] at this; omega
   have hid := hmw.id
   have HMW := Lib.hid hmw
   clear hmw hm
   by_cases hN : P.N < 2
   ·go_wp2_with (first
     | (refine wpList_load_boxG 27 _ rfl g rfl rfl (wkC P a) (HWB.out _ HS4.out.bel) _ Tryz.underlying27 rfl size_wk ?_)
     | (go_at_call 16; refine HMC.out.mono ?_; rintro e w5 ⟨rfl, hb5⟩; obtain ⟨e0, e1, e6, e7, x1, x24⟩ := HXX.out _ (HS4.out.bel.trans (hb5.mono HS4.out.bel.size)); have hs5 := HS4.out.below hb5)
     | (refine wpList_load_box rfl 48 _ rfl q rfl (msgC x.m am) hs5.box _ Tryz.underlying48 rfl size_mesF ?_)
     | (refine wpList_store_box rfl 48 _ _ rfl (g + 2) 0 (msgC x.m am) zeroMC (msgC x.m am) rfl rfl ((HZ3.out).below hs5.bel hg23) (show 0 + 18 ≤ 18 by decide) rfl size_mesF rfl ?_; intro w9 bx9 T9))
    have t9 := T9 (fun k => k = g + 2) rfl
    have hfin := HEND.out _ _ hs5.bel t9
    refine bodyPost_ret (v := msgV x.m am) (fres _ _ (g + 2) _ _ rfl bx9) rfl ⟨x.m, am, rfl, fit_keep hfin.2 hs5.same HG0.out, HFM.out, hs5.ok, hfin.1, hs5.same.k⟩
   ·go_upto_region 4 with (first
     | (refine wpList_load_boxG 27 _ rfl g rfl rfl (wkC P a) (HWB.out _ HS4.out.bel) _ Tryz.underlying27 rfl size_wk ?_)
     | (go_at_call 16; refine HMC.out.mono ?_; rintro e w5 ⟨rfl, hb5⟩; obtain ⟨e0, e1, e6, e7, x1, x24⟩ := HXX.out _ (HS4.out.bel.trans (hb5.mono HS4.out.bel.size)); have HS5 : Hid (FitAt w3 q x.m am w5 x.m) := HS4.out.below hb5))
    clear c0 c1 d24 e1 e6 e7 x1 x24 hb5 HS4 HMC
    go_upto_region 5 with (refine wpList_store_cell rfl 3 _ _ rfl q 2 (.int .i64 P.i) (msgC x.m am) rfl rfl rfl rfl HS5.out.box (show 2 < 18 by decide) size_int ?_; intro w6 bx6 T6)
    simp only [Act.put]
    have HS6 : Hid (FitAt w3 q x.m am w6 { x.m with t := P.i }) := ⟨HS5.out.bel.trans ((T6 (fun k => k = q) rfl).below (fun k hk => by omega) HS5.out.bel.size), bx6, ⟨HS5.out.ok.wk, HS5.out.ok.wf, (show I64 P.i by unfold I64; omega), HS5.out.ok.wd, HS5.out.ok.wba, HS5.out.ok.wbn, HS5.out.ok.wL, HS5.out.ok.wha, HS5.out.ok.whr, HS5.out.ok.whB, HS5.out.ok.whP, HS5.out.ok.wca, HS5.out.ok.wcr, HS5.out.ok.wcB, HS5.out.ok.wcP, HS5.out.ok.wcd, HS5.out.ok.wcS, HS5.out.ok.wD⟩, ⟨rfl, rfl, rfl, rfl, rfl, rfl, rfl, rfl⟩⟩
    clear HS5 bx6 T6 e0
    have qf := (HS6.out.box.2 1 _ rfl).1
    obtain ⟨c0, c1, c6, c7, d1, d24⟩ := HXX.out _ HS6.out.bel
    clear c6 c7 d1 d24
    go_cut [42] from 26 to 41 (fun bv wx => (∃ b : Bool, bv = .bool b) ∧ w6 = wx)
    case first =>
     by_cases g1 : x.m.f < 1
     ·go_wp2_with fail
      go_meet
      exact ⟨⟨_, rfl⟩, rfl⟩
     ·by_cases g2 : P.N < x.m.f
      ·go_wp2_with fail
       go_meet
       exact ⟨⟨_, rfl⟩, rfl⟩
      ·by_cases g3 : x.m.f = P.i
       ·have j1 : (x.m.f == P.i) = true := by simp [g3]
        clear g3
        go_wp2_with fail
        go_meet
        exact ⟨⟨_, rfl⟩, rfl⟩
       ·have j1 : (x.m.f == P.i) = false := by simp [g3]
        clear g3
        go_wp2_with fail
        go_meet
        exact ⟨⟨_, rfl⟩, rfl⟩
    case rest =>
    obtain ⟨⟨b1, rfl⟩, rfl⟩ := hcut
    clear qf
    go_upto_if 42 with fail
    go_cut [] from 42 to 49 (fun wx => ∃ M, Hid (FitAt w3 q x.m am wx M))
    case first =>
     cases b1 with
     | false =>
      go_wp2_with fail
      go_meet
      exact ⟨_, HS6⟩
     | true =>
      have z0 : (P.N == 0) = false := by simp; omega
      have z1 : ¬ P.N = 0 := by omega
      obtain ⟨r, hr, hr16, z2, z3⟩ := fit_mod hid hN16
      go_wp2_with (refine wpList_store_cell rfl 3 _ _ rfl q 1 (.int .i64 ((r : Int) + 1)) (msgC { x.m with t := P.i } am) rfl rfl rfl rfl HS6.out.box (show 1 < 18 by decide) size_int ?_; intro w7 bx7 T7)
      go_meet
      clear hr z0 z1 z2 z3
      exact ⟨{ x.m with t := P.i, f := (r : Int) + 1 }, ⟨HS6.out.bel.trans ((T7 (fun k => k = q) rfl).below (fun k hk => by omega) HS6.out.bel.size), bx7, ⟨HS6.out.ok.wk, (show I64 ((r : Int) + 1) by unfold I64; omega), HS6.out.ok.wt, HS6.out.ok.wd, HS6.out.ok.wba, HS6.out.ok.wbn, HS6.out.ok.wL, HS6.out.ok.wha, HS6.out.ok.whr, HS6.out.ok.whB, HS6.out.ok.whP, HS6.out.ok.wca, HS6.out.ok.wcr, HS6.out.ok.wcB, HS6.out.ok.wcP, HS6.out.ok.wcd, HS6.out.ok.wcS, HS6.out.ok.wD⟩, ⟨rfl, rfl, rfl, rfl, rfl, rfl, rfl, rfl⟩⟩⟩
    case rest =>
    obtain ⟨M1, HS7⟩ := hcut
    clear HS6 c0 c1
    obtain ⟨c0, c1, c6, c7, d1, d24⟩ := HXX.out _ HS7.out.bel
    clear c0 c6 c7 d1 d24
    have qb := (HS7.out.box.2 4 _ rfl).1
    have qf := (HS7.out.box.2 1 _ rfl).1
    go_upto_if 55 with fail
    go_cut [] from 50 to 59 (fun wx => ∃ M, Hid (FitAt w3 q x.m am wx M))
    case first =>
     by_cases g1 : P.N < M1.ba
     ·go_wp2_with (refine wpList_store_cell rfl 3 _ _ rfl q 4 (.int .i64 M1.f) (msgC M1 am) rfl rfl rfl rfl HS7.out.box (show 4 < 18 by decide) size_int ?_; intro w8 bx8 T8)
      go_meet
      exact ⟨{ M1 with ba := M1.f }, ⟨HS7.out.bel.trans ((T8 (fun k => k = q) rfl).below (fun k hk => by omega) HS7.out.bel.size), bx8, ⟨HS7.out.ok.wk, HS7.out.ok.wf, HS7.out.ok.wt, HS7.out.ok.wd, HS7.out.ok.wf, HS7.out.ok.wbn, HS7.out.ok.wL, HS7.out.ok.wha, HS7.out.ok.whr, HS7.out.ok.whB, HS7.out.ok.whP, HS7.out.ok.wca, HS7.out.ok.wcr, HS7.out.ok.wcB, HS7.out.ok.wcP, HS7.out.ok.wcd, HS7.out.ok.wcS, HS7.out.ok.wD⟩, ⟨HS7.out.same.L, HS7.out.same.hB, HS7.out.same.hP, HS7.out.same.cB, HS7.out.same.cP, HS7.out.same.cS, HS7.out.same.D, HS7.out.same.k⟩⟩⟩
     ·go_wp2_with fail
      go_meet
      exact ⟨_, HS7⟩
    case rest =>
    obtain ⟨M2, HS8⟩ := hcut
    rename World => v8
    clear HS7 c1 qb qf M1
    obtain ⟨AW, nW, cW, hoW⟩ : ∃ A n c, a.W = ⟨A, n, c⟩ := ⟨_, _, _, rfl⟩
    obtain ⟨AH, nH, cH, hoH⟩ : ∃ A n c, a.H = ⟨A, n, c⟩ := ⟨_, _, _, rfl⟩
    have HOW := Lib.hid hoW
    have HOH := Lib.hid hoH
    rw [hoW, hoH] at HXX
    have hwin := HIN3.out _ HS8.out.bel
    have hmaxW : cW ≤ maxLen := by have := hwin.waits.row.max; rw [hoW] at this; exact this
    have hmaxH : cH ≤ maxLen := by have := hwin.held.row.max; rw [hoH] at this; exact this
    have hcapW : nW ≤ cW := by have := hwin.waits.row.cap; rw [hoW] at this; exact this
    have hcapH : nH ≤ cH := by have := hwin.held.row.cap; rw [hoH] at this; exact this
    have hW6 : nW ≤ 1000000 := by have h1 := hwin.waits.row.len; rw [hoW] at h1; have h2 := len_fst hwin.eW; have := HWF.out.w; simp only at h1; omega
    have hH6 : nH ≤ 1000000 := by have h1 := hwin.held.row.len; rw [hoH] at h1; have h2 := len_fst hwin.eH; have := HWF.out.h; simp only at h1; omega
    unfold maxLen at hmaxW hmaxH
    clear hoW hoH hwin
    obtain ⟨c0, c1, c6, c7, d1, d24⟩ := HXX.out _ HS8.out.bel
    clear c0 c1 c7 d1 d24
    have qk := (HS8.out.box.2 0 _ rfl).1
    go_upto_region 9 with fail
    go_cut [68] from 60 to 67 (fun bv wx => (∃ b : Bool, bv = .bool b ∧ (b = true → 0 < nW)) ∧ v8 = wx)
    case first =>
     by_cases g1 : M2.k = 2
     ·have j1 : (M2.k == 2) = true := by simp [g1]
      clear g1
      by_cases g2 : 0 < nW
      ·have i1 : (0 : Int) < (nW : Int) := by omega
       go_wp2_with fail
       go_meet
       exact ⟨⟨_, rfl, fun _ => g2⟩, rfl⟩
      ·have i1 : ¬ ((0 : Int) < (nW : Int)) := by omega
       go_wp2_with fail
       go_meet
       exact ⟨⟨_, rfl, fun h => by simp at h⟩, rfl⟩
     ·have j1 : (M2.k == 2) = false := by simp [g1]
      clear g1
      go_wp2_with fail
      go_meet
      exact ⟨⟨_, rfl, fun h => by simp at h⟩, rfl⟩
    case rest =>
    obtain ⟨⟨b2, rfl, hb2⟩, rfl⟩ := hcut
    clear qk c6
    go_upto_if 68 with fail
    go_cut [] from 68 to 80 (fun wx => ∃ M, Hid (FitAt w3 q x.m am wx M))
    case first =>
     cases b2 with
     | false =>
      go_wp2_with fail
      go_meet
      exact ⟨_, HS8⟩
     | true =>
      obtain ⟨rr, hrr, hrv⟩ := withinG_val x.D nW (hb2 rfl) (by omega)
      have HRVV := Lib.hid hrv
      clear hrv
      have hwin := HIN3.out _ HS8.out.bel
      obtain ⟨y, hy⟩ : ∃ y, a.ms[rr]? = some y := ⟨_, List.getElem?_eq_getElem (by have h1 : a.ms.length = nW := by { have := hwin.waits.row.len; rw [HOW.out] at this; exact this }; rw [h1]; exact hrr)⟩
      have hy2 : P.W[rr]? = some y.1 := by rw [← hwin.eW, List.getElem?_map, hy]; rfl
      have hyd : 1 ≤ y.1.d ∧ y.1.d ≤ 65536 := by
       have h1 := (HMW.out.waits rr y.1 hy2).1
       simp [digB] at h1
       omega
      obtain ⟨b, off, hA, -, -, -⟩ := hwin.waits.cells hy
      rw [HOW.out] at hA
      simp only at hA
      subst hA
      have HCD : Hid (∀ wX, Below w3.heap.size w3 wX → wX.cell? ⟨b, off + rr * 2, none⟩ = some (.int .i64 y.1.d)) := by
       show ∀ wX, _
       intro wX hX
       obtain ⟨b', off', hA', -, -, hc⟩ := (HIN3.out wX hX).waits.cells hy
       rw [HOW.out] at hA'
       simp only [Option.some.injEq, Addr.mk.injEq, and_true] at hA'
       obtain ⟨rfl, rfl⟩ := hA'
       exact hc 0 _ rfl
      have i0 : (0 : Int) ≤ (rr : Int) := by omega
      have i1 : (rr : Int) < (nW : Int) := by omega
      obtain ⟨yd, hyd2⟩ : ∃ yd, yd = y.1.d := ⟨_, rfl⟩
      rw [← hyd2] at HCD hyd
      clear hwin hy hy2 hyd2 hb2
      go_upto_region 10 with fail
      have hS0 : Below w3.heap.size w3 (v8.drew) := HS8.out.bel.drew
      refine wp_region_held_drew (S := fun w' => Below w3.heap.size w3 w') (by kernel_rfl) hS0 (fun _ => ?_)
      refine ytake_0 (v := ?vv3) (by kernel_rfl) (by kernel_rfl) (by kernel_rfl) (fun _ _ _ h => h) (Or.inl ⟨by rfl, ?hy3⟩) hS0 ?_
      case hy3 =>
       intro wX hSw
       go_simp
       try with_reducible rfl
      try simp only [Act.put, List.setIfInBounds_toArray, List.set_cons_zero, List.set_cons_succ]
      refine ytake_1 (v := ?vv4) (by kernel_rfl) (by kernel_rfl) (by kernel_rfl) (fun _ _ _ h => h) (Or.inl ⟨by rfl, ?hy4⟩) hS0 ?_
      case hy4 =>
       intro wX hSw
       obtain ⟨c0, c1, c6, c7, d1, d24⟩ := HXX.out _ hSw
       go_simp
       try with_reducible rfl
      try simp only [Act.put, List.setIfInBounds_toArray, List.set_cons_zero, List.set_cons_succ]
      refine ytake_2 (v := ?vv5) (by kernel_rfl) (by kernel_rfl) (by kernel_rfl) (fun _ _ _ h => h) (Or.inl ⟨by rfl, ?hy5⟩) hS0 ?_
      case hy5 =>
       intro wX hSw
       go_simp
       try with_reducible rfl
      try simp only [Act.put, List.setIfInBounds_toArray, List.set_cons_zero, List.set_cons_succ]
      refine ytake_3 (v := ?vv6) (by kernel_rfl) (by kernel_rfl) (by kernel_rfl) (fun _ _ _ h => h) (Or.inl ⟨by rfl, ?hy6⟩) hS0 ?_
      case hy6 =>
       intro wX hSw
       obtain ⟨c0, c1, c6, c7, d1, d24⟩ := HXX.out _ hSw
       go_simp
       try with_reducible rfl
      try simp only [Act.put, List.setIfInBounds_toArray, List.set_cons_zero, List.set_cons_succ]
      refine ytake_4 (v := ?vv7) (by kernel_rfl) (by kernel_rfl) (by kernel_rfl) (fun _ _ _ h => h) (Or.inl ⟨by rfl, ?hy7⟩) hS0 ?_
      case hy7 =>
       intro wX hSw
       go_simp
       try with_reducible rfl
      try simp only [Act.put, List.setIfInBounds_toArray, List.set_cons_zero, List.set_cons_succ]
      refine ytake_5 (v := ?vv8) (by kernel_rfl) (by kernel_rfl) (by kernel_rfl) (fun _ _ _ h => h) (Or.inl ⟨by rfl, ?hy8⟩) hS0 ?_
      case hy8 =>
       intro wX hSw
       obtain ⟨c0, c1, c6, c7, d1, d24⟩ := HXX.out _ hSw
       go_simp
       try with_reducible rfl
      try simp only [Act.put, List.setIfInBounds_toArray, List.set_cons_zero, List.set_cons_succ]
      refine ytake_6 (v := ?vv9) (by kernel_rfl) (by kernel_rfl) (by kernel_rfl) (fun _ _ _ h => h) (Or.inl ⟨by rfl, ?hy9⟩) hS0 ?_
      case hy9 =>
       intro wX hSw
       go_simp
       try with_reducible rfl
      try simp only [Act.put, List.setIfInBounds_toArray, List.set_cons_zero, List.set_cons_succ]
      refine yready_7 (by kernel_rfl) ?_
      intro KQ hK
      rw [if_pos (by rfl)]
      try go_simp
      refine (withinG_is x.D nW rr _ HRVV.out (by omega) (by omega)).mono ?_
      rintro e w' ⟨rfl, rfl⟩
      refine hK.out _ _ hS0 (fun _ => ?_)
      clear hK KQ
      try simp only [Act.put, List.setIfInBounds_toArray, List.set_cons_zero, List.set_cons_succ]
      refine ytake_8 (v := ?vv10) (by kernel_rfl) (by kernel_rfl) (by kernel_rfl) (fun _ _ _ h => h) (Or.inl ⟨by rfl, ?hy10⟩) hS0 ?_
      case hy10 =>
       intro wX hSw
       go_simp
       try with_reducible rfl
      try simp only [Act.put, List.setIfInBounds_toArray, List.set_cons_zero, List.set_cons_succ]
      refine ytake_9 (v := ?vv11) (by kernel_rfl) (by kernel_rfl) (by kernel_rfl) (fun _ _ _ h => h) (Or.inl ⟨by rfl, ?hy11⟩) hS0 ?_
      case hy11 =>
       intro wX hSw
       go_simp
       try with_reducible rfl
      try simp only [Act.put, List.setIfInBounds_toArray, List.set_cons_zero, List.set_cons_succ]
      refine ytake_10 (v := ?vv12) (by kernel_rfl) (by kernel_rfl) (by kernel_rfl) (fun _ _ _ h => h) (Or.inl ⟨by rfl, ?hy12⟩) hS0 ?_
      case hy12 =>
       intro wX hSw
       have hcd := HCD.out _ hSw
       go_simp
       try with_reducible rfl
      try simp only [Act.put, List.setIfInBounds_toArray, List.set_cons_zero, List.set_cons_succ]
      refine ytake_11 (v := ?vv1) (by kernel_rfl) (by kernel_rfl) (by kernel_rfl) (fun _ _ _ h => h) (Or.inl ⟨by rfl, ?hy1⟩) hS0 ?_
      case hy1 =>
       intro wX hSw
       go_simp
       try with_reducible rfl
      try simp only [Act.put, List.setIfInBounds_toArray, List.set_cons_zero, List.set_cons_succ]
      have qd := (HS8.out.box.2 3 _ rfl)
      have k3 : v8.drew.cell? ⟨q, 3, none⟩ = some (.int .i64 M2.d) := qd.1
      have f3 : v8.drew.frozen? ⟨q, 3, none⟩ = false := qd.2
      have hs9 : FitAt w3 q x.m am (v8.drew.setCell ⟨q, 3, none⟩ (.int .i64 yd)) { M2 with d := yd } := ⟨hS0.setCell (show w3.heap.size ≤ q by omega) _, (HS8.out.box.below (Below.refl _ _).drew HS8.out.box.1).set (j := 3) (show 3 < 18 by decide), ⟨HS8.out.ok.wk, HS8.out.ok.wf, HS8.out.ok.wt, (show I64 yd by unfold I64; omega), HS8.out.ok.wba, HS8.out.ok.wbn, HS8.out.ok.wL, HS8.out.ok.wha, HS8.out.ok.whr, HS8.out.ok.whB, HS8.out.ok.whP, HS8.out.ok.wca, HS8.out.ok.wcr, HS8.out.ok.wcB, HS8.out.ok.wcP, HS8.out.ok.wcd, HS8.out.ok.wcS, HS8.out.ok.wD⟩, ⟨HS8.out.same.L, HS8.out.same.hB, HS8.out.same.hP, HS8.out.same.cB, HS8.out.same.cP, HS8.out.same.cS, HS8.out.same.D, HS8.out.same.k⟩⟩
      have HS9 := Lib.hid hs9
      have hS9 := hs9.bel
      clear hs9 qd
      refine yready_12 (by kernel_rfl) ?_
      intro KQ hK
      rw [if_pos (by rfl)]
      unfold Oper.wp execOp
      go_simp
      refine hK.out _ _ hS9 (fun _ => ?_)
      clear hK KQ
      try simp only [Act.put, List.setIfInBounds_toArray, List.set_cons_zero, List.set_cons_succ]
      refine wpAnyH_done (by kernel_rfl) ?_ _
      go_wp2_with fail
      go_meet
      exact ⟨_, HS9⟩
    case rest =>
    obtain ⟨M3, HS9⟩ := hcut
    rename World => v9
    clear HS8
    obtain ⟨c0, c1, c6, c7, d1, d24⟩ := HXX.out _ HS9.out.bel
    clear c0 c1 c6 d1 d24
    have qk := (HS9.out.box.2 0 _ rfl).1
    go_upto_region 11 with fail
    go_cut [89] from 81 to 88 (fun bv wx => (∃ b : Bool, bv = .bool b ∧ (b = true → 0 < nH)) ∧ v9 = wx)
    case first =>
     by_cases g1 : M3.k = 7
     ·have j1 : (M3.k == 7) = true := by simp [g1]
      clear g1
      by_cases g2 : 0 < nH
      ·have i1 : (0 : Int) < (nH : Int) := by omega
       go_wp2_with fail
       go_meet
       exact ⟨⟨_, rfl, fun _ => g2⟩, rfl⟩
      ·have i1 : ¬ ((0 : Int) < (nH : Int)) := by omega
       go_wp2_with fail
       go_meet
       exact ⟨⟨_, rfl, fun h => by simp at h⟩, rfl⟩
     ·have j1 : (M3.k == 7) = false := by simp [g1]
      clear g1
      go_wp2_with fail
      go_meet
      exact ⟨⟨_, rfl, fun h => by simp at h⟩, rfl⟩
    case rest =>
    obtain ⟨⟨b3, rfl, hb3⟩, rfl⟩ := hcut
    clear qk c7
    cases b3 with
    | false =>
     go_wp2_with (first
      | (refine wpList_load_box rfl 48 _ rfl q rfl (msgC M3 am) HS9.out.box _ Tryz.underlying48 rfl size_mesF ?_)
      | (refine wpList_store_box rfl 48 _ _ rfl (g + 2) 0 (msgC M3 am) zeroMC (msgC M3 am) rfl rfl ((HZ3.out).below HS9.out.bel hg23) (show 0 + 18 ≤ 18 by decide) rfl size_mesF rfl ?_; intro w9 bx9 T9))
     have t9 := T9 (fun k => k = g + 2) rfl
     have hfin := HEND.out _ _ HS9.out.bel t9
     refine bodyPost_ret (v := msgV M3 am) (fres _ _ (g + 2) _ _ rfl bx9) rfl ⟨M3, am, rfl, fit_keep hfin.2 HS9.out.same HG0.out, HFM.out, HS9.out.ok, hfin.1, HS9.out.same.k⟩
    | true =>
     obtain ⟨rr, hrr, hrv⟩ := withinG_val x.D nH (hb3 rfl) (by omega)
     have HRVV := Lib.hid hrv
     clear hrv
     have hwin := HIN3.out _ HS9.out.bel
     obtain ⟨y, hy⟩ : ∃ y, a.hs[rr]? = some y := ⟨_, List.getElem?_eq_getElem (by have h1 : a.hs.length = nH := by { have := hwin.held.row.len; rw [HOH.out] at this; exact this }; rw [h1]; exact hrr)⟩
     have hy2 : P.H[rr]? = some y.1 := by rw [← hwin.eH, List.getElem?_map, hy]; rfl
     have hyd : 1 ≤ y.1.d ∧ y.1.d ≤ 65536 := by
      have h1 := (HMW.out.held rr y.1 hy2).1
      simp [digB] at h1
      omega
     obtain ⟨b, off, hA, -, -, -⟩ := hwin.held.cells hy
     rw [HOH.out] at hA
     simp only at hA
     subst hA
     have HCD : Hid (∀ wX, Below w3.heap.size w3 wX → wX.cell? ⟨b, off + rr * 4, none⟩ = some (.int .i64 y.1.d)) := by
      show ∀ wX, _
      intro wX hX
      obtain ⟨b', off', hA', -, -, hc⟩ := (HIN3.out wX hX).held.cells hy
      rw [HOH.out] at hA'
      simp only [Option.some.injEq, Addr.mk.injEq, and_true] at hA'
      obtain ⟨rfl, rfl⟩ := hA'
      exact hc 0 _ rfl
     have i0 : (0 : Int) ≤ (rr : Int) := by omega
     have i1 : (rr : Int) < (nH : Int) := by omega
     obtain ⟨yd, hyd2⟩ : ∃ yd, yd = y.1.d := ⟨_, rfl⟩
     rw [← hyd2] at HCD hyd
     clear hwin hy hy2 hyd2 hb3
     go_upto_region 12 with fail
     have hS0 : Below w3.heap.size w3 (v9.drew) := HS9.out.bel.drew
     refine wp_region_held_drew (S := fun w' => Below w3.heap.size w3 w') (by kernel_rfl) hS0 (fun _ => ?_)
     refine ytake_0 (v := ?vv13) (by kernel_rfl) (by kernel_rfl) (by kernel_rfl) (fun _ _ _ h => h) (Or.inl ⟨by rfl, ?hy13⟩) hS0 ?_
     case hy13 =>
      intro wX hSw
      go_simp
      try with_reducible rfl
     try simp only [Act.put, List.setIfInBounds_toArray, List.set_cons_zero, List.set_cons_succ]
     refine ytake_1 (v := ?vv14) (by kernel_rfl) (by kernel_rfl) (by kernel_rfl) (fun _ _ _ h => h) (Or.inl ⟨by rfl, ?hy14⟩) hS0 ?_
     case hy14 =>
      intro wX hSw
      obtain ⟨c0, c1, c6, c7, d1, d24⟩ := HXX.out _ hSw
      go_simp
      try with_reducible rfl
     try simp only [Act.put, List.setIfInBounds_toArray, List.set_cons_zero, List.set_cons_succ]
     refine ytake_2 (v := ?vv15) (by kernel_rfl) (by kernel_rfl) (by kernel_rfl) (fun _ _ _ h => h) (Or.inl ⟨by rfl, ?hy15⟩) hS0 ?_
     case hy15 =>
      intro wX hSw
      go_simp
      try with_reducible rfl
     try simp only [Act.put, List.setIfInBounds_toArray, List.set_cons_zero, List.set_cons_succ]
     refine ytake_3 (v := ?vv16) (by kernel_rfl) (by kernel_rfl) (by kernel_rfl) (fun _ _ _ h => h) (Or.inl ⟨by rfl, ?hy16⟩) hS0 ?_
     case hy16 =>
      intro wX hSw
      obtain ⟨c0, c1, c6, c7, d1, d24⟩ := HXX.out _ hSw
      go_simp
      try with_reducible rfl
     try simp only [Act.put, List.setIfInBounds_toArray, List.set_cons_zero, List.set_cons_succ]
     refine ytake_4 (v := ?vv17) (by kernel_rfl) (by kernel_rfl) (by kernel_rfl) (fun _ _ _ h => h) (Or.inl ⟨by rfl, ?hy17⟩) hS0 ?_
     case hy17 =>
      intro wX hSw
      go_simp
      try with_reducible rfl
     try simp only [Act.put, List.setIfInBounds_toArray, List.set_cons_zero, List.set_cons_succ]
     refine ytake_5 (v := ?vv18) (by kernel_rfl) (by kernel_rfl) (by kernel_rfl) (fun _ _ _ h => h) (Or.inl ⟨by rfl, ?hy18⟩) hS0 ?_
     case hy18 =>
      intro wX hSw
      obtain ⟨c0, c1, c6, c7, d1, d24⟩ := HXX.out _ hSw
      go_simp
      try with_reducible rfl
     try simp only [Act.put, List.setIfInBounds_toArray, List.set_cons_zero, List.set_cons_succ]
     refine ytake_6 (v := ?vv19) (by kernel_rfl) (by kernel_rfl) (by kernel_rfl) (fun _ _ _ h => h) (Or.inl ⟨by rfl, ?hy19⟩) hS0 ?_
     case hy19 =>
      intro wX hSw
      go_simp
      try with_reducible rfl
     try simp only [Act.put, List.setIfInBounds_toArray, List.set_cons_zero, List.set_cons_succ]
     refine yready_7 (by kernel_rfl) ?_
     intro KQ hK
     rw [if_pos (by rfl)]
     try go_simp
     refine (withinG_is x.D nH rr _ HRVV.out (by omega) (by omega)).mono ?_
     rintro e w' ⟨rfl, rfl⟩
     refine hK.out _ _ hS0 (fun _ => ?_)
     clear hK KQ
     try simp only [Act.put, List.setIfInBounds_toArray, List.set_cons_zero, List.set_cons_succ]
     refine ytake_8 (v := ?vv20) (by kernel_rfl) (by kernel_rfl) (by kernel_rfl) (fun _ _ _ h => h) (Or.inl ⟨by rfl, ?hy20⟩) hS0 ?_
     case hy20 =>
      intro wX hSw
      go_simp
      try with_reducible rfl
     try simp only [Act.put, List.setIfInBounds_toArray, List.set_cons_zero, List.set_cons_succ]
     refine ytake_9 (v := ?vv21) (by kernel_rfl) (by kernel_rfl) (by kernel_rfl) (fun _ _ _ h => h) (Or.inl ⟨by rfl, ?hy21⟩) hS0 ?_
     case hy21 =>
      intro wX hSw
      go_simp
      try with_reducible rfl
     try simp only [Act.put, List.setIfInBounds_toArray, List.set_cons_zero, List.set_cons_succ]
     refine ytake_10 (v := ?vv22) (by kernel_rfl) (by kernel_rfl) (by kernel_rfl) (fun _ _ _ h => h) (Or.inl ⟨by rfl, ?hy22⟩) hS0 ?_
     case hy22 =>
      intro wX hSw
      have hcd := HCD.out _ hSw
      go_simp
      try with_reducible rfl
     try simp only [Act.put, List.setIfInBounds_toArray, List.set_cons_zero, List.set_cons_succ]
     obtain ⟨gd, hgd⟩ : ∃ gd, gd = v9.heap.size := ⟨_, rfl⟩
     obtain ⟨w10, hw10⟩ : ∃ w10, w10 = (v9.alloc (.cells #[.int .i64 yd] 3)).drew := ⟨_, rfl⟩
     have hbv : Below v9.heap.size v9 w10 := by rw [hw10]; exact ((Below.refl _ _).alloc (Nat.le_refl _) _).drew
     have hS10 : Below w3.heap.size w3 w10 := HS9.out.bel.trans (hbv.mono HS9.out.bel.size)
     have hrd : Rd w10 (some ⟨gd, 0, none⟩) (i64s [yd]) := by rw [hw10, hgd]; exact rd_new v9 [.int .i64 yd] 3
     have HW10 := Lib.hid hw10
     have hgd3 : w3.heap.size ≤ gd := by have := HS9.out.bel.size; omega
     have hgdq : gd ≠ q := by have := HS9.out.box.1; omega
     have hgdl : gd < w10.heap.size := by rw [hw10, hgd]; simp
     have HGD := Lib.hid hgd
     clear hw10 hgd
     refine yready_11 (by kernel_rfl) ?_
     intro KQ hK
     rw [if_pos (by rfl)]
     unfold Oper.wp execOp
     go_simp
     rw [← HW10.out, ← HGD.out]
     refine hK.out _ _ hS10 (fun _ => ?_)
     clear hK KQ
     try simp only [Act.put, List.setIfInBounds_toArray, List.set_cons_zero, List.set_cons_succ]
     refine ytake_12 (v := ?vv2) (by kernel_rfl) (by kernel_rfl) (by kernel_rfl) (fun _ _ _ h => h) (Or.inl ⟨by rfl, ?hy2⟩) hS10 ?_
     case hy2 =>
      intro wX hSw
      go_simp
      try with_reducible rfl
     try simp only [Act.put, List.setIfInBounds_toArray, List.set_cons_zero, List.set_cons_succ]
     have bx10 := HS9.out.box.below hbv HS9.out.box.1
     have k17 : w10.cell? ⟨q, 17, none⟩ = some (.slice am.AD am.nD am.cD) := (bx10.2 17 _ rfl).1
     have f17 : w10.frozen? ⟨q, 17, none⟩ = false := (bx10.2 17 _ rfl).2
     obtain ⟨w11, hw11⟩ : ∃ w11, w11 = w10.setCell ⟨q, 17, none⟩ (.slice (some ⟨gd, 0, none⟩) 1 1) := ⟨_, rfl⟩
     have hS11 : Below w3.heap.size w3 w11 := by rw [hw11]; exact hS10.setCell (show w3.heap.size ≤ q by omega) _
     have HBX11 : Hid (Box w11 q (msgC { M3 with D := [yd] } { am with AD := some ⟨gd, 0, none⟩, nD := 1, cD := 1 })) := by rw [hw11]; exact bx10.set (j := 17) (show 17 < 18 by decide)
     have T11 : Touch (fun k => k = q) w10 w11 := by rw [hw11]; exact (Touch.refl (fun k => k = q) w10).set (.inl rfl) _
     have HRD11 : Hid (∀ w9, Touch (fun k => k = g + 2) w11 w9 → Rd w9 (some ⟨gd, 0, none⟩) (i64s [yd])) := by
      show ∀ w9, _
      intro w9 t9
      exact (hrd.kept T11.size fun x hx hl => T11.block _ hl (by cases hx; exact hgdq)).kept t9.size fun x hx hl => t9.block _ hl (by cases hx; show gd ≠ g + 2; omega)
     have HS11 := Lib.hid hS11
     have HW11 := Lib.hid hw11
     clear hw11 T11 hrd bx10
     refine yready_13 (by kernel_rfl) ?_
     intro KQ hK
     rw [if_pos (by rfl)]
     unfold Oper.wp execOp
     go_simp
     rw [← HW11.out]
     refine hK.out _ _ HS11.out (fun _ => ?_)
     clear hK KQ k17 f17
     try simp only [Act.put, List.setIfInBounds_toArray, List.set_cons_zero, List.set_cons_succ]
     refine wpAnyH_done (by kernel_rfl) ?_ _
     go_wp2_with (first
      | (refine wpList_load_box rfl 48 _ rfl q rfl (msgC { M3 with D := [yd] } { am with AD := some ⟨gd, 0, none⟩, nD := 1, cD := 1 }) HBX11.out _ Tryz.underlying48 rfl size_mesF ?_)
      | (refine wpList_store_box rfl 48 _ _ rfl (g + 2) 0 (msgC { M3 with D := [yd] } { am with AD := some ⟨gd, 0, none⟩, nD := 1, cD := 1 }) zeroMC (msgC { M3 with D := [yd] } { am with AD := some ⟨gd, 0, none⟩, nD := 1, cD := 1 }) rfl rfl ((HZ3.out).below HS11.out hg23) (show 0 + 18 ≤ 18 by decide) rfl size_mesF rfl ?_; intro w9 bx9 T9))
     have t9 := T9 (fun k => k = g + 2) rfl
     have hfin := HEND.out _ _ HS11.out t9
     refine bodyPost_ret (v := msgV { M3 with D := [yd] } { am with AD := some ⟨gd, 0, none⟩, nD := 1, cD := 1 }) (fres _ _ (g + 2) _ _ rfl bx9) rfl ⟨{ M3 with D := [yd] }, { am with AD := some ⟨gd, 0, none⟩, nD := 1, cD := 1 }, rfl, fun wX hX => (fit_keep hfin.2 HS9.out.same HG0.out wX hX).wants ((HRD11.out _ t9).kept hX.size fun y hy hl => hX.block _ hl (by cases hy; show ¬ gd < w.heap.size; have := HG0.out; omega)), HFM.out.wants, HS9.out.ok.wants (by unfold I64; omega), hfin.1, HS9.out.same.k⟩
  ·have HMC := Lib.hid (HMAY3.out false (by cases h : mayW P with | false => rfl | true => exact absurd h hm) _ HS4.out.bel)
   clear hm
   go_wp2_with (first
    | (refine wpList_load_boxG 27 _ rfl g rfl rfl (wkC P a) (HWB.out _ HS4.out.bel) _ Tryz.underlying27 rfl size_wk ?_)
    | (go_at_call 16; refine HMC.out.mono ?_; rintro e w5 ⟨rfl, hb5⟩; obtain ⟨e0, e1, e6, e7, x1, x24⟩ := HXX.out _ (HS4.out.bel.trans (hb5.mono HS4.out.bel.size)); have hs5 := HS4.out.below hb5)
    | (refine wpList_load_box rfl 48 _ rfl q rfl (msgC x.m am) hs5.box _ Tryz.underlying48 rfl size_mesF ?_)
    | (refine wpList_store_box rfl 48 _ _ rfl (g + 2) 0 (msgC x.m am) zeroMC (msgC x.m am) rfl rfl ((HZ3.out).below hs5.bel hg23) (show 0 + 18 ≤ 18 by decide) rfl size_mesF rfl ?_; intro w9 bx9 T9))
   have t9 := T9 (fun k => k = g + 2) rfl
   have hfin := HEND.out _ _ hs5.bel t9
   refine bodyPost_ret (v := msgV x.m am) (fres _ _ (g + 2) _ _ rfl bx9) rfl ⟨x.m, am, rfl, fit_keep hfin.2 hs5.same HG0.out, HFM.out, hs5.ok, hfin.1, hs5.same.k⟩

end Go.Proofs.YteepobghdpnabaaGreat
