/-
 The page's Take: kind 2.
-/
import Derived.Test.YteepobghdpnabaaGreatKYWorkerTolde
namespace Go.Proofs.YteepobghdpnabaaGreat
open Go.RowKit

theorem WithTo.both {B : Nat} {S : List Int} {n : Int} {o : Ad} {w w' : World} {e : Ending} (h : WithTo S n o w e w') (ho : w.ownsRow B 3 1 o.v o.n (i64s S)) (hl : S.length = o.n) (hB : B ≤ w.heap.size) :
    ∃ oy : Ad, e = .returned oy.v ∧ w'.ownsRow B 3 1 oy.v oy.n (i64s (withI S n)) ∧ (withI S n).length = oy.n ∧ (∀ k, oy.v.ownBlock = some k → o.v.ownBlock = some k ∨ w.heap.size ≤ k) ∧ Below w.heap.size w w' := by
  rcases h with ⟨hn, rfl, rfl⟩ | ⟨_, o', rfl, ho', hl', hb⟩
  · have e : withI S n = S := by rw [withI, if_pos hn]
    exact ⟨o, rfl, by rw [e]; exact ho, by rw [e]; exact hl, fun k hk => .inl hk, Below.refl _ _⟩
  · exact ⟨o', rfl, ownS_more ho' hB, hl', fun k hk => .inr (own_lt ho' hk).2, hb⟩
theorem ackW_ds (P : WkD) (d f : Int) : (ackW P d f).ds = P.ds := by
 unfold WkD.ds ackW
 rw [List.map_map]
 refine List.map_congr_left fun x _ => ?_
 show WtD.d (if x.d = d then { x with S := withI x.S f } else x) = x.d
 split <;> rfl
theorem withI_lenR (l : List Int) (n : Int) : (withI l n).length ≤ l.length + 1 := by
 unfold withI
 split
 ·omega
 ·rw [insAt_length _ _ _ (posI_le l n)]; omega
theorem ackW_few {P : WkD} {d f : Int} (h : WFew P 300000) : WFew (ackW P d f) 400000 := by
 have h' := h.more (show 300000 ≤ 400000 by decide)
 refine ⟨h'.o, by unfold ackW; rw [List.length_map]; exact h'.w, h'.h, h'.r, fun x hx => ?_, h'.l⟩
 unfold ackW at hx
 obtain ⟨y, hy, rfl⟩ := List.mem_map.1 hx
 have h1 := h.s y hy
 split
 ·have := withI_lenR y.S f
  simp only
  omega
 ·omega

set_option maxRecDepth 100000 in
set_option maxHeartbeats 16000000 in
theorem rtake_2 (P : WkD) (a : WkA) (m : MsgD) (am : MsgA) (w : World) (h : WIn w P a) (hm : MsgIn w m am) (hfm : MsgFew 1000000 am) (hf : WFew P 300000) (hmy : mayW P = true) (hmb : messB m P.N = true) (ht : m.t = P.i) (hk : m.k = 2) : Calls Tryz.prog 54 #[wkV P a, msgV m am] w (StTo2 (takeW P m) (takeO P m) (takeE P m) w) := by
  obtain ⟨g, hg⟩ : ∃ g, g = w.heap.size := ⟨_, rfl⟩
  obtain ⟨wa0, hwa0⟩ : ∃ wa0, wa0 = w.alloc (.cells #[.int .i64 P.i, .int .i64 P.N, .int .i64 P.x, .slice a.O.A a.O.n a.O.c, .int .i64 P.g, .int .i64 P.c, .slice a.W.A a.W.n a.W.c, .slice a.H.A a.H.n a.H.c, .slice a.R.A a.R.n a.R.c] 27) := ⟨_, rfl⟩
  have hs0 : wa0.heap.size = g + 1 := by rw [hwa0]; simp; omega
  have bn0 : Box wa0 (g) (wkC P a) := by rw [hwa0, hg]; exact box_new w (wkC P a) 27
  have hb0 : Below g w wa0 := by rw [hwa0]; exact (Below.refl _ _).alloc (by omega) _
  obtain ⟨wa1, hwa1⟩ : ∃ wa1, wa1 = wa0.alloc (.cells #[.int .i64 m.k, .int .i64 m.f, .int .i64 m.t, .int .i64 m.d, .int .i64 m.ba, .int .i64 m.bn, .slice am.AL am.nL am.cL, .int .i64 m.ha, .int .i64 m.hr, .slice am.AhB am.nhB am.chB, .slice am.AhP am.nhP am.chP, .int .i64 m.ca, .int .i64 m.cr, .slice am.AcB am.ncB am.ccB, .slice am.AcP am.ncP am.ccP, .int .i64 m.cd, .slice am.AcS am.ncS am.ccS, .slice am.AD am.nD am.cD] 48) := ⟨_, rfl⟩
  have hs1 : wa1.heap.size = g + 2 := by rw [hwa1]; simp; omega
  have bn1 : Box wa1 (g + 1) (msgC m am) := by rw [hwa1, ← hs0]; exact box_new wa0 (msgC m am) 48
  have hb1 : Below g w wa1 := by rw [hwa1]; exact hb0.alloc (by omega) _
  have HX0 : Hid (Box wa1 (g) (wkC P a)) := (bn0.below (show Below wa0.heap.size wa0 wa1 by rw [hwa1]; exact (Below.refl _ _).alloc (Nat.le_refl _) _) (by omega))
  have HX1 : Hid (Box wa1 (g + 1) (msgC m am)) := bn1
  obtain ⟨w0, hw0⟩ : ∃ w0, w0 = wa1 := ⟨_, rfl⟩
  rw [← hw0] at HX0
  rw [← hw0] at HX1
  have hsz0 : w0.heap.size = g + 2 := by rw [hw0]; exact hs1
  have hb0w : Below g w w0 := by rw [hw0]; exact hb1
  have HW0 : Hid ((w.alloc (.cells #[.int .i64 P.i, .int .i64 P.N, .int .i64 P.x, .slice a.O.A a.O.n a.O.c, .int .i64 P.g, .int .i64 P.c, .slice a.W.A a.W.n a.W.c, .slice a.H.A a.H.n a.H.c, .slice a.R.A a.R.n a.R.c] 27)).alloc (.cells #[.int .i64 m.k, .int .i64 m.f, .int .i64 m.t, .int .i64 m.d, .int .i64 m.ba, .int .i64 m.bn, .slice am.AL am.nL am.cL, .int .i64 m.ha, .int .i64 m.hr, .slice am.AhB am.nhB am.chB, .slice am.AhP am.nhP am.chP, .int .i64 m.ca, .int .i64 m.cr, .slice am.AcB am.ncB am.ccB, .slice am.AcP am.ncP am.ccP, .int .i64 m.cd, .slice am.AcS am.ncS am.ccS, .slice am.AD am.nD am.cD] 48) = w0) := by show (w.alloc (.cells #[.int .i64 P.i, .int .i64 P.N, .int .i64 P.x, .slice a.O.A a.O.n a.O.c, .int .i64 P.g, .int .i64 P.c, .slice a.W.A a.W.n a.W.c, .slice a.H.A a.H.n a.H.c, .slice a.R.A a.R.n a.R.c] 27)).alloc (.cells #[.int .i64 m.k, .int .i64 m.f, .int .i64 m.t, .int .i64 m.d, .int .i64 m.ba, .int .i64 m.bn, .slice am.AL am.nL am.cL, .int .i64 m.ha, .int .i64 m.hr, .slice am.AhB am.nhB am.chB, .slice am.AhP am.nhP am.chP, .int .i64 m.ca, .int .i64 m.cr, .slice am.AcB am.ncB am.ccB, .slice am.AcP am.ncP am.ccP, .int .i64 m.cd, .slice am.AcS am.ncS am.ccS, .slice am.AD am.nD am.cD] 48) = w0; rw [hw0, hwa1, hwa0]
  have HG : Hid (w.heap.size = g) := hg.symm
  have HS0 := Lib.hid hsz0
  have HB0 := Lib.hid hb0w
  have hl0 : g < w0.heap.size := by omega
  have hl1 : g + 1 < w0.heap.size := by omega
  have hgw : g ≤ w0.heap.size := by omega
  have hin0 := h.below' HB0.out HG.out
  have HIN : Hid (∀ wX, Below w0.heap.size w0 wX → WIn wX P a) := by show ∀ wX, _; exact fun wX hX => hin0.below hX
  have HMI : Hid (∀ wX, Below g w wX → MsgIn wX m am) := by show ∀ wX, _; exact fun wX hX => hm.below (by rw [HG.out]; exact hX)
  have HF := Lib.hid hf
  have HMW := Lib.hid (mayW_iff.1 hmy)
  have HFM := Lib.hid hfm
  have HMC : Hid (∀ b, messB m P.N = b → ∀ wX, Below g w wX → Calls Tryz.prog 97 #[msgV m am, .int .i64 P.N] wX (Tells wX.heap.size wX (.bool b))) := by
    show ∀ b, _
    exact fun b hb wX hX => rmsg_is b m am P.N wX hb (HMI.out wX hX) HFM.out
  clear hg hsz0 hb0w hw0 hwa0 hs0 bn0 hb0 hwa1 hs1 bn1 hb1
  clear hin0
  unfold wkV Ad.v msgV
  have htk : takeE P m = 0 := by rw [takeE, if_pos ⟨hmb, ht⟩, if_pos (by omega)]
  rw [htk]
  have HMB := Lib.hid hmb
  have jt : (m.t == P.i) = true := by simp [ht]
  have jt2 : (m.t != P.i) = false := by simp [ht]
  have HTW : Hid (takeW P m = settleW (ackW P m.d m.f)) := by show _ = _; rw [takeW, if_neg (by omega), if_pos hk]
  have HTO : Hid (takeO P m = []) := by show _ = _; rw [takeO, if_neg (by omega), if_neg (by omega)]
  have j1 : (m.k == 1) = false := by simp; omega
  have j3 : (m.k == 3) = false := by simp; omega
  have j2 : (m.k == 2) = true := by simp; omega
  clear hk
  clear htk hmb ht h hm hfm hf hmy
  go_enter Tryz.func54, Tryz.ntmps54
  go_upto_region 1 with fail
  rw [HG.out, HW0.out]
  go_upto_region 2 with (first
    | (refine wpList_load_box rfl 27 _ rfl g rfl (wkC P a) (HX0.out) _ Tryz.underlying27 rfl size_wk ?_)
    | (go_at_call 15; refine (rcopyWk_any P a w0 (HIN.out _ (Below.refl _ _)) (HF.out.more (by decide))).mono ?_; rintro e w4 ⟨a4, rfl, hn4, hb4⟩; dsimp only [wkV, Ad.v]))
  obtain ⟨w5, hw5⟩ : ∃ w5, w5 = w4.alloc (.cells #[.int .i64 P.i, .int .i64 P.N, .int .i64 P.x, .slice a4.O.A a4.O.n a4.O.c, .int .i64 P.g, .int .i64 P.c, .slice a4.W.A a4.W.n a4.W.c, .slice a4.H.A a4.H.n a4.H.c, .slice a4.R.A a4.R.n a4.R.c, .slice none 0 0] 75) := ⟨_, rfl⟩
  obtain ⟨s, hs⟩ : ∃ s, s = w4.heap.size := ⟨_, rfl⟩
  rw [← hw5, ← hs]
  have hst : StAt s w0.heap.size w5 P a4 [] noAd [] := by rw [hw5, hs]; exact st_new hn4 hb4.size
  have hb5 : Below w0.heap.size w0 w5 := by rw [hw5]; exact hb4.alloc hb4.size _
  have HST := Lib.hid hst
  have HB5 := Lib.hid hb5
  have HN4 := Lib.hid hn4
  have hs0 : w0.heap.size ≤ s := by rw [hs]; exact hb4.size
  have hs5 : s < w5.heap.size := hst.box.1
  have k1 : w5.cell? ⟨g, 1, none⟩ = some (.int .i64 P.N) := ((HX0.out.below hb5 hl0).2 1 _ rfl).1
  have hm5 : Below g w w5 := HB0.out.trans (hb5.mono hgw)
  clear hw5 hs hst hb5 hn4 hb4
  go_upto_region 4 with (first
    | (refine wpList_load_box rfl 48 _ rfl (g + 1) rfl (msgC m am) (HX1.out.below HB5.out hl1) _ Tryz.underlying48 rfl size_mes ?_)
    | (go_at_call 97; refine (HMC.out true HMB.out w5 hm5).mono ?_; rintro e w6 ⟨rfl, hb6⟩; have hb06 : Below w0.heap.size w0 w6 := HB5.out.trans (hb6.mono HB5.out.size); have HB06 := Lib.hid hb06; have q2 : w6.cell? ⟨g + 1, 2, none⟩ = some (.int .i64 m.t) := ((HX1.out.below hb06 hl1).2 2 _ rfl).1; have q0 : w6.cell? ⟨g + 1, 0, none⟩ = some (.int .i64 m.k) := ((HX1.out.below hb06 hl1).2 0 _ rfl).1; have z0 : w6.cell? ⟨g, 0, none⟩ = some (.int .i64 P.i) := ((HX0.out.below hb06 hl0).2 0 _ rfl).1; have HST6 := Lib.hid (HST.out.below hb6); have HSZ6 : Hid (w5.heap.size ≤ w6.heap.size) := hb6.size; clear hb6 hb06))
  have hmc := HX1.out.below HB06.out hl1
  have q1 : w6.cell? ⟨g + 1, 1, none⟩ = some (.int .i64 m.f) := (hmc.2 1 _ rfl).1
  have q3 : w6.cell? ⟨g + 1, 3, none⟩ = some (.int .i64 m.d) := (hmc.2 3 _ rfl).1
  have q4 : w6.cell? ⟨g + 1, 4, none⟩ = some (.int .i64 m.ba) := (hmc.2 4 _ rfl).1
  have q5 : w6.cell? ⟨g + 1, 5, none⟩ = some (.int .i64 m.bn) := (hmc.2 5 _ rfl).1
  have q6 : w6.cell? ⟨g + 1, 6, none⟩ = some (.slice am.AL am.nL am.cL) := (hmc.2 6 _ rfl).1
  have q17 : w6.cell? ⟨g + 1, 17, none⟩ = some (.slice am.AD am.nD am.cD) := (hmc.2 17 _ rfl).1
  have hg16 : g + 1 < w6.heap.size := hmc.1
  have hz6 : w0.heap.size ≤ w6.heap.size := HB06.out.size
  clear hmc
  obtain ⟨AW, nW, cW, hoW⟩ : ∃ A n c, a4.W = ⟨A, n, c⟩ := ⟨_, _, _, rfl⟩
  have HOW := Lib.hid hoW
  have hlW : P.W.length = nW := by have h1 := HST6.out.pg.core.waits.len; rw [hoW] at h1; rw [← len_fst HST6.out.pg.core.eW]; exact h1
  have HLW := Lib.hid hlW
  have hnW : nW ≤ 300000 := by have := HF.out.w; omega
  have HS0 : Hid (StAt s w0.heap.size w6 (ackI P m.d m.f 0) { a4 with ms := a4.ms } [] noAd []) := by show StAt _ _ _ _ _ _ _ _; rw [ackI_zero]; exact HST6.out
  clear hoW hlW q1 q2 q3 q4 q5 q6 q17 z0 k1
  go_wp2_with fail
  clear q0
  go_loopw [7] (fun i wr => ∃ (k : Nat) (msK : List (WtD × Ad)), i = .int .i64 k ∧ k ≤ nW ∧ Hid (StAt s w0.heap.size wr (ackI P m.d m.f k) { a4 with ms := msK } [] noAd []) ∧ Hid (Below w0.heap.size w0 wr)) (fun i _ => nW - (intOf i).toNat)
  case atStart => exact ⟨0, a4.ms, rfl, Nat.zero_le _, HS0, HB06⟩
  case round =>
    clear HS0
    obtain ⟨k, msK, rfl, hk, HS, HBK⟩ := hrel
    have i0 : (0 : Int) ≤ (k : Int) := by omega
    have k6 : wr.cell? ⟨s, 6, none⟩ = some (.slice AW nW cW) := by have := HS.out.cells.2.2.2.2.2.2.1; simp only [HOW.out] at this; exact this
    have hsr : s < wr.heap.size := HS.out.box.1
    have hmr := HX1.out.below HBK.out hl1
    have hgr1 : g + 1 < wr.heap.size := hmr.1
    have q1 : wr.cell? ⟨g + 1, 1, none⟩ = some (.int .i64 m.f) := (hmr.2 1 _ rfl).1
    have q3 : wr.cell? ⟨g + 1, 3, none⟩ = some (.int .i64 m.d) := (hmr.2 3 _ rfl).1
    clear hmr
    by_cases hlt : k < nW
    · have hml : msK.length = nW := by have h1 := HS.out.pg.core.waits.len; simp only [HOW.out] at h1; exact h1
      obtain ⟨x, hx⟩ : ∃ x, msK[k]? = some x := ⟨_, List.getElem?_eq_getElem (by rw [hml]; exact hlt)⟩
      obtain ⟨gr, cr, hA, hcr, hBg, hgrl, -, hcell, hfz⟩ := HS.out.pg.core.waits.cells hx
      rw [HOW.out] at hA
      simp only at hA
      subst hA
      have d0 : wr.cell? ⟨gr, k * 2, none⟩ = some (.int .i64 x.1.d) := hcell 0 _ rfl
      have d1 : wr.cell? ⟨gr, k * 2 + 1, none⟩ = some (.slice x.2.A x.2.n x.2.c) := hcell 1 _ rfl
      have hxw : P.W[k]? = some x.1 := by
        have h1 : (ackI P m.d m.f k).W[k]? = some x.1 := by rw [← HS.out.pg.core.eW, List.getElem?_map, hx]; rfl
        rw [ackI_at] at h1
        exact h1
      have HXW := Lib.hid hxw
      have HX := Lib.hid hx
      have i1 : (k : Int) < (nW : Int) := by omega
      have y6 : ∀ z : Calm wr, z.val.cell? ⟨s, 6, none⟩ = some (.slice (some ⟨gr, 0, none⟩) nW cW) := fun z => (z.ok.cell (p := ⟨s, 6, none⟩) hsr).trans k6
      have y0 : ∀ z : Calm wr, z.val.cell? ⟨gr, k * 2, none⟩ = some (.int .i64 x.1.d) := fun z => (z.ok.cell (p := ⟨gr, k * 2, none⟩) hgrl).trans d0
      have y3 : ∀ z : Calm wr, z.val.cell? ⟨g + 1, 3, none⟩ = some (.int .i64 m.d) := fun z => (z.ok.cell (p := ⟨g + 1, 3, none⟩) hgr1).trans q3
      obtain ⟨bl, hbl⟩ : ∃ bl, bl = decide (x.1.d = m.d) := ⟨_, rfl⟩
      clear hx hcell hfz hcr hxw hml
      go_upto_region 15 with fail
      refine wp_region_calm (by kernel_rfl) (by kernel_rfl) ?_
      repeat (go_big_quiet_step (fail))
      refine wpQuiet_nil ?_
      rintro _ ⟨z, rfl⟩
      have hz := z.ok
      have HS3 := Lib.hid (HS.out.below hz)
      have HB3 : Hid (Below w0.heap.size w0 z.val) := HBK.out.trans (hz.mono HBK.out.size)
      obtain ⟨w3, hw3⟩ : ∃ w3, w3 = z.val := ⟨_, rfl⟩
      rw [← hw3] at HS3 HB3 ⊢
      clear hw3 hz y6 y0 y3 d0 d1 k6 q1 q3 z
      have hgr3 : gr < w3.heap.size := by
        obtain ⟨gr', cr', hA', -, -, hl', -⟩ := HS3.out.pg.core.waits.cells HX.out
        rw [HOW.out] at hA'
        simp only [Option.some.injEq, Addr.mk.injEq, and_true] at hA'
        omega
      by_cases hd : x.1.d = m.d
      · have l1 : (x.1.d == m.d) = true := by simp [hd]
        have HD := Lib.hid hd
        clear hd hbl
        have hsub := HS3.out.pg.core.waits.sub x (List.mem_of_getElem? HX.out)
        have HSH := Lib.hid (own_shape hsub.1)
        have hwx := HMW.out.waits k x.1 HXW.out
        have hsx : x.1.S.length ≤ 300000 := HF.out.s x.1 (List.mem_of_getElem? HXW.out)
        have HWT := Lib.hid (fun wX (hX : Below w3.heap.size w3 wX) => rwith_any x.2 x.1.S m.f wX HSH.out.1 HSH.out.2 ((slIn_own hsub.1 hsub.2).below hX) (riseI_risB.1 hwx.2.1) (by omega))
        have HSUB := Lib.hid hsub
        obtain ⟨gq, cq, hA, -, hBg, -, -, hcell, hfz⟩ := HS3.out.pg.core.waits.cells HX.out
        rw [HOW.out] at hA
        simp only [Option.some.injEq, Addr.mk.injEq, and_true] at hA
        subst hA
        have d1 : w3.drew.cell? ⟨gr, k * 2 + 1, none⟩ = some (.slice x.2.A x.2.n x.2.c) := hcell 1 _ rfl
        have F1 : Hid (w3.frozen? ⟨gr, k * 2 + 1, none⟩ = false) := hfz (k * 2 + 1)
        have k6 : w3.cell? ⟨s, 6, none⟩ = some (.slice (some ⟨gr, 0, none⟩) nW cW) := by have := HS3.out.cells.2.2.2.2.2.2.1; simp only [HOW.out] at this; exact this
        have hS0 : w3.drew.cell? ⟨s, 6, none⟩ = some (.slice (some ⟨gr, 0, none⟩) nW cW) ∧ w3.drew.cell? ⟨g + 1, 1, none⟩ = some (.int .i64 m.f) := ⟨k6, ((HX1.out.below HB3.out hl1).2 1 _ rfl).1⟩
        have hgrs : gr ≠ s := HS3.out.far0 gr (.inl (.inl (by rw [HOW.out]; rfl)))
        have hgrB : w0.heap.size ≤ gr := hBg
        have hs3 : s < w3.heap.size := HS3.out.box.1
        have hg13 : g + 1 < w3.heap.size := by have := HB3.out.size; omega
        clear hsub hwx hcell hfz k6 hBg
        go_upto_region 16 with fail
        refine wp_region_held_drew (S := fun w' => w'.cell? ⟨s, 6, none⟩ = some (.slice (some ⟨gr, 0, none⟩) nW cW) ∧ w'.cell? ⟨g + 1, 1, none⟩ = some (.int .i64 m.f)) (by kernel_rfl) hS0 (fun _ => ?_)
        refine ytake_0 (v := ?vv1) (by kernel_rfl) (by kernel_rfl) (by kernel_rfl) (fun _ _ _ h => h) (Or.inl ⟨by rfl, ?hy1⟩) hS0 ?_
        case hy1 =>
          intro wX hSw
          go_simp
          try with_reducible rfl
        try simp only [Act.put, List.setIfInBounds_toArray, List.set_cons_zero, List.set_cons_succ]
        refine ytake_1 (v := ?vv2) (by kernel_rfl) (by kernel_rfl) (by kernel_rfl) (fun _ _ _ h => h) (Or.inl ⟨by rfl, ?hy2⟩) hS0 ?_
        case hy2 =>
          intro wX hSw
          go_simp
          try with_reducible rfl
        try simp only [Act.put, List.setIfInBounds_toArray, List.set_cons_zero, List.set_cons_succ]
        refine ytake_2 (v := ?vv3) (by kernel_rfl) (by kernel_rfl) (by kernel_rfl) (fun _ _ _ h => h) (Or.inl ⟨by rfl, ?hy3⟩) hS0 ?_
        case hy3 =>
          intro wX hSw
          go_simp
          try with_reducible rfl
        try simp only [Act.put, List.setIfInBounds_toArray, List.set_cons_zero, List.set_cons_succ]
        refine ytake_3 (v := ?vv4) (by kernel_rfl) (by kernel_rfl) (by kernel_rfl) (fun _ _ _ h => h) (Or.inl ⟨by rfl, ?hy4⟩) hS0 ?_
        case hy4 =>
          intro wX hSw
          go_simp
          try with_reducible rfl
        try simp only [Act.put, List.setIfInBounds_toArray, List.set_cons_zero, List.set_cons_succ]
        refine ytake_4 (v := ?vv5) (by kernel_rfl) (by kernel_rfl) (by kernel_rfl) (fun _ _ _ h => h) (Or.inl ⟨by rfl, ?hy5⟩) hS0 ?_
        case hy5 =>
          intro wX hSw
          have c6 := hSw.1
          go_simp
          try with_reducible rfl
        try simp only [Act.put, List.setIfInBounds_toArray, List.set_cons_zero, List.set_cons_succ]
        refine ytake_5 (v := ?vv6) (by kernel_rfl) (by kernel_rfl) (by kernel_rfl) (fun _ _ _ h => h) (Or.inl ⟨by rfl, ?hy6⟩) hS0 ?_
        case hy6 =>
          intro wX hSw
          go_simp
          try with_reducible rfl
        try simp only [Act.put, List.setIfInBounds_toArray, List.set_cons_zero, List.set_cons_succ]
        refine ytake_6 (v := ?vv7) (by kernel_rfl) (by kernel_rfl) (by kernel_rfl) (fun _ _ _ h => h) (Or.inl ⟨by rfl, ?hy7⟩) hS0 ?_
        case hy7 =>
          intro wX hSw
          go_simp
          try with_reducible rfl
        try simp only [Act.put, List.setIfInBounds_toArray, List.set_cons_zero, List.set_cons_succ]
        refine ytake_7 (v := ?vv8) (by kernel_rfl) (by kernel_rfl) (by kernel_rfl) (fun _ _ _ h => h) (Or.inl ⟨by rfl, ?hy8⟩) hS0 ?_
        case hy8 =>
          intro wX hSw
          go_simp
          try with_reducible rfl
        try simp only [Act.put, List.setIfInBounds_toArray, List.set_cons_zero, List.set_cons_succ]
        refine ytake_8 (v := ?vv9) (by kernel_rfl) (by kernel_rfl) (by kernel_rfl) (fun _ _ _ h => h) (Or.inl ⟨by rfl, ?hy9⟩) hS0 ?_
        case hy9 =>
          intro wX hSw
          go_simp
          try with_reducible rfl
        try simp only [Act.put, List.setIfInBounds_toArray, List.set_cons_zero, List.set_cons_succ]
        refine ytake_9 (v := ?vv10) (by kernel_rfl) (by kernel_rfl) (by kernel_rfl) (fun _ _ _ h => h) (Or.inl ⟨by rfl, ?hy10⟩) hS0 ?_
        case hy10 =>
          intro wX hSw
          go_simp
          try with_reducible rfl
        try simp only [Act.put, List.setIfInBounds_toArray, List.set_cons_zero, List.set_cons_succ]
        refine ytake_10 (v := ?vv11) (by kernel_rfl) (by kernel_rfl) (by kernel_rfl) (fun _ _ _ h => h) (Or.inl ⟨by rfl, ?hy11⟩) hS0 ?_
        case hy11 =>
          intro wX hSw
          have c6 := hSw.1
          go_simp
          try with_reducible rfl
        try simp only [Act.put, List.setIfInBounds_toArray, List.set_cons_zero, List.set_cons_succ]
        refine ytake_11 (v := ?vv12) (by kernel_rfl) (by kernel_rfl) (by kernel_rfl) (fun _ _ _ h => h) (Or.inl ⟨by rfl, ?hy12⟩) hS0 ?_
        case hy12 =>
          intro wX hSw
          go_simp
          try with_reducible rfl
        try simp only [Act.put, List.setIfInBounds_toArray, List.set_cons_zero, List.set_cons_succ]
        refine ytake_12 (v := ?vv13) (by kernel_rfl) (by kernel_rfl) (by kernel_rfl) (fun _ _ _ h => h) (Or.inl ⟨by rfl, ?hy13⟩) hS0 ?_
        case hy13 =>
          intro wX hSw
          go_simp
          try with_reducible rfl
        try simp only [Act.put, List.setIfInBounds_toArray, List.set_cons_zero, List.set_cons_succ]
        refine ytake_13 (v := ?vv14) (by kernel_rfl) (by kernel_rfl) (by kernel_rfl) (fun _ _ _ h => h) (Or.inl ⟨by rfl, ?hy14⟩) hS0 ?_
        case hy14 =>
          intro wX hSw
          go_simp
          try with_reducible rfl
        try simp only [Act.put, List.setIfInBounds_toArray, List.set_cons_zero, List.set_cons_succ]
        refine ytake_15 (v := ?vv15) (by kernel_rfl) (by kernel_rfl) (by kernel_rfl) (fun _ _ _ h => h) (Or.inl ⟨by rfl, ?hy15⟩) hS0 ?_
        case hy15 =>
          intro wX hSw
          go_simp
          try with_reducible rfl
        try simp only [Act.put, List.setIfInBounds_toArray, List.set_cons_zero, List.set_cons_succ]
        refine ytake_16 (v := ?vv16) (by kernel_rfl) (by kernel_rfl) (by kernel_rfl) (fun _ _ _ h => h) (Or.inl ⟨by rfl, ?hy16⟩) hS0 ?_
        case hy16 =>
          intro wX hSw
          have c1 := hSw.2
          go_simp
          try with_reducible rfl
        try simp only [Act.put, List.setIfInBounds_toArray, List.set_cons_zero, List.set_cons_succ]
        refine yready_14 (by kernel_rfl) ?_
        intro KQ hK
        rw [if_pos (by rfl)]
        unfold Oper.wp execOp
        go_simp
        refine hK.out _ _ hS0 (fun _ => ?_)
        clear hK KQ
        try simp only [Act.put, List.setIfInBounds_toArray, List.set_cons_zero, List.set_cons_succ]
        refine yready_17 (by kernel_rfl) ?_
        intro KQ hK
        rw [if_pos (by rfl)]
        try go_simp
        refine (HWT.out _ ((Below.refl _ _).drew)).mono ?_
        rintro e w5 hwt
        obtain ⟨oy, rfl, hoy, hly, hby, hb5⟩ := hwt.both (ownS_below HSUB.out.1 ((Below.refl _ _).drew)) HSUB.out.2 (show w0.heap.size ≤ w3.drew.heap.size from HB3.out.size)
        dsimp only [Ad.v]
        have hb35 : Below w3.heap.size w3 w5 := ((Below.refl _ _).drew).trans hb5
        have hS5 : w5.cell? ⟨s, 6, none⟩ = some (.slice (some ⟨gr, 0, none⟩) nW cW) ∧ w5.cell? ⟨g + 1, 1, none⟩ = some (.int .i64 m.f) := ⟨(hb5.cell (p := ⟨s, 6, none⟩) hs3).trans hS0.1, (hb5.cell (p := ⟨g + 1, 1, none⟩) hg13).trans hS0.2⟩
        have f5 : w5.frozen? ⟨gr, k * 2 + 1, none⟩ = false := (hb35.frozen (p := ⟨gr, k * 2 + 1, none⟩) hgr3).trans F1.out
        have c5 : w5.cell? ⟨gr, k * 2 + 1, none⟩ = some (.slice x.2.A x.2.n x.2.c) := (hb5.cell (p := ⟨gr, k * 2 + 1, none⟩) hgr3).trans d1
        have hset := HS3.out.setWait (i := k) (x := x) (y := { x.1 with S := withI x.1.S m.f }) (oy := oy) HX.out hb35 hoy hly hby rfl (by rw [HOW.out]; rfl)
        have HSET := Lib.hid hset
        have hS8 : (w5.setCell ⟨gr, k * 2 + 1, none⟩ (.slice oy.A oy.n oy.c)).cell? ⟨s, 6, none⟩ = some (.slice (some ⟨gr, 0, none⟩) nW cW) ∧ (w5.setCell ⟨gr, k * 2 + 1, none⟩ (.slice oy.A oy.n oy.c)).cell? ⟨g + 1, 1, none⟩ = some (.int .i64 m.f) := by
          have ht : Touch (fun j => j = gr) w5 (w5.setCell ⟨gr, k * 2 + 1, none⟩ (.slice oy.A oy.n oy.c)) := (Touch.refl (fun j => j = gr) w5).set (.inl rfl) _
          have hz5 := hb35.size
          exact ⟨(World.cell?_of_block (a := ⟨s, 6, none⟩) (ht.block s (by omega) (fun e => hgrs e.symm))).trans hS5.1, (World.cell?_of_block (a := ⟨g + 1, 1, none⟩) (ht.block (g + 1) (by omega) (by omega))).trans hS5.2⟩
        clear hset hoy hly hby hb5 hwt d1
        refine hK.out _ _ hS5 (fun _ => ?_)
        clear hK KQ
        try simp only [Act.put, List.setIfInBounds_toArray, List.set_cons_zero, List.set_cons_succ]
        refine ytake_18 (v := ?vv17) (by kernel_rfl) (by kernel_rfl) (by kernel_rfl) (fun _ _ _ h => h) (Or.inl ⟨by rfl, ?hy17⟩) hS5 ?_
        case hy17 =>
          intro wX hSw
          go_simp
          try with_reducible rfl
        try simp only [Act.put, List.setIfInBounds_toArray, List.set_cons_zero, List.set_cons_succ]
        refine ytake_19 (v := ?vv18) (by kernel_rfl) (by kernel_rfl) (by kernel_rfl) (fun _ _ _ h => h) (Or.inl ⟨by rfl, ?hy18⟩) hS5 ?_
        case hy18 =>
          intro wX hSw
          go_simp
          try with_reducible rfl
        try simp only [Act.put, List.setIfInBounds_toArray, List.set_cons_zero, List.set_cons_succ]
        refine yready_20 (by kernel_rfl) ?_
        intro KQ hK
        rw [if_pos (by rfl)]
        unfold Oper.wp execOp
        go_simp
        refine hK.out _ _ hS8 (fun _ => ?_)
        clear hK KQ hS8 hS5 f5 c5 hS0
        try simp only [Act.put]
        refine wpAnyH_done (by kernel_rfl) ?_ _
        have HSN : Hid (StAt s w0.heap.size (w5.setCell ⟨gr, k * 2 + 1, none⟩ oy.v) (ackI P m.d m.f (k + 1)) { a4 with ms := msK.set k ({ x.1 with S := withI x.1.S m.f }, oy) } [] noAd []) := by
          show StAt _ _ _ _ _ _ _ _
          rw [ackI_put HXW.out HD.out]
          exact HSET.out.1
        have HBN : Hid (Below w0.heap.size w0 (w5.setCell ⟨gr, k * 2 + 1, none⟩ oy.v)) := HB3.out.trans (HSET.out.2.below (fun j hj => by have e : j = gr := hj; omega) HB3.out.size)
        clear HSET
        go_wp2_with fail
        go_roundw
        case rel => exact ⟨k + 1, _, by go_num, by omega, HSN, HBN⟩
        case measure => simp [intOf]; omega
      · have l1 : (x.1.d == m.d) = false := by simp [hd]
        have HSN : Hid (StAt s w0.heap.size w3 (ackI P m.d m.f (k + 1)) { a4 with ms := msK } [] noAd []) := by
          show StAt _ _ _ _ _ _ _ _
          rw [ackI_skip HXW.out hd]
          exact HS3.out
        clear hd hbl
        go_wp2_with fail
        go_roundw
        case rel => exact ⟨k + 1, msK, by go_num, by omega, HSN, HB3⟩
        case measure => simp [intOf]; omega
    · have i1 : ¬ ((k : Int) < (nW : Int)) := by omega
      have hall : ackI P m.d m.f k = ackW P m.d m.f := ackI_all (by rw [HLW.out]; omega)
      have hst := HS.out
      rw [hall] at hst
      have hri : RiseI (ackW P m.d m.f).ds := by rw [show (ackW P m.d m.f).ds = P.ds from ackW_ds P m.d m.f]; exact HMW.out.drise
      have HKE := Lib.hid (kept_any s w0.heap.size (ackW P m.d m.f) _ [] noAd [] wr hst HMW.out.may hri (ackW_few HF.out))
      clear hall hst hri
      go_wp2_with (go_at_call 88; refine HKE.out.mono ?_; rintro e w14 ⟨a14, rfl, hst14, ht14⟩)
      have hb14 : Below w0.heap.size w0 w14 := HBK.out.trans (ht14.below (fun b hb => by
        rcases hb with e | e
        · omega
        · exact (own_lt HS.out.pg.core.ready e).2) HBK.out.size)
      go_ret2
      exact ⟨s, rfl, .inr ⟨w0.heap.size, a14, noAd, [], by rw [HG.out]; exact hgw, by rw [HTW.out, HTO.out]; exact hst14, by rw [HG.out]; exact HB0.out.trans (hb14.mono hgw)⟩⟩

end Go.Proofs.YteepobghdpnabaaGreat
