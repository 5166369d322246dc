/-
 Package worker's Take: a batch that it is asked to keep, or is given.
-/
import Derived.Test.YteepobghdpnabaaGreatKYWorkerAskedc
namespace Go.Proofs.YteepobghdpnabaaGreat
open Go.RowKit

set_option maxRecDepth 100000 in
set_option maxHeartbeats 16000000 in
theorem take_held (P : WkD) (a : WkA) (m : MsgD) (am : MsgA) (w : World) (h : WIn w P a) (hm : MsgIn w m am) (ho : MsgOk m) (hfm : MsgFew 1000000 am) (hf : WFew P 300000) (hok : ifMay P (takeE P m) = 0) (hk : m.k = 1 ∨ m.k = 3) : Calls Tryz.prog 56 #[wkV P a, msgV m am] w (Ret3 (orW (ifMay P (takeE P m)) (takeW P m)) (orO (ifMay P (takeE P m)) (takeO P m)) (ifMay P (takeE P m)) w) := by
  obtain ⟨g, hg⟩ : ∃ g, g = w.heap.size := ⟨_, rfl⟩
  obtain ⟨wa0, hwa0⟩ : ∃ wa0, wa0 = w.alloc (.cells #[.int .i64 P.i, .int .i64 P.N, .int .i64 P.x, .slice a.O.A a.O.n a.O.c, .int .i64 P.g, .int .i64 P.c, .slice a.W.A a.W.n a.W.c, .slice a.H.A a.H.n a.H.c, .slice a.R.A a.R.n a.R.c] 27) := ⟨_, rfl⟩
  have hs0 : wa0.heap.size = g + 1 := by rw [hwa0]; simp; omega
  have bn0 : Box wa0 (g) (wkC P a) := by rw [hwa0, hg]; exact box_new w (wkC P a) 27
  have hb0 : Below g w wa0 := by rw [hwa0]; exact (Below.refl _ _).alloc (by omega) _
  obtain ⟨wa1, hwa1⟩ : ∃ wa1, wa1 = wa0.alloc (.cells #[.int .i64 m.k, .int .i64 m.f, .int .i64 m.t, .int .i64 m.d, .int .i64 m.ba, .int .i64 m.bn, .slice am.AL am.nL am.cL, .int .i64 m.ha, .int .i64 m.hr, .slice am.AhB am.nhB am.chB, .slice am.AhP am.nhP am.chP, .int .i64 m.ca, .int .i64 m.cr, .slice am.AcB am.ncB am.ccB, .slice am.AcP am.ncP am.ccP, .int .i64 m.cd, .slice am.AcS am.ncS am.ccS, .slice am.AD am.nD am.cD] 48) := ⟨_, rfl⟩
  have hs1 : wa1.heap.size = g + 2 := by rw [hwa1]; simp; omega
  have bn1 : Box wa1 (g + 1) (msgC m am) := by rw [hwa1, ← hs0]; exact box_new wa0 (msgC m am) 48
  have hb1 : Below g w wa1 := by rw [hwa1]; exact hb0.alloc (by omega) _
  obtain ⟨wa2, hwa2⟩ : ∃ wa2, wa2 = wa1.alloc (.cells #[.int .i64 0, .int .i64 0, .int .i64 0, .slice none 0 0, .int .i64 0, .int .i64 0, .slice none 0 0, .slice none 0 0, .slice none 0 0] 27) := ⟨_, rfl⟩
  have hs2 : wa2.heap.size = g + 3 := by rw [hwa2]; simp; omega
  have bn2 : Box wa2 (g + 2) (zeroC) := by rw [hwa2, ← hs1]; exact box_new wa1 (zeroC) 27
  have hb2 : Below g w wa2 := by rw [hwa2]; exact hb1.alloc (by omega) _
  have HX0 : Hid (Box wa2 (g) (wkC P a)) := ((bn0.below (show Below wa0.heap.size wa0 wa1 by rw [hwa1]; exact (Below.refl _ _).alloc (Nat.le_refl _) _) (by omega)).below (show Below wa1.heap.size wa1 wa2 by rw [hwa2]; exact (Below.refl _ _).alloc (Nat.le_refl _) _) (by omega))
  have HX1 : Hid (Box wa2 (g + 1) (msgC m am)) := (bn1.below (show Below wa1.heap.size wa1 wa2 by rw [hwa2]; exact (Below.refl _ _).alloc (Nat.le_refl _) _) (by omega))
  have HX2 : Hid (Box wa2 (g + 2) (zeroC)) := bn2
  obtain ⟨w0, hw0⟩ : ∃ w0, w0 = wa2 := ⟨_, rfl⟩
  rw [← hw0] at HX0
  rw [← hw0] at HX1
  rw [← hw0] at HX2
  have hsz0 : w0.heap.size = g + 3 := by rw [hw0]; exact hs2
  have hb0w : Below g w w0 := by rw [hw0]; exact hb2
  have HW0 : Hid (((w.alloc (.cells #[.int .i64 P.i, .int .i64 P.N, .int .i64 P.x, .slice a.O.A a.O.n a.O.c, .int .i64 P.g, .int .i64 P.c, .slice a.W.A a.W.n a.W.c, .slice a.H.A a.H.n a.H.c, .slice a.R.A a.R.n a.R.c] 27)).alloc (.cells #[.int .i64 m.k, .int .i64 m.f, .int .i64 m.t, .int .i64 m.d, .int .i64 m.ba, .int .i64 m.bn, .slice am.AL am.nL am.cL, .int .i64 m.ha, .int .i64 m.hr, .slice am.AhB am.nhB am.chB, .slice am.AhP am.nhP am.chP, .int .i64 m.ca, .int .i64 m.cr, .slice am.AcB am.ncB am.ccB, .slice am.AcP am.ncP am.ccP, .int .i64 m.cd, .slice am.AcS am.ncS am.ccS, .slice am.AD am.nD am.cD] 48)).alloc (.cells #[.int .i64 0, .int .i64 0, .int .i64 0, .slice none 0 0, .int .i64 0, .int .i64 0, .slice none 0 0, .slice none 0 0, .slice none 0 0] 27) = w0) := by show ((w.alloc (.cells #[.int .i64 P.i, .int .i64 P.N, .int .i64 P.x, .slice a.O.A a.O.n a.O.c, .int .i64 P.g, .int .i64 P.c, .slice a.W.A a.W.n a.W.c, .slice a.H.A a.H.n a.H.c, .slice a.R.A a.R.n a.R.c] 27)).alloc (.cells #[.int .i64 m.k, .int .i64 m.f, .int .i64 m.t, .int .i64 m.d, .int .i64 m.ba, .int .i64 m.bn, .slice am.AL am.nL am.cL, .int .i64 m.ha, .int .i64 m.hr, .slice am.AhB am.nhB am.chB, .slice am.AhP am.nhP am.chP, .int .i64 m.ca, .int .i64 m.cr, .slice am.AcB am.ncB am.ccB, .slice am.AcP am.ncP am.ccP, .int .i64 m.cd, .slice am.AcS am.ncS am.ccS, .slice am.AD am.nD am.cD] 48)).alloc (.cells #[.int .i64 0, .int .i64 0, .int .i64 0, .slice none 0 0, .int .i64 0, .int .i64 0, .slice none 0 0, .slice none 0 0, .slice none 0 0] 27) = w0; rw [hw0, hwa2, hwa1, hwa0]
  have HG : Hid (w.heap.size = g) := hg.symm
  have HS0 := Lib.hid hsz0
  have HB0 := Lib.hid hb0w
  have hl0 : g < w0.heap.size := by omega
  have hl1 : g + 1 < w0.heap.size := by omega
  have hl2 : g + 2 < w0.heap.size := by omega
  have hgw : g ≤ w0.heap.size := by omega
  have hin0 := h.below' HB0.out HG.out
  have HIN : Hid (∀ wX, Below w0.heap.size w0 wX → WIn wX P a) := by show ∀ wX, _; exact fun wX hX => hin0.below hX
  have HMI : Hid (∀ wX, Below g w wX → MsgIn wX m am) := by show ∀ wX, _; exact fun wX hX => hm.below (by rw [HG.out]; exact hX)
  have HF := Lib.hid hf
  have hcheck := check_is (mayW P) P a w0 rfl hin0 (hf.more (by decide))
  have HMC : Hid (∀ b, messB m P.N = b → ∀ wX, Below g w wX → Calls Tryz.prog 101 #[msgV m am, .int .i64 P.N] wX (Tells wX.heap.size wX (.int .i64 (okV b)))) := by
    show ∀ b, _
    exact fun b hb wX hX => mcheck_is b m am P.N wX hb (HMI.out wX hX) ho hfm
  have HFM := Lib.hid hfm
  obtain ⟨hmay, hte⟩ := ifMay_zero hok
  have hmw := mayW_iff.1 hmay
  have hmt : messB m P.N = true ∧ m.t = P.i := by
    unfold takeE at hte
    split at hte
    · assumption
    · omega
  rw [hmay] at hcheck
  rw [hok]
  have HCK := Lib.hid hcheck
  have HMB := Lib.hid hmt.1
  have jt : (m.t == P.i) = true := by simp [hmt.2]
  have HMW := Lib.hid hmw
  obtain ⟨P4, hP4⟩ : ∃ P4, P4 = takeW P m := ⟨_, rfl⟩
  have HP4 := Lib.hid hP4
  have HQ : Hid (orW 0 (takeW P m) = P4) := by show _ = _; rw [hP4]; rfl
  have HL : Hid (orO 0 (takeO P m) = takeO P m) := by show _ = _; rfl
  have hk3 : P4 = holdW P m.d m.ba m.bn m.L := by rw [hP4, takeW, if_pos hk]
  have hho : ∀ (B g : Nat) (aX : WkA) (wX : World), WAt B g wX P aX → MsgIn wX m am → Calls Tryz.prog 92 #[.pointer (some ⟨g, 0, none⟩), .int .i64 m.d, .agg #[.int .i64 m.ba, .int .i64 m.bn, .slice am.AL am.nL am.cL]] wX (WTo B g P4 wX) := by
    rw [hk3]
    exact fun B g aX wX hX hm => hold_any B g P aX m.d m.ba m.bn ⟨am.AL, am.nL, am.cL⟩ m.L wX hX hm.slL (by have := hfm.sL; have := hm.zL; omega) hmw.hrise (by have := hmw.room; omega)
  obtain ⟨pH, hpH⟩ : ∃ p, p = posI P4.hs m.d := ⟨_, rfl⟩
  have hfd : ∀ b : Bool, b = decide (m.d ∈ P4.hs) → ∀ (B g : Nat) (aX : WkA) (wX : World), WAt B g wX P4 aX → Calls Tryz.prog 89 #[wkV P4 aX, .int .i64 m.d] wX fun e w' => e = .returned (.tuple #[.int .i64 pH, .bool b]) ∧ Below wX.heap.size wX w' := by
    intro b hb B g aX wX hX
    have := findHeld_any P4 aX m.d wX hX.new.in_.held hX.new.in_.eH (by rw [hk3]; have := holdW_len (P := P) (d := m.d) (a := m.ba) (n := m.bn) (L := m.L); have := hmw.room; omega) (by rw [hk3]; exact holdW_rise hmw.hrise)
    rw [← hb, ← hpH] at this
    exact this
  have HI4 : Hid (P4.i = P.i) := by show _ = _; rw [hk3]; exact holdW_same.1
  have HH4 : Hid (takeO P m = if m.k = 1 then (if m.d ∈ P4.hs then [⟨2, P.i, m.f, m.d, 0, 0, []⟩] else []) else []) := by show _ = _; rw [takeO, ← hk3]; split; rfl; rw [if_neg (by omega)]
  have HHO := Lib.hid hho
  have HFD := Lib.hid hfd
  clear hho hfd hpH hk3
  clear hg hsz0 hb0w hw0 hwa0 hs0 bn0 hb0 hwa1 hs1 bn1 hb1 hwa2 hs2 bn2 hb2
  clear hcheck hin0 h hm ho hfm hf hmay hte hmw hmt hok hP4
  unfold wkV Ad.v msgV
  go_enter Tryz.func56, Tryz.ntmps56
  go_upto_region 1 with fail
  rw [HG.out, HW0.out]
  go_upto_region 8 with (first
    | (refine wpList_load_box rfl 27 _ rfl g rfl (wkC P a) (HX0.out) _ Tryz.underlying27 rfl size_wk ?_)
    | (go_at_call 18; refine HCK.out.mono ?_; rintro e w1 ⟨rfl, hb1⟩; have k1 : w1.cell? ⟨g, 1, none⟩ = some (.int .i64 P.N) := ((HX0.out.below hb1 hl0).2 1 _ rfl).1; have hm1 : Below g w w1 := HB0.out.trans (hb1.mono hgw))
    | (refine wpList_load_box rfl 48 _ rfl (g + 1) rfl (msgC m am) (HX1.out.below hb1 hl1) _ Tryz.underlying48 rfl size_mes ?_)
    | (go_at_call 101; refine (HMC.out true HMB.out w1 hm1).mono ?_; rintro e w2 ⟨rfl, hb2⟩; have hb02 : Below w0.heap.size w0 w2 := hb1.trans (hb2.mono hb1.size); have q2 : w2.cell? ⟨g + 1, 2, none⟩ = some (.int .i64 m.t) := ((HX1.out.below hb02 hl1).2 2 _ rfl).1; have k0 : w2.cell? ⟨g, 0, none⟩ = some (.int .i64 P.i) := ((HX0.out.below hb02 hl0).2 0 _ rfl).1; have q0 : w2.cell? ⟨g + 1, 0, none⟩ = some (.int .i64 m.k) := ((HX1.out.below hb02 hl1).2 0 _ rfl).1)
    | (refine wpList_load_box rfl 27 _ rfl g rfl (wkC P a) (HX0.out.below hb02 hl0) _ Tryz.underlying27 rfl size_wk ?_)
    | (go_at_call 90; refine (clone_any P a w2 (HIN.out _ hb02) (HF.out.more (by decide))).mono ?_; rintro e w4 ⟨a4, rfl, hn4, hb4⟩)
    | (refine wpList_store_box rfl 27 _ _ rfl g 0 (wkC P a4) (wkC P a) (wkC P a4) rfl rfl ((HX0.out.below hb02 hl0).below hb4 (by have := hb02.size; omega)) (show 0 + 9 ≤ 9 by decide) rfl size_wk rfl ?_; intro w5 bx5 T5; have t5 := T5 (fun k => k = g) rfl; have b4 : Below w0.heap.size w0 w4 := hb02.trans (hb4.mono hb02.size); have q50 : w5.cell? ⟨g + 1, 0, none⟩ = some (.int .i64 m.k) := (((HX1.out.below b4 hl1).touch t5 (by omega)).2 0 _ rfl).1))
  have hAT5 : WAt w2.heap.size g w5 P a4 := ⟨bx5, hn4.touch t5 (fun k hk ho => by have := (hn4.core.lt ho).2; have := hb02.size; omega) (fun k hk ho => by have := (own_lt hn4.open_ ho).2; have := hb02.size; omega), by have := hb02.size; omega, by have := hb4.size; have := t5.size; omega⟩
  have hTK5 : TK w2.heap.size g m am w w5 := ⟨(HX1.out.below b4 hl1).touch t5 (by omega), (HX2.out.below b4 hl2).touch t5 (by omega), (HB0.out.trans (b4.mono hgw)).trans (t5.below (fun k hk => by omega) (by have := b4.size; omega)), by have := hb02.size; have := HS0.out; omega⟩
  obtain ⟨B, hB⟩ : ∃ B, B = w2.heap.size := ⟨_, rfl⟩
  rw [← hB] at hAT5 hTK5
  have HAT5 := Lib.hid hAT5
  have HTK5 := Lib.hid hTK5
  have hgB := hAT5.lt
  have hg2 := hTK5.lt
  have hB5 := hAT5.le
  obtain ⟨q0', q1, q3, q4, q5, q6, q17⟩ := msg_cells hTK5.msg
  clear hAT5 hTK5 hn4 hb4 b4 hb1 hb2 hb02 hm1 T5 t5 bx5 hB k1 q2 k0 q0' q0
  by_cases hd : m.d ∈ P4.hs
  · have HB1 : Hid (true = decide (m.d ∈ P4.hs)) := (decide_eq_true hd).symm
    by_cases hk1 : m.k = 1
    · have j1 : (m.k == 1) = true := by simp [hk1]
      have HMS : Hid ([⟨2, P.i, m.f, m.d, 0, 0, []⟩] = takeO P m) := by show _ = _; rw [HH4.out, if_pos hk1, if_pos hd]
      clear hd hk1 hk
      go_wp2_with (first
        | (go_at_call 92; refine (HHO.out B g a4 w5 HAT5.out (HMI.out _ HTK5.out.bel)).mono ?_; rintro e w6 ⟨a6, rfl, hAT6, hT6⟩; obtain ⟨s0, s1, s3, s4, s5, s6, s17⟩ := msg_cells (HTK5.out.touch hT6).msg)
        | (refine wpList_load_box rfl 27 _ rfl g rfl (wkC P4 a6) (hAT6.box) _ Tryz.underlying27 rfl size_wk ?_)
        | (go_at_call 89; refine (HFD.out _ HB1.out B g a6 w6 hAT6).mono ?_; rintro e wY ⟨rfl, hbY⟩
           have hATY := hAT6.below hbY
           have hTKY := (HTK5.out.touch hT6).touch (Touch.of hbY)
           obtain ⟨y0, y1, y3, y4, y5, y6, y17⟩ := msg_cells hTKY.msg
           have k0 : wY.cell? ⟨g, 0, none⟩ = some (.int .i64 P.i) := by rw [← HI4.out]; exact (hATY.box.2 0 _ rfl).1)
        | (at_builtin
           obtain ⟨i0, hi0, hz0, hz1, hz2'⟩ := info_parts info_mesZ
           refine wpList_append_lies _ rfl _ _ 73 rfl wY.heap.size 48 i0 _ 18 256 Tryz.underlying73 hi0 hz0 hz1 hz2' rfl (by decide) (.slice none 0 0) 0 [] rfl (World.ownsRow_nil _ _ _ _) ⟨wY.heap.size, 0, none⟩ 1 1 (KM.cells ⟨2, P.i, m.f, m.d, 0, 0, []⟩ noAd.v) rfl rfl (fun j y hj => by rw [Addr.add_lit, Nat.zero_add]; exact cells_new wY (KM.cells ⟨2, P.i, m.f, m.d, 0, 0, []⟩ noAd.v) 48 j y hj) (KM.one _ _ rfl) (by decide) (by unfold maxLen; omega) (by omega) (by simp) _ rfl ?_
           intro g' c' wZ z1 z2 z3 z4
           have tZ : Touch (fun _ => False) wY wZ := ((Touch.refl (fun _ => False) wY).alloc _).on (Touch.grown z2 fun k hk => by simp [Value.ownBlock] at hk)
           have hbZ : Below wY.heap.size wY wZ := tZ.below (fun k hk => hk.elim) (Nat.le_refl _)
           have hATZ := hATY.below hbZ
           have hTKZ := hTKY.touch (Touch.of hbZ))
        | (refine wpList_load_box rfl 27 _ rfl g rfl (wkC P4 a6) (hATZ.box) _ Tryz.underlying27 rfl size_wk ?_)
        | (refine wpList_store_box rfl 27 _ _ rfl (g + 2) 0 (wkC P4 a6) zeroC (wkC P4 a6) rfl rfl hTKZ.res (show 0 + 9 ≤ 9 by decide) rfl size_wk rfl ?_; intro wE bxE TE))
      have hsY := hATY.le
      have hrw : RowOwn KM wY.heap.size wZ ⟨some ⟨g', 0, none⟩, 1, c'⟩ [(⟨2, P.i, m.f, m.d, 0, 0, []⟩, noAd)] := ⟨by rw [cellsK_one]; exact z1, rfl, fun y hy => by
        rw [List.mem_singleton] at hy
        rw [hy]
        exact ⟨World.ownsRow_nil _ _ _ _, rfl⟩, List.pairwise_singleton _ _⟩
      have tE := TE (fun k => k = g + 2) rfl
      have hrowZ := hrw
      have hrow2 := hrowZ.touch tE (fun k hk hf => by have := (own_lt hrowZ.row hk).2; omega) (fun y hy k hk hf => by have := (own_lt (hrowZ.sub y hy).1 hk).2; omega)
      have hbel : Below g w wE := hTKZ.bel.trans (tE.below (fun k hk => by omega) (by have := hTKZ.res.1; omega))
      obtain ⟨r0, r1, r2, r3, r4, r5, r6, r7, r8⟩ := wk_cells bxE
      refine bodyPost_ret (v := .tuple #[wkV P4 a6, .slice (some ⟨g', 0, none⟩) 1 c', .int .i64 0]) (by simp [results, Tryz.results56, go_sem, r0, r1, r2, r3, r4, r5, r6, r7, r8, wkV, Ad.v]) rfl ⟨a6, ⟨some ⟨g', 0, none⟩, 1, c'⟩, [(⟨2, P.i, m.f, m.d, 0, 0, []⟩, noAd)], by rw [HQ.out]; rfl, ?_, hrow2.more (by rw [HG.out]; omega), by rw [HL.out]; exact HMS.out, fun y hy k hk => by
          rw [List.mem_singleton] at hy
          rw [hy] at hk
          simp [noAd, Ad.v, Value.ownBlock] at hk, by rw [HG.out]; exact hbel⟩
      rw [HQ.out, HG.out]
      exact (hATZ.new.touch tE (fun k hk ho => by have := (hATZ.new.core.lt ho).2; omega) (fun k hk ho => by have := (own_lt hATZ.new.open_ ho).2; omega)).more (by omega)
    · have j1 : (m.k == 1) = false := by simp [hk1]
      have j3 : (m.k == 3) = true := by simp; omega
      have HMS : Hid (([] : List (OtD × Ad)).map Prod.fst = takeO P m) := by show _ = _; rw [HH4.out, if_neg hk1]; rfl
      clear hd hk1 hk
      go_wp2_with (first
        | (go_at_call 92; refine (HHO.out B g a4 w5 HAT5.out (HMI.out _ HTK5.out.bel)).mono ?_; rintro e w6 ⟨a6, rfl, hAT6, hT6⟩; obtain ⟨s0, s1, s3, s4, s5, s6, s17⟩ := msg_cells (HTK5.out.touch hT6).msg)
        | (refine wpList_load_box rfl 27 _ rfl g rfl (wkC P4 a6) (hAT6.box) _ Tryz.underlying27 rfl size_wk ?_)
        | (go_at_call 89; refine (HFD.out _ HB1.out B g a6 w6 hAT6).mono ?_; rintro e wY ⟨rfl, hbY⟩
           have hATY := hAT6.below hbY
           have hTKY := (HTK5.out.touch hT6).touch (Touch.of hbY)
           obtain ⟨y0, y1, y3, y4, y5, y6, y17⟩ := msg_cells hTKY.msg
           have k0 : wY.cell? ⟨g, 0, none⟩ = some (.int .i64 P.i) := by rw [← HI4.out]; exact (hATY.box.2 0 _ rfl).1
           have hATZ := hATY
           have hTKZ := hTKY)
        | (refine wpList_load_box rfl 27 _ rfl g rfl (wkC P4 a6) (hATZ.box) _ Tryz.underlying27 rfl size_wk ?_)
        | (refine wpList_store_box rfl 27 _ _ rfl (g + 2) 0 (wkC P4 a6) zeroC (wkC P4 a6) rfl rfl hTKZ.res (show 0 + 9 ≤ 9 by decide) rfl size_wk rfl ?_; intro wE bxE TE))
      have tE := TE (fun k => k = g + 2) rfl
      have hrowZ := (rowOwn_none wY B : RowOwn KM B wY noAd [])
      have hrow2 := hrowZ.touch tE (fun k hk hf => by have := (own_lt hrowZ.row hk).2; omega) (fun y hy k hk hf => by have := (own_lt (hrowZ.sub y hy).1 hk).2; omega)
      have hbel : Below g w wE := hTKZ.bel.trans (tE.below (fun k hk => by omega) (by have := hTKZ.res.1; omega))
      obtain ⟨r0, r1, r2, r3, r4, r5, r6, r7, r8⟩ := wk_cells bxE
      refine bodyPost_ret (v := .tuple #[wkV P4 a6, .slice none 0 0, .int .i64 0]) (by simp [results, Tryz.results56, go_sem, r0, r1, r2, r3, r4, r5, r6, r7, r8, wkV, Ad.v]) rfl ⟨a6, noAd, [], by rw [HQ.out]; rfl, ?_, hrow2.more (by rw [HG.out]; omega), by rw [HL.out]; exact HMS.out, fun y hy => by simp at hy, by rw [HG.out]; exact hbel⟩
      rw [HQ.out, HG.out]
      exact (hATZ.new.touch tE (fun k hk ho => by have := (hATZ.new.core.lt ho).2; omega) (fun k hk ho => by have := (own_lt hATZ.new.open_ ho).2; omega)).more (by omega)
  · have HB1 : Hid (false = decide (m.d ∈ P4.hs)) := (decide_eq_false hd).symm
    by_cases hk1 : m.k = 1
    · have j1 : (m.k == 1) = true := by simp [hk1]
      have HMS : Hid (([] : List (OtD × Ad)).map Prod.fst = takeO P m) := by show _ = _; rw [HH4.out, if_pos hk1, if_neg hd]; rfl
      clear hd hk1 hk
      go_wp2_with (first
        | (go_at_call 92; refine (HHO.out B g a4 w5 HAT5.out (HMI.out _ HTK5.out.bel)).mono ?_; rintro e w6 ⟨a6, rfl, hAT6, hT6⟩; obtain ⟨s0, s1, s3, s4, s5, s6, s17⟩ := msg_cells (HTK5.out.touch hT6).msg)
        | (refine wpList_load_box rfl 27 _ rfl g rfl (wkC P4 a6) (hAT6.box) _ Tryz.underlying27 rfl size_wk ?_)
        | (go_at_call 89; refine (HFD.out _ HB1.out B g a6 w6 hAT6).mono ?_; rintro e wY ⟨rfl, hbY⟩
           have hATY := hAT6.below hbY
           have hTKY := (HTK5.out.touch hT6).touch (Touch.of hbY)
           obtain ⟨y0, y1, y3, y4, y5, y6, y17⟩ := msg_cells hTKY.msg
           have k0 : wY.cell? ⟨g, 0, none⟩ = some (.int .i64 P.i) := by rw [← HI4.out]; exact (hATY.box.2 0 _ rfl).1
           have hATZ := hATY
           have hTKZ := hTKY)
        | (refine wpList_load_box rfl 27 _ rfl g rfl (wkC P4 a6) (hATZ.box) _ Tryz.underlying27 rfl size_wk ?_)
        | (refine wpList_store_box rfl 27 _ _ rfl (g + 2) 0 (wkC P4 a6) zeroC (wkC P4 a6) rfl rfl hTKZ.res (show 0 + 9 ≤ 9 by decide) rfl size_wk rfl ?_; intro wE bxE TE))
      have tE := TE (fun k => k = g + 2) rfl
      have hrowZ := (rowOwn_none wY B : RowOwn KM B wY noAd [])
      have hrow2 := hrowZ.touch tE (fun k hk hf => by have := (own_lt hrowZ.row hk).2; omega) (fun y hy k hk hf => by have := (own_lt (hrowZ.sub y hy).1 hk).2; omega)
      have hbel : Below g w wE := hTKZ.bel.trans (tE.below (fun k hk => by omega) (by have := hTKZ.res.1; omega))
      obtain ⟨r0, r1, r2, r3, r4, r5, r6, r7, r8⟩ := wk_cells bxE
      refine bodyPost_ret (v := .tuple #[wkV P4 a6, .slice none 0 0, .int .i64 0]) (by simp [results, Tryz.results56, go_sem, r0, r1, r2, r3, r4, r5, r6, r7, r8, wkV, Ad.v]) rfl ⟨a6, noAd, [], by rw [HQ.out]; rfl, ?_, hrow2.more (by rw [HG.out]; omega), by rw [HL.out]; exact HMS.out, fun y hy => by simp at hy, by rw [HG.out]; exact hbel⟩
      rw [HQ.out, HG.out]
      exact (hATZ.new.touch tE (fun k hk ho => by have := (hATZ.new.core.lt ho).2; omega) (fun k hk ho => by have := (own_lt hATZ.new.open_ ho).2; omega)).more (by omega)
    · have j1 : (m.k == 1) = false := by simp [hk1]
      have j3 : (m.k == 3) = true := by simp; omega
      have HMS : Hid (([] : List (OtD × Ad)).map Prod.fst = takeO P m) := by show _ = _; rw [HH4.out, if_neg hk1]; rfl
      clear hd hk1 hk
      go_wp2_with (first
        | (go_at_call 92; refine (HHO.out B g a4 w5 HAT5.out (HMI.out _ HTK5.out.bel)).mono ?_; rintro e w6 ⟨a6, rfl, hAT6, hT6⟩; obtain ⟨s0, s1, s3, s4, s5, s6, s17⟩ := msg_cells (HTK5.out.touch hT6).msg)
        | (refine wpList_load_box rfl 27 _ rfl g rfl (wkC P4 a6) (hAT6.box) _ Tryz.underlying27 rfl size_wk ?_)
        | (go_at_call 89; refine (HFD.out _ HB1.out B g a6 w6 hAT6).mono ?_; rintro e wY ⟨rfl, hbY⟩
           have hATY := hAT6.below hbY
           have hTKY := (HTK5.out.touch hT6).touch (Touch.of hbY)
           obtain ⟨y0, y1, y3, y4, y5, y6, y17⟩ := msg_cells hTKY.msg
           have k0 : wY.cell? ⟨g, 0, none⟩ = some (.int .i64 P.i) := by rw [← HI4.out]; exact (hATY.box.2 0 _ rfl).1
           have hATZ := hATY
           have hTKZ := hTKY)
        | (refine wpList_load_box rfl 27 _ rfl g rfl (wkC P4 a6) (hATZ.box) _ Tryz.underlying27 rfl size_wk ?_)
        | (refine wpList_store_box rfl 27 _ _ rfl (g + 2) 0 (wkC P4 a6) zeroC (wkC P4 a6) rfl rfl hTKZ.res (show 0 + 9 ≤ 9 by decide) rfl size_wk rfl ?_; intro wE bxE TE))
      have tE := TE (fun k => k = g + 2) rfl
      have hrowZ := (rowOwn_none wY B : RowOwn KM B wY noAd [])
      have hrow2 := hrowZ.touch tE (fun k hk hf => by have := (own_lt hrowZ.row hk).2; omega) (fun y hy k hk hf => by have := (own_lt (hrowZ.sub y hy).1 hk).2; omega)
      have hbel : Below g w wE := hTKZ.bel.trans (tE.below (fun k hk => by omega) (by have := hTKZ.res.1; omega))
      obtain ⟨r0, r1, r2, r3, r4, r5, r6, r7, r8⟩ := wk_cells bxE
      refine bodyPost_ret (v := .tuple #[wkV P4 a6, .slice none 0 0, .int .i64 0]) (by simp [results, Tryz.results56, go_sem, r0, r1, r2, r3, r4, r5, r6, r7, r8, wkV, Ad.v]) rfl ⟨a6, noAd, [], by rw [HQ.out]; rfl, ?_, hrow2.more (by rw [HG.out]; omega), by rw [HL.out]; exact HMS.out, fun y hy => by simp at hy, by rw [HG.out]; exact hbel⟩
      rw [HQ.out, HG.out]
      exact (hATZ.new.touch tE (fun k hk ho => by have := (hATZ.new.core.lt ho).2; omega) (fun k hk ho => by have := (own_lt hATZ.new.open_ ho).2; omega)).more (by omega)

end Go.Proofs.YteepobghdpnabaaGreat
