/-
 A row of one message, in a block of its own.
-/
import Derived.Test.YteepobghdpnabaaGreatKDf
namespace Go.Proofs.YteepobghdpnabaaGreat
open Go.RowKit

theorem fillMZ (m : MsgD) (a : MsgA) : Instr.fill (fun i => some (i * 18, 18)) ((Array.range (1 * 18)).map ((msgV zeroM zeroA).cells[· % (msgV zeroM zeroA).cells.size]!)) [(0, .agg (msgC m a).toArray)] = some (msgC m a).toArray := by kernel_rfl
theorem wpList_build_msgZ {ops : Array Oper} {rest : List Oper} {o : Oper} {a : Act} {w : World} {Q : Exit → Act → World → Prop} (hg : o.guard = none) (x : Operand) (ho : o.op = .buildSlice 73 1 #[(0, x)]) (m : MsgD) (am : MsgA) (hx : a.eval x = .agg (msgC m am).toArray)
  (h : wpList Tryz.prog ops Q rest (a.put o.dst (.slice (some ⟨w.heap.size, 0, none⟩) 1 1)) (w.alloc (.cells (msgC m am).toArray 48))) : wpList Tryz.prog ops Q (o :: rest) a w := by
 obtain ⟨ie, hie, hz, hs⟩ := mesZ_have
 refine wpList_buildSlice hg 73 48 1 _ ho (msgC m am).toArray ie (msgV zeroM zeroA) Tryz.underlying73 hie hz (by rw [hs]; decide) (by rw [hs]; decide) ?_ h
 have e : ((#[(0, x)] : Array (Nat × Operand)).map fun (i, x) => (i, a.eval x)).toList = [(0, .agg (msgC m am).toArray)] := by
  rw [Array.toList_map]
  show [(0, a.eval x)] = _
  rw [hx]
 rw [e, hs]
 exact fillMZ m am
theorem rowM_one {B : Nat} {w : World} {m : MsgD} {a : MsgA} (hn : MsgNew B w m a) (hap : MsgAp a) (hf : MsgFew 1000000 a) (hB : B ≤ w.heap.size) : RowM B (w.alloc (.cells (msgC m a).toArray 48)) ⟨some ⟨w.heap.size, 0, none⟩, 1, 1⟩ [(m, a)] := by
 refine ⟨?_, rfl, fun x hx => ?_, List.pairwise_singleton _ _⟩
 ·have e : cellsM [(m, a)] = msgC m a := by simp [cellsM]
  rw [e]
  exact ⟨rfl, .inr ⟨w.heap.size, 1, (msgC m a).toArray, rfl, hB, heap_alloc_new w _, Nat.le_refl _, by decide, rfl, rfl⟩⟩
 ·rw [List.mem_singleton.1 hx]
  exact ⟨hn.below ((Below.refl _ _).alloc (Nat.le_refl _) _), hap, hf⟩

end Go.Proofs.YteepobghdpnabaaGreat
namespace Go.Proofs.YteepobghdpnabaaGreat
open Go.RowKit

set_option maxRecDepth 100000 in
set_option maxHeartbeats 16000000 in
theorem step_take (k : Nat) (P : WkD) (a : WkA) (x : ActD) (w : World) (h : WIn w P a) (hgr : Grown k P) (hk : k ≤ 12) (hx : ActIn w x) (hfew : MsgFew 2000 x.b ∧ x.L.length ≤ 12000) (kd : Int) (HR : RTakeIs kd) (HP : TakeIs kd) (hkd : x.m.k = kd) (hr : wrap64 ((IntKind.u64.wrap x.Do).tmod ((11 : Nat) : Int)) = ((5 : Nat) : Int)) : Calls Tryz.prog 19 #[wkV P a, actV x] w (StepTo k w) := by
 obtain ⟨g, hg⟩ : ∃ g, g = w.heap.size := ⟨_, rfl⟩
 obtain ⟨wa0, hwa0⟩ : ∃ wa0, wa0 = w.alloc (.cells #[.int .i64 P.i, .int .i64 P.N, .int .i64 P.x, .slice a.O.A a.O.n a.O.c, .int .i64 P.g, .int .i64 P.c, .slice a.W.A a.W.n a.W.c, .slice a.H.A a.H.n a.H.c, .slice a.R.A a.R.n a.R.c] 27) := ⟨_, rfl⟩
 have hs0 : wa0.heap.size = g + 1 := by rw [hwa0]; simp; omega
 have bn0 : Box wa0 (g) (wkC P a) := by rw [hwa0, hg]; exact box_new w (wkC P a) 27
 have hb0 : Below g w wa0 := by rw [hwa0]; exact (Below.refl _ _).alloc (by omega) _
 obtain ⟨wa1, hwa1⟩ : ∃ wa1, wa1 = wa0.alloc (.cells #[.int .i64 x.Do, .int .i64 x.D, .int .i64 x.t.s, .int .i64 x.t.q, .string x.t.k, .string x.t.v, .int .i64 x.m.k, .int .i64 x.m.f, .int .i64 x.m.t, .int .i64 x.m.d, .int .i64 x.m.ba, .int .i64 x.m.bn, .slice x.b.AL x.b.nL x.b.cL, .int .i64 x.m.ha, .int .i64 x.m.hr, .slice x.b.AhB x.b.nhB x.b.chB, .slice x.b.AhP x.b.nhP x.b.chP, .int .i64 x.m.ca, .int .i64 x.m.cr, .slice x.b.AcB x.b.ncB x.b.ccB, .slice x.b.AcP x.b.ncP x.b.ccP, .int .i64 x.m.cd, .slice x.b.AcS x.b.ncS x.b.ccS, .slice x.b.AD x.b.nD x.b.cD, .bool x.fit, .slice x.A x.n x.c] 50) := ⟨_, rfl⟩
 have hs1 : wa1.heap.size = g + 2 := by rw [hwa1]; simp; omega
 have bn1 : Box wa1 (g + 1) (actC x) := by rw [hwa1, ← hs0]; exact box_new wa0 (actC x) 50
 have hb1 : Below g w wa1 := by rw [hwa1]; exact hb0.alloc (by omega) _
 obtain ⟨wa2, hwa2⟩ : ∃ wa2, wa2 = wa1.alloc (.cells #[.int .i64 0, .int .i64 0, .int .i64 0, .slice none 0 0, .int .i64 0, .int .i64 0, .slice none 0 0, .slice none 0 0, .slice none 0 0] 27) := ⟨_, rfl⟩
 have hs2 : wa2.heap.size = g + 3 := by rw [hwa2]; simp; omega
 have bn2 : Box wa2 (g + 2) (zeroC) := by rw [hwa2, ← hs1]; exact box_new wa1 (zeroC) 27
 have hb2 : Below g w wa2 := by rw [hwa2]; exact hb1.alloc (by omega) _
 have HX0 : Hid (Box wa2 (g) (wkC P a)) := ((bn0.below (show Below wa0.heap.size wa0 wa1 by rw [hwa1]; exact (Below.refl _ _).alloc (Nat.le_refl _) _) (by omega)).below (show Below wa1.heap.size wa1 wa2 by rw [hwa2]; exact (Below.refl _ _).alloc (Nat.le_refl _) _) (by omega))
 have HX1 : Hid (Box wa2 (g + 1) (actC x)) := (bn1.below (show Below wa1.heap.size wa1 wa2 by rw [hwa2]; exact (Below.refl _ _).alloc (Nat.le_refl _) _) (by omega))
 have HX2 : Hid (Box wa2 (g + 2) (zeroC)) := bn2
 obtain ⟨w0, hw0⟩ : ∃ w0, w0 = wa2 := ⟨_, rfl⟩
 rw [← hw0] at HX0
 rw [← hw0] at HX1
 rw [← hw0] at HX2
 have hsz0 : w0.heap.size = g + 3 := by rw [hw0]; exact hs2
 have hb0w : Below g w w0 := by rw [hw0]; exact hb2
 have HW0 : Hid (((w.alloc (.cells #[.int .i64 P.i, .int .i64 P.N, .int .i64 P.x, .slice a.O.A a.O.n a.O.c, .int .i64 P.g, .int .i64 P.c, .slice a.W.A a.W.n a.W.c, .slice a.H.A a.H.n a.H.c, .slice a.R.A a.R.n a.R.c] 27)).alloc (.cells #[.int .i64 x.Do, .int .i64 x.D, .int .i64 x.t.s, .int .i64 x.t.q, .string x.t.k, .string x.t.v, .int .i64 x.m.k, .int .i64 x.m.f, .int .i64 x.m.t, .int .i64 x.m.d, .int .i64 x.m.ba, .int .i64 x.m.bn, .slice x.b.AL x.b.nL x.b.cL, .int .i64 x.m.ha, .int .i64 x.m.hr, .slice x.b.AhB x.b.nhB x.b.chB, .slice x.b.AhP x.b.nhP x.b.chP, .int .i64 x.m.ca, .int .i64 x.m.cr, .slice x.b.AcB x.b.ncB x.b.ccB, .slice x.b.AcP x.b.ncP x.b.ccP, .int .i64 x.m.cd, .slice x.b.AcS x.b.ncS x.b.ccS, .slice x.b.AD x.b.nD x.b.cD, .bool x.fit, .slice x.A x.n x.c] 50)).alloc (.cells #[.int .i64 0, .int .i64 0, .int .i64 0, .slice none 0 0, .int .i64 0, .int .i64 0, .slice none 0 0, .slice none 0 0, .slice none 0 0] 27) = w0) := by show ((w.alloc (.cells #[.int .i64 P.i, .int .i64 P.N, .int .i64 P.x, .slice a.O.A a.O.n a.O.c, .int .i64 P.g, .int .i64 P.c, .slice a.W.A a.W.n a.W.c, .slice a.H.A a.H.n a.H.c, .slice a.R.A a.R.n a.R.c] 27)).alloc (.cells #[.int .i64 x.Do, .int .i64 x.D, .int .i64 x.t.s, .int .i64 x.t.q, .string x.t.k, .string x.t.v, .int .i64 x.m.k, .int .i64 x.m.f, .int .i64 x.m.t, .int .i64 x.m.d, .int .i64 x.m.ba, .int .i64 x.m.bn, .slice x.b.AL x.b.nL x.b.cL, .int .i64 x.m.ha, .int .i64 x.m.hr, .slice x.b.AhB x.b.nhB x.b.chB, .slice x.b.AhP x.b.nhP x.b.chP, .int .i64 x.m.ca, .int .i64 x.m.cr, .slice x.b.AcB x.b.ncB x.b.ccB, .slice x.b.AcP x.b.ncP x.b.ccP, .int .i64 x.m.cd, .slice x.b.AcS x.b.ncS x.b.ccS, .slice x.b.AD x.b.nD x.b.cD, .bool x.fit, .slice x.A x.n x.c] 50)).alloc (.cells #[.int .i64 0, .int .i64 0, .int .i64 0, .slice none 0 0, .int .i64 0, .int .i64 0, .slice none 0 0, .slice none 0 0, .slice none 0 0] 27) = w0; rw [hw0, hwa2, hwa1, hwa0]
 have HG : Hid (w.heap.size = g) := hg.symm
 have HS0 := Lib.hid hsz0
 have HB0 := Lib.hid hb0w
 have hl0 : g < w0.heap.size := by omega
 have hl1 : g + 1 < w0.heap.size := by omega
 have hl2 : g + 2 < w0.heap.size := by omega
 have hgw : g ≤ w0.heap.size := by omega
 have hin0 : WIn w0 P a := h.below (by rw [HG.out]; exact HB0.out)
 have hact0 : ActIn w0 x := hx.below (by rw [HG.out]; exact HB0.out)
 have HIN : Hid (∀ wX, Below w0.heap.size w0 wX → WIn wX P a) := by show ∀ wX, _; exact fun wX hX => hin0.below hX
 have HACT : Hid (∀ wX, Below w0.heap.size w0 wX → ActIn wX x) := by show ∀ wX, _; exact fun wX hX => hact0.below hX
 have HGR : Hid (Grown k P) := hgr
 have HFE : Hid (MsgFew 2000 x.b ∧ x.L.length ≤ 12000) := hfew
 have HCP := Lib.hid (rcopyWk_any P a w0 hin0 (hgr.few1 (by omega)))
 obtain ⟨bm, hbm⟩ : ∃ b, b = mayW P := ⟨_, rfl⟩
 have HBM : Hid (mayW P = bm) := hbm.symm
 have HMAY : Hid (∀ wX, Below w0.heap.size w0 wX → Calls Tryz.prog 16 #[wkV P a] wX (Tells wX.heap.size wX (.bool bm))) := by
  show ∀ wX, _
  exact fun wX hX => rmayW_is bm P a wX hbm.symm (hin0.below hX) (hgr.few1 (by omega))
 have HRV : Hid (wrap64 ((IntKind.u64.wrap x.Do).tmod ((11 : Nat) : Int)) = ((5 : Nat) : Int)) := hr
 have HINW : Hid (WIn w P a) := h
 have HTY2 : Hid (w0.heap[g + 2]? = some (.cells zeroC.toArray 27 (0, 0))) := by
  show _ = _
  rw [hw0, hwa2]
  have := heap_alloc_new wa1 (.cells zeroC.toArray 27)
  rw [hs1] at this
  exact this
 clear hg hsz0 hb0w hw0 hwa0 hs0 bn0 hb0 hwa1 hs1 bn1 hb1 hwa2 hs2 bn2 hb2
 have HRR : Hid (RTakeIs kd) := HR
 have HPP : Hid (TakeIs kd) := HP
 have HKD : Hid (x.m.k = kd) := hkd
 clear hin0 hact0 h hx hgr hfew hbm hr HR HP hkd
 unfold wkV Ad.v actV
 go_enter Tryz.func19, Tryz.ntmps19
 go_upto_region 1 with fail
 rw [HG.out, HW0.out]
 go_upto_region 2 with (first
  | (refine wpList_load_box rfl 27 _ rfl g rfl (wkC P a) (HX0.out) _ Tryz.underlying27 rfl size_wk ?_)
  | (go_at_call 15; refine HCP.out.mono ?_; rintro e w1 ⟨a6, rfl, hn1, hb1⟩)
  | (refine wpList_store_box rfl 27 _ _ rfl w1.heap.size 0 (wkC P a6) (zeroC) (wkC P a6) rfl rfl (box_new w1 zeroC 27) (show 0 + 9 ≤ 9 by decide) rfl size_wk rfl ?_; intro w2 bx2 T2))
 have t2 := T2 (fun j => j = w1.heap.size) rfl
 obtain ⟨q6, hq6⟩ : ∃ q, q = w1.heap.size := ⟨_, rfl⟩
 rw [← hq6] at bx2 t2 ⊢
 have hz1 := hb1.size
 have hgq6 : g + 2 < q6 := by omega
 have hb12 : Below w1.heap.size w1 w2 := ((Below.refl _ _).alloc (Nat.le_refl _) _).trans (t2.below (fun j hj => by omega) (by simp))
 have hz2 := hb12.size
 have hb02 : Below w0.heap.size w0 w2 := hb1.trans (hb12.mono hz1)
 have HN6 : Hid (WIn w1 P a6) := hn1.in_
 have HB12 := Lib.hid hb12
 have HB02 := Lib.hid hb02
 have HX6 : Hid (Box w2 q6 (wkC P a6)) := bx2
 have hq2 : q6 < w2.heap.size := bx2.1
 have HMY := Lib.hid (HMAY.out w2 hb02)
 clear t2 T2 hq6 hb12 hn1 bx2 hb1 HCP HMAY
 go_upto_region 3 with (first
  | (refine wpList_load_box rfl 27 _ rfl g rfl (wkC P a) (HX0.out.below HB02.out hl0) _ Tryz.underlying27 rfl size_wk ?_)
  | (go_at_call 16; refine HMY.out.mono ?_; rintro e w3 ⟨rfl, hb3⟩))
 have hz3 := hb3.size
 have HB3 : Hid (Below w2.heap.size w2 w3) := hb3
 have hb03 : Below w0.heap.size w0 w3 := hb02.trans (hb3.mono (by omega))
 have HB03 := Lib.hid hb03
 clear hb3 hb03 hb02 HMY
 go_upto_region 7 with fail
 obtain ⟨s0, hs0⟩ : ∃ s, s = w3.heap.size := ⟨_, rfl⟩
 obtain ⟨w5, hw5⟩ : ∃ z, z = (w3.alloc (.cells #[.int .i64 0, .int .i64 0, .int .i64 0, .slice none 0 0, .int .i64 0, .int .i64 0, .slice none 0 0, .slice none 0 0, .slice none 0 0, .slice none 0 0] 75)).alloc (.cells #[.int .i64 0, .int .i64 0, .int .i64 0, .slice none 0 0, .int .i64 0, .int .i64 0, .slice none 0 0, .slice none 0 0, .slice none 0 0] 27) := ⟨_, rfl⟩
 rw [← hw5, ← hs0]
 have HPS : Hid (PreZ w3 w5 s0) := by show PreZ _ _ _; rw [hw5, hs0]; exact preZ_new w3
 have HL : Hid (∀ wX, Below w3.heap.size w3 wX → LateZ w wX P a a6 x g q6) := by
  show ∀ wX, _
  intro wX hX
  have h0X : Below w0.heap.size w0 wX := HB03.out.trans (hX.mono (by omega))
  have h2X : Below w2.heap.size w2 wX := HB3.out.trans (hX.mono hz3)
  exact ⟨HX0.out.below h0X hl0, HX1.out.below h0X hl1, HX2.out.below h0X hl2, HX6.out.below h2X hq2, HIN.out wX h0X, HN6.out.below (HB12.out.trans (h2X.mono hz2)), HACT.out wX h0X, by rw [HG.out]; exact HB0.out.trans (h0X.mono hgw), (h0X.block (g + 2) hl2).trans HTY2.out⟩
 have hz5 : w5.heap.size = s0 + 2 := by rw [hw5, hs0]; simp
 have hgs : g + 2 < s0 := by omega
 have hqs : q6 < s0 := by omega
 have hs3 : w3.heap.size = s0 := hs0.symm
 have HB5 : Hid (Below w3.heap.size w3 w5) := HPS.out.bel
 have HL5 := Lib.hid (HL.out w5 HB5.out)
 have kD := (HL5.out.b1.2 0 _ rfl).1
 clear hw5 hs0 HX0 HX1 HX2 HIN HACT HN6
 go_upto_region 15 with (go_at_call 45; refine (withinG_is x.Do 11 5 _ HRV.out (by omega) (by omega)).mono ?_; rintro e w' ⟨rfl, rfl⟩)
 clear kD HRV
 go_upto_region 31 with fail
 have HFT := Lib.hid (fit_any P a x w5 HL5.out.inn (HGR.out.few1 (by omega)) HL5.out.act HFE.out.1)
 go_upto_region 32 with (first
  | (refine wpList_load_box rfl 27 _ rfl g rfl (wkC P a) (HL5.out.b0) _ Tryz.underlying27 rfl size_wk ?_)
  | (refine wpList_load_box rfl 50 _ rfl (g + 1) rfl (actC x) HL5.out.b1 _ Tryz.underlying50 rfl size_act ?_)
  | (go_at_call 53; refine HFT.out.mono ?_; rintro e w51 ⟨m, am, rfl, hmi, hmf, hmo, hb51, hmk⟩)
  | (refine wpList_store_box rfl 48 _ _ rfl w51.heap.size 0 (msgC m am) zeroMC (msgC m am) rfl rfl (box_new w51 zeroMC 48) (show 0 + 18 ≤ 18 by decide) rfl size_mesF rfl ?_; intro w52 bx52 T52))
 have t52 := T52 (fun j => j = w51.heap.size) rfl
 obtain ⟨q17, hq17⟩ : ∃ q, q = w51.heap.size := ⟨_, rfl⟩
 rw [← hq17] at bx52 t52 ⊢
 have hz51 := hb51.size
 have hb5152 : Below w51.heap.size w51 w52 := ((Below.refl _ _).alloc (Nat.le_refl _) _).trans (t52.below (fun j hj => by omega) (by simp))
 have hz52 := hb5152.size
 have hb552 : Below w5.heap.size w5 w52 := hb51.trans (hb5152.mono hz51)
 have HB552 := Lib.hid hb552
 have HMT : Hid (∀ wX, Touch (fun j => j < w5.heap.size) w52 wX → MsgIn wX m am) := by
  show ∀ wX, _
  exact fun wX hX => hmi wX ((Touch.of hb5152).on hX)
 have HMI : Hid (∀ wX, Below w52.heap.size w52 wX → MsgIn wX m am) := by
  show ∀ wX, _
  exact fun wX hX => HMT.out wX (Touch.of hX)
 have HMB : Hid (Box w52 q17 (msgC m am)) := bx52
 have HMF : Hid (MsgFew 2000 am) := hmf
 have HMO : Hid (MsgOk m) := hmo
 have HMK : Hid (m.k = kd) := hmk.trans HKD.out
 have hq17l : q17 < w52.heap.size := bx52.1
 have hq17s : s0 + 1 < q17 := by omega
 have HB52 : Hid (Below w3.heap.size w3 w52) := HB5.out.trans (hb552.mono HB5.out.size)
 have HL52 := Lib.hid (HL.out w52 HB52.out)
 have HML : Hid (m.L.length ≤ 12000 ∧ m.D.length ≤ 12000) := by
  have hm0 := HMI.out w52 (Below.refl _ _)
  have h1 := hm0.zL
  have h2 := hm0.zD
  have h3 := hmf.sL
  have h4 := hmf.sD
  exact ⟨by omega, by omega⟩
 clear hmi hmf hmo hmk hb51 T52 t52 hq17 bx52 hb552 hb5152 HFT
 go_upto_if 127 with fail
 go_cut [8, 9] from 127 to 133 (fun v8 v9 wx => ∃ E : Int, v9 = .int .i64 E ∧ Hid (TakeMid P m w52 wx v8 E))
 case first =>
  cases bm with
  | true =>
   have HRT := Lib.hid (HRR.out P a m am w52 HL52.out.inn (HMI.out w52 (Below.refl _ _)) (HMF.out.more (by decide)) (HGR.out.few (by omega)) HBM.out HMK.out)
   go_wp2_with (first
    | (refine wpList_load_box rfl 27 _ rfl g rfl (wkC P a) (HL52.out.b0) _ Tryz.underlying27 rfl size_wk ?_)
    | (refine wpList_load_box rfl 48 _ rfl q17 rfl (msgC m am) (HMB.out) _ Tryz.underlying48 rfl size_mesF ?_)
    | (go_at_call 54; refine HRT.out.mono ?_; rintro e w6 ⟨s, rfl, hor⟩))
   have HTM : Hid (TakeMid P m w52 w6 (.pointer (some ⟨s, 0, none⟩)) (takeE P m)) := by
    refine ⟨hor.elim (fun h => h.2) (fun ⟨B, a, o, ms, h⟩ => h.2.2), by rw [ifMay_yes HBM.out], fun h0 => ?_⟩
    rcases hor with h | ⟨B, a, o, ms, h1, h2, h3⟩
    ·exact absurd h0 h.1
    ·exact ⟨s, B, a, o, ms, rfl, h1, h2⟩
   clear hor
   go_meet
   exact ⟨_, rfl, HTM⟩
  | false =>
   have HTM : Hid (TakeMid P m w52 w52 (.pointer (some ⟨s0, 0, none⟩)) 1) := ⟨Below.refl _ _, by rw [ifMay_no HBM.out], fun h0 => absurd h0 (by decide)⟩
   go_wp2_with fail
   go_meet
   exact ⟨1, rfl, HTM⟩
 case rest =>
 obtain ⟨E, rfl, HAM⟩ := hcut
 rename World => w6
 have hb6 := HAM.out.bel
 have HB526 : Hid (Below w52.heap.size w52 w6) := hb6
 have HB56 : Hid (Below w5.heap.size w5 w6) := HB552.out.trans (hb6.mono HB552.out.size)
 have HB6 : Hid (Below w3.heap.size w3 w6) := HB5.out.trans (HB56.out.mono HB5.out.size)
 have HL6 := Lib.hid (HL.out w6 HB6.out)
 clear hb6
 have HEV : Hid (E = ifMay P (takeE P m)) := HAM.out.err
 obtain ⟨Qx, hQx⟩ : ∃ Q, Q = orW E (takeW P m) := ⟨_, rfl⟩
 obtain ⟨lx, hlx⟩ : ∃ l, l = orO E (takeO P m) := ⟨_, rfl⟩
 have HQL : Hid (Qx = orW E (takeW P m) ∧ lx = orO E (takeO P m)) := ⟨hQx, hlx⟩
 clear hQx hlx
 have hz526 := HB526.out.size
 have hz5_6 := HB56.out.size
 have HCC := Lib.hid (rcopyMsgA_any m am w6 (HMI.out w6 HB526.out) (HMF.out.more (by decide)))
 have bq6 := HMB.out.below HB526.out hq17l
 go_upto_region 35 with (first
  | (refine wpList_load_box rfl 48 _ rfl q17 rfl (msgC m am) (bq6) _ Tryz.underlying48 rfl size_mesF ?_)
  | (go_at_call 55; refine HCC.out.mono ?_; rintro e w61 ⟨ac, rfl, hnc, hfc, hbc, hapc⟩)
  | (refine wpList_store_box rfl 48 _ _ rfl w61.heap.size 0 (msgC m ac) zeroMC (msgC m ac) rfl rfl (box_new w61 zeroMC 48) (show 0 + 18 ≤ 18 by decide) rfl size_mesF rfl ?_; intro w62 bx62 T62))
 have t62 := T62 (fun j => j = w61.heap.size) rfl
 obtain ⟨q18, hq18⟩ : ∃ q, q = w61.heap.size := ⟨_, rfl⟩
 rw [← hq18] at bx62 t62 ⊢
 have hz61 := hbc.size
 have hb662 : Below w6.heap.size w6 w62 := (hbc.alloc hz61 _).trans (t62.below (fun j hj => by omega) (by simp; omega))
 have hz62 := hb662.size
 have hlt61 : ∀ j, ac.has j → j < q18 ∧ w6.heap.size ≤ j := fun j hj => by have := hnc.lt hj; omega
 have HLT61 := Lib.hid hlt61
 have HNC : Hid (MsgNew w6.heap.size w62 m ac) := (hnc.below ((Below.refl _ _).alloc (Nat.le_refl _) _)).kept fun j hj hl => t62.block j hl (by have := (hlt61 j hj).1; omega)
 have HAC : Hid (MsgAp ac) := hapc
 have HFC : Hid (MsgFew 1000000 ac) := hfc
 have HB662 := Lib.hid hb662
 have hq18l : q18 < w62.heap.size := bx62.1
 have hq18g : w6.heap.size ≤ q18 := by omega
 have HX18 := Lib.hid bx62
 have HL62 := Lib.hid (HL.out w62 (HB6.out.trans (hb662.mono HB6.out.size)))
 have HKT : Hid (Calls Tryz.prog 56 #[wkV P a6, msgV m ac] w62 (Ret3 Qx lx E w62)) := by
  show Calls _ _ _ _ _
  have hkt := HPP.out P a6 m ac w62 HL62.out.in6 HNC.out.in_ HMO.out HFC.out (HGR.out.few (by omega)) HMK.out
  rw [← HEV.out, ← HQL.out.1, ← HQL.out.2] at hkt
  exact hkt
 clear hnc hfc hbc hapc T62 t62 hq18 bx62 hb662 hlt61 HCC bq6
 have bq := ((HPS.out.bq.below HB56.out (by omega)).below HB662.out (by omega))
 go_upto_region 36 with (first
  | (refine wpList_load_box rfl 27 _ rfl q6 rfl (wkC P a6) (HL62.out.b6) _ Tryz.underlying27 rfl size_wk ?_)
  | (refine wpList_load_box rfl 48 _ rfl q18 rfl (msgC m ac) (HX18.out) _ Tryz.underlying48 rfl size_mesF ?_)
  | (go_at_call 56; refine HKT.out.mono ?_; rintro e w7 ⟨ax, ox, msx, rfl, hnx, hox, hex, hap, hb7⟩)
  | (refine wpList_store_box rfl 27 _ _ rfl (s0 + 1) 0 (wkC Qx ax) (zeroC) (wkC Qx ax) rfl rfl (bq.below hb7 (by omega)) (show 0 + 9 ≤ 9 by decide) rfl size_wk rfl ?_; intro w71 bx71 T71))
 have t71 := T71 (fun j => j = s0 + 1) rfl
 have hz7 := hb7.size
 have hz71 := t71.size
 have hnx71 := hnx.touch t71 (fun j hj ho => by have := (hnx.core.lt ho).2; omega) (fun j hj ho => by have := (own_lt hnx.open_ ho).2; omega)
 have hox71 := hox.touch t71 (fun j hj hf => by have := (own_lt hox.row hj).2; omega) (fun y hy j hj hf => by have := (own_lt (hox.sub y hy).1 hj).2; omega)
 have hm71 : MsgNew w6.heap.size w71 m ac := (HNC.out.below hb7).kept fun j hj hl => t71.block j hl (by have := (HLT61.out j hj).2; omega)
 have bx18 := (HX18.out.below hb7 hq18l).touch t71 (by omega)
 have bx17 := ((HMB.out.below (HB526.out.trans (HB662.out.mono hz526)) hq17l).below hb7 (by omega)).touch t71 (by omega)
 have hmi71 : MsgIn w71 m am := HMT.out w71 ((Touch.of ((HB526.out.trans (HB662.out.mono hz526)).trans (hb7.mono (by omega)))).on (t71.mono fun j hj => by omega))
 have HEM := Lib.hid (reqMsg_is true m m ac am w71 (by simp) hm71.in_ hmi71 HFC.out (HMF.out.more (by decide)))
 have HNX71 := Lib.hid hnx71
 have HOX71 := Lib.hid hox71
 have HM71 := Lib.hid hm71
 have HX71 := Lib.hid bx18
 have HY71 := Lib.hid bx17
 have HBX71 : Hid (Box w71 (s0 + 1) (wkC Qx ax)) := bx71
 have HEXx := Lib.hid hex
 have HAPX : Hid (∀ y ∈ msx, ∀ j, y.2.v.ownBlock = some j → ax.O.v.ownBlock ≠ some j ∧ ∀ z ∈ ax.hs, z.2.v.ownBlock ≠ some j) := by show ∀ y ∈ msx, _; exact hap
 have ht671 : Touch (fun j => j = s0 + 1 ∨ w6.heap.size ≤ j) w6 w71 := (((Touch.ofB HB662.out).mono fun j hj => .inr hj).on ((Touch.ofB hb7).mono fun j hj => .inr (by omega))).on (t71.mono fun j hj => .inl hj)
 have HT671 := Lib.hid ht671
 clear hnx hox hex hap hb7 t71 T71 hnx71 hox71 hm71 bx18 bx17 hmi71 bx71 ht671 HKT bq
 go_upto_region 38 with (first
  | (refine wpList_load_box rfl 48 _ rfl q18 rfl (msgC m ac) (HX71.out) _ Tryz.underlying48 rfl size_mesF ?_)
  | (refine wpList_load_box rfl 48 _ rfl q17 rfl (msgC m am) (HY71.out) _ Tryz.underlying48 rfl size_mesF ?_)
  | (go_at_call 57; refine HEM.out.mono ?_; rintro e w72 ⟨rfl, hb72⟩))
 have hz72 := hb72.size
 obtain ⟨w73, hw73⟩ : ∃ z, z = w72.alloc (.cells (msgC m ac).toArray 48) := ⟨_, rfl⟩
 have hrm : RowM w6.heap.size w73 ⟨some ⟨w72.heap.size, 0, none⟩, 1, 1⟩ [(m, ac)] := by rw [hw73]; exact rowM_one (HM71.out.below hb72) HAC.out HFC.out (by omega)
 have HSM := Lib.hid (spoilMsgs_far w6.heap.size _ _ w73 hrm (by simp) (by rw [hw73]; simp; omega))
 have HX72 := Lib.hid (HX71.out.below hb72 HX71.out.1)
 have hb7273 : Below w72.heap.size w72 w73 := by rw [hw73]; exact (Below.refl _ _).alloc (Nat.le_refl _) _
 have hb7173 : Below w71.heap.size w71 w73 := hb72.trans (hb7273.mono hz72)
 have HB7173 := Lib.hid hb7173
 have hz73 := hb7273.size
 have HW73 : Hid (w72.alloc (.cells (msgC m ac).toArray 48) = w73) := hw73.symm
 have HFAR : Hid (∀ j, rowMHas ⟨some ⟨w72.heap.size, 0, none⟩, 1, 1⟩ [(m, ac)] j → j = w72.heap.size ∨ (j < q18 ∧ w6.heap.size ≤ j)) := by
  show ∀ j, _
  rintro j (hj | ⟨y, hy, hj⟩)
  ·simp [Ad.v, Value.ownBlock] at hj
   exact .inl hj.symm
  ·rw [List.mem_singleton.1 hy] at hj
   exact .inr (HLT61.out j hj)
 clear hb72 hw73 hrm hb7273 hb7173 HEM
 unfold Ad.v at HSM
 go_upto_region 51 with (first
  | (refine wpList_load_box rfl 48 _ rfl q18 rfl (msgC m ac) (HX72.out) _ Tryz.underlying48 rfl size_mesF ?_)
  | (refine wpList_build_msgZ rfl _ rfl m ac rfl ?_)
  | (rw [HW73.out]; go_at_call 58; refine HSM.out.mono ?_; rintro e w8 ⟨rfl, ht9⟩))
 have hzw := ht9.size
 have hq62 : q18 < w62.heap.size := hq18l
 have h7173 := HB7173.out.size
 have hnx9 : WNew w62.heap.size w8 Qx ax := (HNX71.out.below HB7173.out).touch ht9 (fun j hj ho => by have h1 := (HNX71.out.core.lt ho); have := HFAR.out j hj; omega) (fun j hj ho => by have h1 := (own_lt HNX71.out.open_ ho); have := HFAR.out j hj; omega)
 have hox9 : RowOwn KM w62.heap.size w8 ox msx := (HOX71.out.below HB7173.out).touch ht9 (fun j hj hf => by have h1 := own_lt HOX71.out.row hj; have := HFAR.out j hf; omega) (fun y hy j hj hf => by have h1 := own_lt (HOX71.out.sub y hy).1 hj; have := HFAR.out j hf; omega)
 have bx9 : Box w8 (s0 + 1) (wkC Qx ax) := (HBX71.out.below HB7173.out HBX71.out.1).touch ht9 (fun hf => by have := HFAR.out _ hf; omega)
 have ht69 : Touch (fun j => j = s0 + 1 ∨ w6.heap.size ≤ j) w6 w8 := (HT671.out.on (Touch.of HB7173.out)).on (ht9.mono fun j hj => .inr (by have := HFAR.out j hj; omega))
 by_cases hE : E = 0
 ·obtain ⟨s, B, asx, os, mss, hv8, hB, hst⟩ := HAM.out.st hE
  subst hv8
  obtain ⟨Q, hQ⟩ : ∃ Q, Q = takeW P m := ⟨_, rfl⟩
  obtain ⟨l, hl⟩ : ∃ l, l = takeO P m := ⟨_, rfl⟩
  rw [← hQ, ← hl] at hst
  have hQx : Qx = Q := by rw [HQL.out.1, hE, orW, if_pos rfl, hQ]
  have hlx : lx = l := by rw [HQL.out.2, hE, orO, if_pos rfl, hl]
  have HGQ : Hid (Grown (k + 1) Q) := by show Grown _ _; rw [hQ]; exact HGR.out.take m HML.out.1
  have HSH : Hid (ShortO l) := by show ShortO _; rw [hl]; exact take_short HGR.out m HML.out.2
  have HST6 : Hid (StAt s B w6 Q asx l os mss) := hst
  have hsB := hst.gB
  have HSG2 : Hid (¬ s = g + 2) := by show ¬ _; have := HB552.out.size; omega
  have HSQ : Hid (s ≠ s0 + 1) := by show s ≠ _; have := HB552.out.size; omega
  rw [hlx] at HEXx
  rw [hQx] at hnx9 bx9
  clear HQL HEV
  subst hE
  clear hQ hl hst hQx hlx
  obtain ⟨C, hC⟩ : ∃ C, C = w62.heap.size := ⟨_, rfl⟩
  rw [← hC] at hnx9 hox9
  have hC9 : C ≤ w8.heap.size := by omega
  have hCs : s0 + 1 < C := by omega
  have hC6 : w6.heap.size ≤ C := by omega
  have HNX : Hid (WNew C w8 Q ax) := hnx9
  have HOX : Hid (RowOwn KM C w8 ox msx) := hox9
  have HEX : Hid (msx.map Prod.fst = l) := HEXx.out
  have HBXQ : Hid (Box w8 (s0 + 1) (wkC Q ax)) := bx9
  have hty6 := (HB56.out.block (s0 + 1) (by omega)).trans HPS.out.ty
  have HSW : Hid (∀ wX, Below C w8 wX → StAt s B wX Q asx l os mss) := by
   show ∀ wX, _
   intro wX hX
   exact HST6.out.late2 hty6 HSQ.out (ht69.on ((Touch.ofB hX).mono fun j hj => .inr (by omega)))
  have HB9 : Hid (Below w3.heap.size w3 w8) := HB6.out.trans (ht69.below (fun j hj => by omega) (by omega))
  have HS9 : Hid (StAt s B w8 Q asx l os mss) := HSW.out w8 (Below.refl _ _)
  clear hnx9 hox9 bx9 ht69 ht9 hty6 hC
  go_upto_region 53 with fail
  have HBX : Hid (∀ wX, Below w8.heap.size w8 wX → Box wX (s0 + 1) (wkC Q ax) ∧ Box wX s (wkC Q asx) ∧ Box wX q6 (wkC P a6) ∧ Box wX g (wkC P a) ∧ wX.cell? ⟨s, 9, none⟩ = some (.slice os.A os.n os.c)) := by
   show ∀ wX, _
   intro wX hX
   have hl := HL.out wX (HB9.out.trans (hX.mono HB9.out.size))
   have hst := HS9.out.below hX
   exact ⟨HBXQ.out.below hX HBXQ.out.1, hst.wk, hl.b6, hl.b0, (hst.box.2 9 _ rfl).1⟩
  have HIQ : Hid (∀ wX, Below w8.heap.size w8 wX → WIn wX Q ax ∧ WIn wX Q asx ∧ WIn wX P a6 ∧ WIn wX P a ∧ RowIn KM wX ox msx ∧ RowIn KM wX os mss) := by
   show ∀ wX, _
   intro wX hX
   have hl := HL.out wX (HB9.out.trans (hX.mono HB9.out.size))
   have hst := HS9.out.below hX
   exact ⟨(HNX.out.below hX).in_, hst.pg.in_, hl.in6, hl.inn, (HOX.out.below hX).in_, hst.out.in_⟩
  have hls : msx.length ≤ 1000000 ∧ mss.length ≤ 1000000 := ⟨by rw [← List.length_map (f := Prod.fst), HEX.out]; exact HSH.out.1, by rw [HS9.out.lenOZ]; exact HSH.out.1⟩
  have HLS := Lib.hid hls
  have HLY : Hid (∀ y ∈ msx, KM.len y.1 ≤ 1000000) := by
   show ∀ y ∈ msx, _
   exact fun y hy => Nat.le_trans (HSH.out.2 y.1 (by rw [← HEX.out]; exact List.mem_map_of_mem hy)) (by decide)
  have HLT : Hid (∀ y ∈ mss, KM.len y.1 ≤ 1000000) := by
   show ∀ y ∈ mss, _
   exact fun y hy => Nat.le_trans (HSH.out.2 y.1 (by rw [← HS9.out.eO]; exact List.mem_map_of_mem hy)) (by decide)
  clear hls
  have hS0 : Below w8.heap.size w8 w8.drew := (Below.refl _ _).drew
  refine wp_region_held_drew (S := fun w' => Below w8.heap.size w8 w') (by kernel_rfl) hS0 (fun _ => ?_)
  refine ytake_0 (v := ?vv864) (by kernel_rfl) (by kernel_rfl) (by kernel_rfl) (fun _ _ _ h => h) (Or.inl ⟨by rfl, ?hy864⟩) hS0 ?_
  case hy864 =>
   intro wX hSw
   go_simp
   try with_reducible rfl
  try simp only [Act.put, List.setIfInBounds_toArray, List.set_cons_zero, List.set_cons_succ]
  refine ytake_2 (v := ?vv865) (by kernel_rfl) (by kernel_rfl) (by kernel_rfl) (fun _ _ _ h => h) (Or.inl ⟨by rfl, ?hy865⟩) hS0 ?_
  case hy865 =>
   intro wX hSw
   go_simp
   try with_reducible rfl
  try simp only [Act.put, List.setIfInBounds_toArray, List.set_cons_zero, List.set_cons_succ]
  refine yready_1 (by kernel_rfl) ?_
  intro KQ hK
  rw [if_pos (by rfl)]
  try go_simp
  refine (num13_any _ _).mono ?_
  rintro e w' ⟨rfl, rfl⟩
  refine hK.out _ _ hS0 (fun _ => ?_)
  clear hK KQ
  try simp only [Act.put, List.setIfInBounds_toArray, List.set_cons_zero, List.set_cons_succ]
  refine ytake_3 (v := ?vv866) (by kernel_rfl) (by kernel_rfl) (by kernel_rfl) (fun _ _ _ h => h) (Or.inl ⟨by rfl, ?hy866⟩) hS0 ?_
  case hy866 =>
   intro wX hSw
   go_simp
   try with_reducible rfl
  try simp only [Act.put, List.setIfInBounds_toArray, List.set_cons_zero, List.set_cons_succ]
  refine ytake_4 (v := ?vv867) (by kernel_rfl) (by kernel_rfl) (by kernel_rfl) (fun _ _ _ h => h) (Or.inl ⟨by rfl, ?hy867⟩) hS0 ?_
  case hy867 =>
   intro wX hSw
   go_simp
   try with_reducible rfl
  try simp only [Act.put, List.setIfInBounds_toArray, List.set_cons_zero, List.set_cons_succ]
  refine ytake_5 (by kernel_rfl) (by kernel_rfl) (by kernel_rfl) (fun _ _ _ h => h) (yieldsIf_load_mid (by rfl) 27 _ rfl (s0 + 1) 0 rfl (wkC Q ax) _ (fun w' h => box_rangeZ ((HBX.out w' h).1)) Tryz.underlying27 rfl size_wk) hS0 ?_
  try simp only [Act.put, List.setIfInBounds_toArray, List.set_cons_zero, List.set_cons_succ]
  refine ytake_6 (v := ?vv868) (by kernel_rfl) (by kernel_rfl) (by kernel_rfl) (fun _ _ _ h => h) (Or.inl ⟨by rfl, ?hy868⟩) hS0 ?_
  case hy868 =>
   intro wX hSw
   go_simp
   try with_reducible rfl
  try simp only [Act.put, List.setIfInBounds_toArray, List.set_cons_zero, List.set_cons_succ]
  refine ytake_7 (v := ?vv869) (by kernel_rfl) (by kernel_rfl) (by kernel_rfl) (fun _ _ _ h => h) (Or.inl ⟨by rfl, ?hy869⟩) hS0 ?_
  case hy869 =>
   intro wX hSw
   go_simp
   try with_reducible rfl
  try simp only [Act.put, List.setIfInBounds_toArray, List.set_cons_zero, List.set_cons_succ]
  refine ytake_8 (v := ?vv870) (by kernel_rfl) (by kernel_rfl) (by kernel_rfl) (fun _ _ _ h => h) (Or.inl ⟨by rfl, ?hy870⟩) hS0 ?_
  case hy870 =>
   intro wX hSw
   go_simp
   try with_reducible rfl
  try simp only [Act.put, List.setIfInBounds_toArray, List.set_cons_zero, List.set_cons_succ]
  refine ytake_9 (by kernel_rfl) (by kernel_rfl) (by kernel_rfl) (fun _ _ _ h => h) (yieldsIf_load_mid (by rfl) 27 _ rfl s 0 rfl (wkC Q asx) _ (fun w' h => box_rangeZ ((HBX.out w' h).2.1)) Tryz.underlying27 rfl size_wk) hS0 ?_
  try simp only [Act.put, List.setIfInBounds_toArray, List.set_cons_zero, List.set_cons_succ]
  refine yready_10 (by kernel_rfl) ?_
  intro KQ hK
  rw [if_pos (by rfl)]
  try go_simp
  refine (reqWk_is true Q Q ax asx _ (by simp) ((HIQ.out _ hS0).1) ((HIQ.out _ hS0).2.1) (HGQ.out.few1 (by omega)) (HGQ.out.few1 (by omega))).mono ?_
  rintro e w10 ⟨rfl, hc10⟩
  have hS10 : Below w8.heap.size w8 w10 := hS0.trans (hc10.mono hS0.size)
  refine hK.out _ _ hS10 (fun _ => ?_)
  clear hK KQ
  try simp only [Act.put, List.setIfInBounds_toArray, List.set_cons_zero, List.set_cons_succ]
  refine ytake_11 (v := ?vv871) (by kernel_rfl) (by kernel_rfl) (by kernel_rfl) (fun _ _ _ h => h) (Or.inl ⟨by rfl, ?hy871⟩) hS10 ?_
  case hy871 =>
   intro wX hSw
   go_simp
   try with_reducible rfl
  try simp only [Act.put, List.setIfInBounds_toArray, List.set_cons_zero, List.set_cons_succ]
  refine ytake_12 (v := ?vv872) (by kernel_rfl) (by kernel_rfl) (by kernel_rfl) (fun _ _ _ h => h) (Or.inl ⟨by rfl, ?hy872⟩) hS10 ?_
  case hy872 =>
   intro wX hSw
   go_simp
   try with_reducible rfl
  try simp only [Act.put, List.setIfInBounds_toArray, List.set_cons_zero, List.set_cons_succ]
  refine ytake_13 (v := ?vv873) (by kernel_rfl) (by kernel_rfl) (by kernel_rfl) (fun _ _ _ h => h) (Or.inl ⟨by rfl, ?hy873⟩) hS10 ?_
  case hy873 =>
   intro wX hSw
   go_simp
   try with_reducible rfl
  try simp only [Act.put, List.setIfInBounds_toArray, List.set_cons_zero, List.set_cons_succ]
  refine ytake_14 (v := ?vv874) (by kernel_rfl) (by kernel_rfl) (by kernel_rfl) (fun _ _ _ h => h) (Or.inl ⟨by rfl, ?hy874⟩) hS10 ?_
  case hy874 =>
   intro wX hSw
   go_simp
   try with_reducible rfl
  try simp only [Act.put, List.setIfInBounds_toArray, List.set_cons_zero, List.set_cons_succ]
  refine ytake_15 (v := ?vv875) (by kernel_rfl) (by kernel_rfl) (by kernel_rfl) (fun _ _ _ h => h) (Or.inl ⟨by rfl, ?hy875⟩) hS10 ?_
  case hy875 =>
   intro wX hSw
   go_simp
   try with_reducible rfl
  try simp only [Act.put, List.setIfInBounds_toArray, List.set_cons_zero, List.set_cons_succ]
  refine ytake_16 (v := ?vv876) (by kernel_rfl) (by kernel_rfl) (by kernel_rfl) (fun _ _ _ h => h) (Or.inl ⟨by rfl, ?hy876⟩) hS10 ?_
  case hy876 =>
   intro wX hSw
   go_simp
   try with_reducible rfl
  try simp only [Act.put, List.setIfInBounds_toArray, List.set_cons_zero, List.set_cons_succ]
  refine ytake_17 (v := ?vv877) (by kernel_rfl) (by kernel_rfl) (by kernel_rfl) (fun _ _ _ h => h) (Or.inl ⟨by rfl, ?hy877⟩) hS10 ?_
  case hy877 =>
   intro wX hSw
   have k9 := (HBX.out _ hSw).2.2.2.2
   go_simp
   try with_reducible rfl
  try simp only [Act.put, List.setIfInBounds_toArray, List.set_cons_zero, List.set_cons_succ]
  refine yready_18 (by kernel_rfl) ?_
  intro KQ hK
  rw [if_pos (by rfl)]
  try go_simp
  refine (reqMessages_is true ox os msx mss w10 (by rw [HEX.out, HS9.out.eO]; simp) (HIQ.out _ hS10).2.2.2.2.1 (HIQ.out _ hS10).2.2.2.2.2 HLS.out.1 HLS.out.2 HLY.out HLT.out).mono ?_
  rintro e w11 ⟨rfl, hc18⟩
  have hS11 : Below w8.heap.size w8 w11 := hS10.trans (hc18.mono hS10.size)
  refine hK.out _ _ hS11 (fun _ => ?_)
  clear hK KQ
  try simp only [Act.put, List.setIfInBounds_toArray, List.set_cons_zero, List.set_cons_succ]
  refine ytake_19 (v := ?vv878) (by kernel_rfl) (by kernel_rfl) (by kernel_rfl) (fun _ _ _ h => h) (Or.inl ⟨by rfl, ?hy878⟩) hS11 ?_
  case hy878 =>
   intro wX hSw
   go_simp
   try with_reducible rfl
  try simp only [Act.put, List.setIfInBounds_toArray, List.set_cons_zero, List.set_cons_succ]
  refine ytake_20 (v := ?vv879) (by kernel_rfl) (by kernel_rfl) (by kernel_rfl) (fun _ _ _ h => h) (Or.inl ⟨by rfl, ?hy879⟩) hS11 ?_
  case hy879 =>
   intro wX hSw
   go_simp
   try with_reducible rfl
  try simp only [Act.put, List.setIfInBounds_toArray, List.set_cons_zero, List.set_cons_succ]
  refine ytake_21 (by kernel_rfl) (by kernel_rfl) (by kernel_rfl) (fun _ _ _ h => h) (yieldsIf_load_mid (by rfl) 27 _ rfl q6 0 rfl (wkC P a6) _ (fun w' h => box_rangeZ ((HBX.out w' h).2.2.1)) Tryz.underlying27 rfl size_wk) hS11 ?_
  try simp only [Act.put, List.setIfInBounds_toArray, List.set_cons_zero, List.set_cons_succ]
  refine ytake_22 (by kernel_rfl) (by kernel_rfl) (by kernel_rfl) (fun _ _ _ h => h) (yieldsIf_load_mid (by rfl) 27 _ rfl g 0 rfl (wkC P a) _ (fun w' h => box_rangeZ ((HBX.out w' h).2.2.2.1)) Tryz.underlying27 rfl size_wk) hS11 ?_
  try simp only [Act.put, List.setIfInBounds_toArray, List.set_cons_zero, List.set_cons_succ]
  refine yready_23 (by kernel_rfl) ?_
  intro KQ hK
  rw [if_pos (by rfl)]
  try go_simp
  refine (reqWk_is true P P a6 a _ (by simp) ((HIQ.out _ hS11).2.2.1) ((HIQ.out _ hS11).2.2.2.1) (HGR.out.few1 (by omega)) (HGR.out.few1 (by omega))).mono ?_
  rintro e w12 ⟨rfl, hc23⟩
  have hS12 : Below w8.heap.size w8 w12 := hS11.trans (hc23.mono hS11.size)
  refine hK.out _ _ hS12 (fun _ => ?_)
  clear hK KQ
  try simp only [Act.put, List.setIfInBounds_toArray, List.set_cons_zero, List.set_cons_succ]
  refine ytake_24 (v := ?vv880) (by kernel_rfl) (by kernel_rfl) (by kernel_rfl) (fun _ _ _ h => h) (Or.inl ⟨by rfl, ?hy880⟩) hS12 ?_
  case hy880 =>
   intro wX hSw
   go_simp
   try with_reducible rfl
  try simp only [Act.put, List.setIfInBounds_toArray, List.set_cons_zero, List.set_cons_succ]
  refine ytake_25 (v := ?vv881) (by kernel_rfl) (by kernel_rfl) (by kernel_rfl) (fun _ _ _ h => h) (Or.inl ⟨by rfl, ?hy881⟩) hS12 ?_
  case hy881 =>
   intro wX hSw
   go_simp
   try with_reducible rfl
  try simp only [Act.put, List.setIfInBounds_toArray, List.set_cons_zero, List.set_cons_succ]
  refine wpAnyH_done (by kernel_rfl) ?_ _
  have hb12 : Below w3.heap.size w3 w12 := HB9.out.trans (hS12.mono HB9.out.size)
  have HB12' := Lib.hid hb12
  have HB912 := Lib.hid hS12
  have hz12 := hS12.size
  have HNX12 : Hid (WNew C w12 Q ax) := HNX.out.below hS12
  have HOX12 : Hid (RowOwn KM C w12 ox msx) := HOX.out.below hS12
  have HSPW := Lib.hid (spoilWk_far C Q ax w12 HNX12.out (HGQ.out.few4 (by omega)))
  have HXB12 := Lib.hid (HBX.out w12 hS12).1
  clear hS0 hS10 hS11 hS12 hb12
  go_upto_region 55 with (first
   | (refine wpList_load_box rfl 27 _ rfl (s0 + 1) rfl (wkC Q ax) (HXB12.out) _ Tryz.underlying27 rfl size_wk ?_)
   | (go_at_call 68; refine HSPW.out.mono ?_; rintro e w13 ⟨rfl, ht13⟩))
  have ht13' : Touch (fun j => ax.owns j ∨ ax.O.v.ownBlock = some j) w12 w13 := ht13
  have hz13 := ht13'.size
  have HB1213 : Hid (Below C w12 w13) := ht13'.below (fun j hj => by
   rcases hj with hj | hj
   ·exact (HNX12.out.core.lt hj).2
   ·exact (own_lt HNX12.out.open_ hj).2) (by omega)
  have hrow13 : RowOwn KM C w13 ox msx := spoilt_row HNX12.out HOX12.out HAPX.out ht13'
  have HSPM := Lib.hid (spoilMsgs_any C ox _ w13 (hrow13.rowM (fun y hy => HLY.out y hy)) (by rw [List.length_map]; exact HLS.out.1) (by omega))
  clear ht13 ht13' hrow13
  unfold Ad.v at HSPM
  go_upto_region 56 with (go_at_call 58; refine HSPM.out.mono ?_; rintro e w14 ⟨rfl, hb14⟩)
  have hz14 := hb14.size
  have hb1214 : Below C w12 w14 := HB1213.out.trans hb14
  have hb9 : Below C w8 w14 := (HB912.out.mono (by omega)).trans hb1214
  have hb314 : Below w3.heap.size w3 w14 := HB9.out.trans (hb9.mono (by omega))
  have HB914 := Lib.hid hb9
  have HB14 := Lib.hid hb314
  clear hb14 hb1214 hb9 hb314 HSPM HSPW
  have HLX : Hid (∀ wX, Below w14.heap.size w14 wX → LateZ w wX P a a6 x g q6) := by
   show ∀ wX, _
   exact fun wX hX => HL.out wX (HB14.out.trans (hX.mono HB14.out.size))
  have hlx := HLX.out w14 (Below.refl _ _)
  have HST14 : Hid (∀ wX, Below w14.heap.size w14 wX → StAt s B wX Q asx l os mss) := by
   show ∀ wX, _
   exact fun wX hX => (HSW.out w14 HB914.out).below hX
  have hsx := (HST14.out w14 (Below.refl _ _)).wk
  have HBT : Hid (∀ wX, Touch (fun j => j = g + 2) w14 wX → Box wX g (wkC P a) ∧ Box wX q6 (wkC P a6) ∧ Box wX s (wkC Q asx)) := by
   show ∀ wX, _
   exact fun wX hX => ⟨hlx.b0.touch hX (by omega), hlx.b6.touch hX (by omega), hsx.touch hX HSG2.out⟩
  clear hsx
  clear hlx
  go_upto_region 58 with fail
  have hB0 : Below w14.heap.size w14 w14.drew := (Below.refl _ _).drew
  have hS0 : Touch (fun j => j = g + 2) w14 w14.drew := Touch.of hB0
  refine wp_region_held_drew (S := fun w' => Touch (fun j => j = g + 2) w14 w') (by kernel_rfl) hS0 (fun _ => ?_)
  refine ytake_0 (v := ?vv882) (by kernel_rfl) (by kernel_rfl) (by kernel_rfl) (fun _ _ _ h => h) (Or.inl ⟨by rfl, ?hy882⟩) hS0 ?_
  case hy882 =>
   intro wX hSw
   go_simp
   try with_reducible rfl
  try simp only [Act.put, List.setIfInBounds_toArray, List.set_cons_zero, List.set_cons_succ]
  refine ytake_1 (v := ?vv883) (by kernel_rfl) (by kernel_rfl) (by kernel_rfl) (fun _ _ _ h => h) (Or.inl ⟨by rfl, ?hy883⟩) hS0 ?_
  case hy883 =>
   intro wX hSw
   go_simp
   try with_reducible rfl
  try simp only [Act.put, List.setIfInBounds_toArray, List.set_cons_zero, List.set_cons_succ]
  refine ytake_2 (v := ?vv884) (by kernel_rfl) (by kernel_rfl) (by kernel_rfl) (fun _ _ _ h => h) (Or.inl ⟨by rfl, ?hy884⟩) hS0 ?_
  case hy884 =>
   intro wX hSw
   go_simp
   try with_reducible rfl
  try simp only [Act.put, List.setIfInBounds_toArray, List.set_cons_zero, List.set_cons_succ]
  refine ytake_3 (by kernel_rfl) (by kernel_rfl) (by kernel_rfl) (fun _ _ _ h => h) (yieldsIf_load_mid (by rfl) 27 _ rfl s 0 rfl (wkC Q asx) _ (fun w' h => box_rangeZ ((HBT.out w' h).2.2)) Tryz.underlying27 rfl size_wk) hS0 ?_
  try simp only [Act.put, List.setIfInBounds_toArray, List.set_cons_zero, List.set_cons_succ]
  refine ytake_4 (v := ?vv885) (by kernel_rfl) (by kernel_rfl) (by kernel_rfl) (fun _ _ _ h => h) (Or.inl ⟨by rfl, ?hy885⟩) hS0 ?_
  case hy885 =>
   intro wX hSw
   go_simp
   try with_reducible rfl
  try simp only [Act.put, List.setIfInBounds_toArray, List.set_cons_zero, List.set_cons_succ]
  refine ytake_5 (v := ?vv886) (by kernel_rfl) (by kernel_rfl) (by kernel_rfl) (fun _ _ _ h => h) (Or.inl ⟨by rfl, ?hy886⟩) hS0 ?_
  case hy886 =>
   intro wX hSw
   go_simp
   try with_reducible rfl
  try simp only [Act.put, List.setIfInBounds_toArray, List.set_cons_zero, List.set_cons_succ]
  refine ytake_6 (by kernel_rfl) (by kernel_rfl) (by kernel_rfl) (fun _ _ _ h => h) (yieldsIf_load_mid (by rfl) 27 _ rfl q6 0 rfl (wkC P a6) _ (fun w' h => box_rangeZ ((HBT.out w' h).2.1)) Tryz.underlying27 rfl size_wk) hS0 ?_
  try simp only [Act.put, List.setIfInBounds_toArray, List.set_cons_zero, List.set_cons_succ]
  refine ytake_7 (by kernel_rfl) (by kernel_rfl) (by kernel_rfl) (fun _ _ _ h => h) (yieldsIf_load_mid (by rfl) 27 _ rfl g 0 rfl (wkC P a) _ (fun w' h => box_rangeZ ((HBT.out w' h).1)) Tryz.underlying27 rfl size_wk) hS0 ?_
  try simp only [Act.put, List.setIfInBounds_toArray, List.set_cons_zero, List.set_cons_succ]
  refine yready_8 (by kernel_rfl) ?_
  intro KQ hK
  rw [if_pos (by rfl)]
  try go_simp
  refine (reqWk_is true P P a6 a _ (by simp) (HLX.out _ hB0).in6 (HLX.out _ hB0).inn (HGR.out.few1 (by omega)) (HGR.out.few1 (by omega))).mono ?_
  rintro e w15 ⟨rfl, hc15⟩
  have hB15 : Below w14.heap.size w14 w15 := hB0.trans (hc15.mono hB0.size)
  have hS15 : Touch (fun j => j = g + 2) w14 w15 := Touch.of hB15
  refine hK.out _ _ hS15 (fun _ => ?_)
  clear hK KQ
  try simp only [Act.put, List.setIfInBounds_toArray, List.set_cons_zero, List.set_cons_succ]
  refine ytake_9 (v := ?vv887) (by kernel_rfl) (by kernel_rfl) (by kernel_rfl) (fun _ _ _ h => h) (Or.inl ⟨by rfl, ?hy887⟩) hS15 ?_
  case hy887 =>
   intro wX hSw
   go_simp
   try with_reducible rfl
  try simp only [Act.put, List.setIfInBounds_toArray, List.set_cons_zero, List.set_cons_succ]
  have hlz := HLX.out w15 hB15
  refine yready_10 (by kernel_rfl) ?_
  intro KQ hK
  rw [if_pos (by rfl)]
  refine wp_store_boxY 27 _ _ rfl (g + 2) 0 (wkC Q asx) zeroC (wkC Q asx) rfl rfl hlz.b2 (show 0 + 9 ≤ 9 by decide) rfl size_wk rfl ?_
  intro w16 bx16 T16
  have t16 := T16 (fun j => j = g + 2) rfl
  have hS16 : Touch (fun j => j = g + 2) w14 w16 := hS15.on t16
  refine hK.out _ _ hS16 (fun _ => ?_)
  clear hK KQ
  simp only [Act.put]
  refine ytake_11 (v := ?vv888) (by kernel_rfl) (by kernel_rfl) (by kernel_rfl) (fun _ _ _ h => h) (Or.inl ⟨by rfl, ?hy888⟩) hS16 ?_
  case hy888 =>
   intro wX hSw
   go_simp
   try with_reducible rfl
  try simp only [Act.put, List.setIfInBounds_toArray, List.set_cons_zero, List.set_cons_succ]
  refine wpAnyH_done (by kernel_rfl) ?_ _
  have hres : Below w.heap.size w w16 := hlz.bel.trans (t16.below (fun j hj => by have := HG.out; omega) hlz.bel.size)
  have HRES := Lib.hid hres
  have HWI : Hid (WIn w16 Q asx) := by
   show WIn _ _ _
   have hst := HST14.out w15 hB15
   exact (hst.far t16 (fun j hj => by
    subst hj
    exact ⟨fun e => HSG2.out e.symm, hst.other hlz.ty⟩)).pg.in_
  have HBR := Lib.hid bx16
  clear hres hlz t16 T16 bx16 hB0 hS0 hB15 hS15 hS16
  go_wp2_with fail
  refine bodyPost_ret (v := .tuple #[wkV Q asx, .bool true]) (sres _ _ (g + 2) _ _ true rfl rfl HBR.out) rfl ⟨Q, asx, rfl, HWI.out, HGQ.out, HRES.out⟩
 ·have jE : (E == 0) = false := by simp [hE]
  have jE2 : (E != 0) = true := by simp [hE]
  have hQx : Qx = zeroW := by rw [HQL.out.1, orW_no hE]
  have hlx : lx = [] := by rw [HQL.out.2, orO_no hE]
  rw [hlx] at HEXx
  rw [hQx] at hnx9 bx9
  clear hQx hlx
  have HNX8 := Lib.hid hnx9
  have HOX8 := Lib.hid hox9
  have HEX0 : Hid (msx.map Prod.fst = []) := HEXx.out
  have HBX8 : Hid (Box w8 (s0 + 1) (wkC zeroW ax)) := bx9
  have hb8 : Below w3.heap.size w3 w8 := HB6.out.trans (ht69.below (fun j hj => by omega) (by omega))
  have HB8 := Lib.hid hb8
  have h68 : w62.heap.size ≤ w8.heap.size := by omega
  clear hnx9 hox9 bx9 ht69 ht9 hb8
  go_upto_region 53 with fail
  obtain ⟨w9, hw9⟩ : ∃ z, z = w8.alloc (.cells #[.int .i64 0, .int .i64 0, .int .i64 0, .slice none 0 0, .int .i64 0, .int .i64 0, .slice none 0 0, .slice none 0 0, .slice none 0 0, .slice none 0 0] 75) := ⟨_, rfl⟩
  obtain ⟨s, hs⟩ : ∃ z, z = w8.heap.size := ⟨_, rfl⟩
  have hst9 : ∃ (B : Nat) (asx : WkA) (os : Ad) (mss : List (OtD × Ad)), StAt s B w9 zeroW asx [] os mss := ⟨w8.heap.size, zeroWA, noAd, [], by rw [hw9, hs]; exact st_newZ (wNew_zero _ w8) (Nat.le_refl _)⟩
  rw [← hw9, ← hs]
  have hb89 : Below w8.heap.size w8 w9 := by rw [hw9]; exact (Below.refl _ _).alloc (Nat.le_refl _) _
  obtain ⟨B, asx, os, mss, hst9⟩ := hst9
  obtain ⟨C, hC⟩ : ∃ C, C = w62.heap.size := ⟨_, rfl⟩
  obtain ⟨Q, hQ⟩ : ∃ Q, Q = zeroW := ⟨_, rfl⟩
  obtain ⟨l, hl⟩ : ∃ l : List OtD, l = [] := ⟨_, rfl⟩
  have hz9 := hb89.size
  have hC9 : C ≤ w9.heap.size := by omega
  have HS9 : Hid (StAt s B w9 Q asx l os mss) := by show StAt _ _ _ _ _ _ _ _; rw [hQ, hl]; exact hst9
  have HNX : Hid (WNew C w9 Q ax) := by show WNew _ _ _ _; rw [hC, hQ]; exact HNX8.out.below hb89
  have HOX : Hid (RowOwn KM C w9 ox msx) := by show RowOwn _ _ _ _ _; rw [hC]; exact HOX8.out.below hb89
  have HEX : Hid (msx.map Prod.fst = l) := by show _ = _; rw [hl]; exact HEX0.out
  have HBXQ : Hid (Box w9 (s0 + 1) (wkC Q ax)) := by show Box _ _ _; rw [hQ]; exact HBX8.out.below hb89 HBX8.out.1
  have HB9 : Hid (Below w3.heap.size w3 w9) := HB8.out.trans (hb89.mono HB8.out.size)
  have HGQ : Hid (Grown (k + 1) Q) := by show Grown _ _; rw [hQ]; exact grown_zero _
  have HSH : Hid (ShortO l) := by show ShortO _; rw [hl]; exact short_none
  have hCs : s0 + 1 < C := by omega
  clear hw9 hs hst9 hb89 hC hQ hl HNX8 HOX8 HEX0 HBX8
  have HBX : Hid (∀ wX, Below w9.heap.size w9 wX → Box wX (s0 + 1) (wkC Q ax) ∧ Box wX s (wkC Q asx) ∧ Box wX q6 (wkC P a6) ∧ Box wX g (wkC P a) ∧ wX.cell? ⟨s, 9, none⟩ = some (.slice os.A os.n os.c)) := by
   show ∀ wX, _
   intro wX hX
   have hl := HL.out wX (HB9.out.trans (hX.mono HB9.out.size))
   have hst := HS9.out.below hX
   exact ⟨HBXQ.out.below hX HBXQ.out.1, hst.wk, hl.b6, hl.b0, (hst.box.2 9 _ rfl).1⟩
  have HIQ : Hid (∀ wX, Below w9.heap.size w9 wX → WIn wX Q ax ∧ WIn wX Q asx ∧ WIn wX P a6 ∧ WIn wX P a ∧ RowIn KM wX ox msx ∧ RowIn KM wX os mss) := by
   show ∀ wX, _
   intro wX hX
   have hl := HL.out wX (HB9.out.trans (hX.mono HB9.out.size))
   have hst := HS9.out.below hX
   exact ⟨(HNX.out.below hX).in_, hst.pg.in_, hl.in6, hl.inn, (HOX.out.below hX).in_, hst.out.in_⟩
  have hls : msx.length ≤ 1000000 ∧ mss.length ≤ 1000000 := ⟨by rw [← List.length_map (f := Prod.fst), HEX.out]; exact HSH.out.1, by rw [HS9.out.lenOZ]; exact HSH.out.1⟩
  have HLS := Lib.hid hls
  have HLY : Hid (∀ y ∈ msx, KM.len y.1 ≤ 1000000) := by
   show ∀ y ∈ msx, _
   exact fun y hy => Nat.le_trans (HSH.out.2 y.1 (by rw [← HEX.out]; exact List.mem_map_of_mem hy)) (by decide)
  have HLT : Hid (∀ y ∈ mss, KM.len y.1 ≤ 1000000) := by
   show ∀ y ∈ mss, _
   exact fun y hy => Nat.le_trans (HSH.out.2 y.1 (by rw [← HS9.out.eO]; exact List.mem_map_of_mem hy)) (by decide)
  clear hls
  have hS0 : Below w9.heap.size w9 w9.drew := (Below.refl _ _).drew
  refine wp_region_held_drew (S := fun w' => Below w9.heap.size w9 w') (by kernel_rfl) hS0 (fun _ => ?_)
  refine ytake_0 (v := ?vv889) (by kernel_rfl) (by kernel_rfl) (by kernel_rfl) (fun _ _ _ h => h) (Or.inl ⟨by rfl, ?hy889⟩) hS0 ?_
  case hy889 =>
   intro wX hSw
   go_simp
   try with_reducible rfl
  try simp only [Act.put, List.setIfInBounds_toArray, List.set_cons_zero, List.set_cons_succ]
  refine ytake_2 (v := ?vv890) (by kernel_rfl) (by kernel_rfl) (by kernel_rfl) (fun _ _ _ h => h) (Or.inl ⟨by rfl, ?hy890⟩) hS0 ?_
  case hy890 =>
   intro wX hSw
   go_simp
   try with_reducible rfl
  try simp only [Act.put, List.setIfInBounds_toArray, List.set_cons_zero, List.set_cons_succ]
  refine yready_1 (by kernel_rfl) ?_
  intro KQ hK
  rw [if_pos (by rfl)]
  try go_simp
  refine (num13_any _ _).mono ?_
  rintro e w' ⟨rfl, rfl⟩
  refine hK.out _ _ hS0 (fun _ => ?_)
  clear hK KQ
  try simp only [Act.put, List.setIfInBounds_toArray, List.set_cons_zero, List.set_cons_succ]
  refine ytake_3 (v := ?vv891) (by kernel_rfl) (by kernel_rfl) (by kernel_rfl) (fun _ _ _ h => h) (Or.inl ⟨by rfl, ?hy891⟩) hS0 ?_
  case hy891 =>
   intro wX hSw
   go_simp
   try with_reducible rfl
  try simp only [Act.put, List.setIfInBounds_toArray, List.set_cons_zero, List.set_cons_succ]
  refine ytake_4 (v := ?vv892) (by kernel_rfl) (by kernel_rfl) (by kernel_rfl) (fun _ _ _ h => h) (Or.inl ⟨by rfl, ?hy892⟩) hS0 ?_
  case hy892 =>
   intro wX hSw
   go_simp
   try with_reducible rfl
  try simp only [Act.put, List.setIfInBounds_toArray, List.set_cons_zero, List.set_cons_succ]
  refine ytake_5 (by kernel_rfl) (by kernel_rfl) (by kernel_rfl) (fun _ _ _ h => h) (yieldsIf_load_mid (by rfl) 27 _ rfl (s0 + 1) 0 rfl (wkC Q ax) _ (fun w' h => box_rangeZ ((HBX.out w' h).1)) Tryz.underlying27 rfl size_wk) hS0 ?_
  try simp only [Act.put, List.setIfInBounds_toArray, List.set_cons_zero, List.set_cons_succ]
  refine ytake_6 (v := ?vv893) (by kernel_rfl) (by kernel_rfl) (by kernel_rfl) (fun _ _ _ h => h) (Or.inl ⟨by rfl, ?hy893⟩) hS0 ?_
  case hy893 =>
   intro wX hSw
   go_simp
   try with_reducible rfl
  try simp only [Act.put, List.setIfInBounds_toArray, List.set_cons_zero, List.set_cons_succ]
  refine ytake_7 (v := ?vv894) (by kernel_rfl) (by kernel_rfl) (by kernel_rfl) (fun _ _ _ h => h) (Or.inl ⟨by rfl, ?hy894⟩) hS0 ?_
  case hy894 =>
   intro wX hSw
   go_simp
   try with_reducible rfl
  try simp only [Act.put, List.setIfInBounds_toArray, List.set_cons_zero, List.set_cons_succ]
  refine ytake_8 (v := ?vv895) (by kernel_rfl) (by kernel_rfl) (by kernel_rfl) (fun _ _ _ h => h) (Or.inl ⟨by rfl, ?hy895⟩) hS0 ?_
  case hy895 =>
   intro wX hSw
   go_simp
   try with_reducible rfl
  try simp only [Act.put, List.setIfInBounds_toArray, List.set_cons_zero, List.set_cons_succ]
  refine ytake_9 (by kernel_rfl) (by kernel_rfl) (by kernel_rfl) (fun _ _ _ h => h) (yieldsIf_load_mid (by rfl) 27 _ rfl s 0 rfl (wkC Q asx) _ (fun w' h => box_rangeZ ((HBX.out w' h).2.1)) Tryz.underlying27 rfl size_wk) hS0 ?_
  try simp only [Act.put, List.setIfInBounds_toArray, List.set_cons_zero, List.set_cons_succ]
  refine yready_10 (by kernel_rfl) ?_
  intro KQ hK
  rw [if_pos (by rfl)]
  try go_simp
  refine (reqWk_is true Q Q ax asx _ (by simp) ((HIQ.out _ hS0).1) ((HIQ.out _ hS0).2.1) (HGQ.out.few1 (by omega)) (HGQ.out.few1 (by omega))).mono ?_
  rintro e w10 ⟨rfl, hc10⟩
  have hS10 : Below w9.heap.size w9 w10 := hS0.trans (hc10.mono hS0.size)
  refine hK.out _ _ hS10 (fun _ => ?_)
  clear hK KQ
  try simp only [Act.put, List.setIfInBounds_toArray, List.set_cons_zero, List.set_cons_succ]
  refine ytake_11 (v := ?vv896) (by kernel_rfl) (by kernel_rfl) (by kernel_rfl) (fun _ _ _ h => h) (Or.inl ⟨by rfl, ?hy896⟩) hS10 ?_
  case hy896 =>
   intro wX hSw
   go_simp
   try with_reducible rfl
  try simp only [Act.put, List.setIfInBounds_toArray, List.set_cons_zero, List.set_cons_succ]
  refine ytake_12 (v := ?vv897) (by kernel_rfl) (by kernel_rfl) (by kernel_rfl) (fun _ _ _ h => h) (Or.inl ⟨by rfl, ?hy897⟩) hS10 ?_
  case hy897 =>
   intro wX hSw
   go_simp
   try with_reducible rfl
  try simp only [Act.put, List.setIfInBounds_toArray, List.set_cons_zero, List.set_cons_succ]
  refine ytake_13 (v := ?vv898) (by kernel_rfl) (by kernel_rfl) (by kernel_rfl) (fun _ _ _ h => h) (Or.inl ⟨by rfl, ?hy898⟩) hS10 ?_
  case hy898 =>
   intro wX hSw
   go_simp
   try with_reducible rfl
  try simp only [Act.put, List.setIfInBounds_toArray, List.set_cons_zero, List.set_cons_succ]
  refine ytake_14 (v := ?vv899) (by kernel_rfl) (by kernel_rfl) (by kernel_rfl) (fun _ _ _ h => h) (Or.inl ⟨by rfl, ?hy899⟩) hS10 ?_
  case hy899 =>
   intro wX hSw
   go_simp
   try with_reducible rfl
  try simp only [Act.put, List.setIfInBounds_toArray, List.set_cons_zero, List.set_cons_succ]
  refine ytake_15 (v := ?vv900) (by kernel_rfl) (by kernel_rfl) (by kernel_rfl) (fun _ _ _ h => h) (Or.inl ⟨by rfl, ?hy900⟩) hS10 ?_
  case hy900 =>
   intro wX hSw
   go_simp
   try with_reducible rfl
  try simp only [Act.put, List.setIfInBounds_toArray, List.set_cons_zero, List.set_cons_succ]
  refine ytake_16 (v := ?vv901) (by kernel_rfl) (by kernel_rfl) (by kernel_rfl) (fun _ _ _ h => h) (Or.inl ⟨by rfl, ?hy901⟩) hS10 ?_
  case hy901 =>
   intro wX hSw
   go_simp
   try with_reducible rfl
  try simp only [Act.put, List.setIfInBounds_toArray, List.set_cons_zero, List.set_cons_succ]
  refine ytake_17 (v := ?vv902) (by kernel_rfl) (by kernel_rfl) (by kernel_rfl) (fun _ _ _ h => h) (Or.inl ⟨by rfl, ?hy902⟩) hS10 ?_
  case hy902 =>
   intro wX hSw
   have k9 := (HBX.out _ hSw).2.2.2.2
   go_simp
   try with_reducible rfl
  try simp only [Act.put, List.setIfInBounds_toArray, List.set_cons_zero, List.set_cons_succ]
  refine yready_18 (by kernel_rfl) ?_
  intro KQ hK
  rw [if_pos (by rfl)]
  try go_simp
  refine (reqMessages_is true ox os msx mss w10 (by rw [HEX.out, HS9.out.eO]; simp) (HIQ.out _ hS10).2.2.2.2.1 (HIQ.out _ hS10).2.2.2.2.2 HLS.out.1 HLS.out.2 HLY.out HLT.out).mono ?_
  rintro e w11 ⟨rfl, hc18⟩
  have hS11 : Below w9.heap.size w9 w11 := hS10.trans (hc18.mono hS10.size)
  refine hK.out _ _ hS11 (fun _ => ?_)
  clear hK KQ
  try simp only [Act.put, List.setIfInBounds_toArray, List.set_cons_zero, List.set_cons_succ]
  refine ytake_19 (v := ?vv903) (by kernel_rfl) (by kernel_rfl) (by kernel_rfl) (fun _ _ _ h => h) (Or.inl ⟨by rfl, ?hy903⟩) hS11 ?_
  case hy903 =>
   intro wX hSw
   go_simp
   try with_reducible rfl
  try simp only [Act.put, List.setIfInBounds_toArray, List.set_cons_zero, List.set_cons_succ]
  refine ytake_20 (v := ?vv904) (by kernel_rfl) (by kernel_rfl) (by kernel_rfl) (fun _ _ _ h => h) (Or.inl ⟨by rfl, ?hy904⟩) hS11 ?_
  case hy904 =>
   intro wX hSw
   go_simp
   try with_reducible rfl
  try simp only [Act.put, List.setIfInBounds_toArray, List.set_cons_zero, List.set_cons_succ]
  refine ytake_21 (by kernel_rfl) (by kernel_rfl) (by kernel_rfl) (fun _ _ _ h => h) (yieldsIf_load_mid (by rfl) 27 _ rfl q6 0 rfl (wkC P a6) _ (fun w' h => box_rangeZ ((HBX.out w' h).2.2.1)) Tryz.underlying27 rfl size_wk) hS11 ?_
  try simp only [Act.put, List.setIfInBounds_toArray, List.set_cons_zero, List.set_cons_succ]
  refine ytake_22 (by kernel_rfl) (by kernel_rfl) (by kernel_rfl) (fun _ _ _ h => h) (yieldsIf_load_mid (by rfl) 27 _ rfl g 0 rfl (wkC P a) _ (fun w' h => box_rangeZ ((HBX.out w' h).2.2.2.1)) Tryz.underlying27 rfl size_wk) hS11 ?_
  try simp only [Act.put, List.setIfInBounds_toArray, List.set_cons_zero, List.set_cons_succ]
  refine yready_23 (by kernel_rfl) ?_
  intro KQ hK
  rw [if_pos (by rfl)]
  try go_simp
  refine (reqWk_is true P P a6 a _ (by simp) ((HIQ.out _ hS11).2.2.1) ((HIQ.out _ hS11).2.2.2.1) (HGR.out.few1 (by omega)) (HGR.out.few1 (by omega))).mono ?_
  rintro e w12 ⟨rfl, hc23⟩
  have hS12 : Below w9.heap.size w9 w12 := hS11.trans (hc23.mono hS11.size)
  refine hK.out _ _ hS12 (fun _ => ?_)
  clear hK KQ
  try simp only [Act.put, List.setIfInBounds_toArray, List.set_cons_zero, List.set_cons_succ]
  refine ytake_24 (v := ?vv905) (by kernel_rfl) (by kernel_rfl) (by kernel_rfl) (fun _ _ _ h => h) (Or.inl ⟨by rfl, ?hy905⟩) hS12 ?_
  case hy905 =>
   intro wX hSw
   go_simp
   try with_reducible rfl
  try simp only [Act.put, List.setIfInBounds_toArray, List.set_cons_zero, List.set_cons_succ]
  refine ytake_25 (v := ?vv906) (by kernel_rfl) (by kernel_rfl) (by kernel_rfl) (fun _ _ _ h => h) (Or.inl ⟨by rfl, ?hy906⟩) hS12 ?_
  case hy906 =>
   intro wX hSw
   go_simp
   try with_reducible rfl
  try simp only [Act.put, List.setIfInBounds_toArray, List.set_cons_zero, List.set_cons_succ]
  refine wpAnyH_done (by kernel_rfl) ?_ _
  have hb12 : Below w3.heap.size w3 w12 := HB9.out.trans (hS12.mono HB9.out.size)
  have HB12' := Lib.hid hb12
  have HB912 := Lib.hid hS12
  have hz12 := hS12.size
  have HNX12 : Hid (WNew C w12 Q ax) := HNX.out.below hS12
  have HOX12 : Hid (RowOwn KM C w12 ox msx) := HOX.out.below hS12
  have HSPW := Lib.hid (spoilWk_far C Q ax w12 HNX12.out (HGQ.out.few4 (by omega)))
  have HXB12 := Lib.hid (HBX.out w12 hS12).1
  clear hS0 hS10 hS11 hS12 hb12
  go_upto_region 55 with (first
   | (refine wpList_load_box rfl 27 _ rfl (s0 + 1) rfl (wkC Q ax) (HXB12.out) _ Tryz.underlying27 rfl size_wk ?_)
   | (go_at_call 68; refine HSPW.out.mono ?_; rintro e w13 ⟨rfl, ht13⟩))
  have ht13' : Touch (fun j => ax.owns j ∨ ax.O.v.ownBlock = some j) w12 w13 := ht13
  have hz13 := ht13'.size
  have HB1213 : Hid (Below C w12 w13) := ht13'.below (fun j hj => by
   rcases hj with hj | hj
   ·exact (HNX12.out.core.lt hj).2
   ·exact (own_lt HNX12.out.open_ hj).2) (by omega)
  have hrow13 : RowOwn KM C w13 ox msx := spoilt_row HNX12.out HOX12.out HAPX.out ht13'
  have HSPM := Lib.hid (spoilMsgs_any C ox _ w13 (hrow13.rowM (fun y hy => HLY.out y hy)) (by rw [List.length_map]; exact HLS.out.1) (by omega))
  clear ht13 ht13' hrow13
  unfold Ad.v at HSPM
  go_upto_region 56 with (go_at_call 58; refine HSPM.out.mono ?_; rintro e w14 ⟨rfl, hb14⟩)
  have hz14 := hb14.size
  have hb1214 : Below C w12 w14 := HB1213.out.trans hb14
  have hb9 : Below C w9 w14 := (HB912.out.mono (by omega)).trans hb1214
  have hb314 : Below w3.heap.size w3 w14 := HB9.out.trans (hb9.mono (by omega))
  have HB914 := Lib.hid hb9
  have HB14 := Lib.hid hb314
  clear hb14 hb1214 hb9 hb314 HSPM HSPW
  have HLX : Hid (∀ wX, Below w14.heap.size w14 wX → LateZ w wX P a a6 x g q6) := by
   show ∀ wX, _
   exact fun wX hX => HL.out wX (HB14.out.trans (hX.mono HB14.out.size))
  have hlx := HLX.out w14 (Below.refl _ _)
  have HBT : Hid (∀ wX, Touch (fun j => j = g + 2) w14 wX → Box wX g (wkC P a) ∧ Box wX q6 (wkC P a6)) := by
   show ∀ wX, _
   exact fun wX hX => ⟨hlx.b0.touch hX (by omega), hlx.b6.touch hX (by omega)⟩
  clear hlx
  go_upto_region 57 with fail
  have hB0 : Below w14.heap.size w14 w14.drew := (Below.refl _ _).drew
  have hS0 : Touch (fun j => j = g + 2) w14 w14.drew := Touch.of hB0
  refine wp_region_held_drew (S := fun w' => Touch (fun j => j = g + 2) w14 w') (by kernel_rfl) hS0 (fun _ => ?_)
  refine ytake_0 (by kernel_rfl) (by kernel_rfl) (by kernel_rfl) (fun _ _ _ h => h) (yieldsIf_load_mid (by rfl) 27 _ rfl g 0 rfl (wkC P a) _ (fun w' h => box_rangeZ ((HBT.out w' h).1)) Tryz.underlying27 rfl size_wk) hS0 ?_
  try simp only [Act.put, List.setIfInBounds_toArray, List.set_cons_zero, List.set_cons_succ]
  refine ytake_1 (v := ?vv907) (by kernel_rfl) (by kernel_rfl) (by kernel_rfl) (fun _ _ _ h => h) (Or.inl ⟨by rfl, ?hy907⟩) hS0 ?_
  case hy907 =>
   intro wX hSw
   go_simp
   try with_reducible rfl
  try simp only [Act.put, List.setIfInBounds_toArray, List.set_cons_zero, List.set_cons_succ]
  refine ytake_2 (v := ?vv908) (by kernel_rfl) (by kernel_rfl) (by kernel_rfl) (fun _ _ _ h => h) (Or.inl ⟨by rfl, ?hy908⟩) hS0 ?_
  case hy908 =>
   intro wX hSw
   go_simp
   try with_reducible rfl
  try simp only [Act.put, List.setIfInBounds_toArray, List.set_cons_zero, List.set_cons_succ]
  refine ytake_3 (by kernel_rfl) (by kernel_rfl) (by kernel_rfl) (fun _ _ _ h => h) (yieldsIf_load_mid (by rfl) 27 _ rfl q6 0 rfl (wkC P a6) _ (fun w' h => box_rangeZ ((HBT.out w' h).2)) Tryz.underlying27 rfl size_wk) hS0 ?_
  try simp only [Act.put, List.setIfInBounds_toArray, List.set_cons_zero, List.set_cons_succ]
  refine ytake_4 (by kernel_rfl) (by kernel_rfl) (by kernel_rfl) (fun _ _ _ h => h) (yieldsIf_load_mid (by rfl) 27 _ rfl g 0 rfl (wkC P a) _ (fun w' h => box_rangeZ ((HBT.out w' h).1)) Tryz.underlying27 rfl size_wk) hS0 ?_
  try simp only [Act.put, List.setIfInBounds_toArray, List.set_cons_zero, List.set_cons_succ]
  refine yready_5 (by kernel_rfl) ?_
  intro KQ hK
  rw [if_pos (by rfl)]
  try go_simp
  refine (reqWk_is true P P a6 a _ (by simp) (HLX.out _ hB0).in6 (HLX.out _ hB0).inn (HGR.out.few1 (by omega)) (HGR.out.few1 (by omega))).mono ?_
  rintro e w15 ⟨rfl, hc15⟩
  have hB15 : Below w14.heap.size w14 w15 := hB0.trans (hc15.mono hB0.size)
  have hS15 : Touch (fun j => j = g + 2) w14 w15 := Touch.of hB15
  refine hK.out _ _ hS15 (fun _ => ?_)
  clear hK KQ
  try simp only [Act.put, List.setIfInBounds_toArray, List.set_cons_zero, List.set_cons_succ]
  refine ytake_6 (v := ?vv909) (by kernel_rfl) (by kernel_rfl) (by kernel_rfl) (fun _ _ _ h => h) (Or.inl ⟨by rfl, ?hy909⟩) hS15 ?_
  case hy909 =>
   intro wX hSw
   go_simp
   try with_reducible rfl
  try simp only [Act.put, List.setIfInBounds_toArray, List.set_cons_zero, List.set_cons_succ]
  have hlz := HLX.out w15 hB15
  refine yready_7 (by kernel_rfl) ?_
  intro KQ hK
  rw [if_pos (by rfl)]
  refine wp_store_boxY 27 _ _ rfl (g + 2) 0 (wkC P a) zeroC (wkC P a) rfl rfl hlz.b2 (show 0 + 9 ≤ 9 by decide) rfl size_wk rfl ?_
  intro w16 bx16 T16
  have t16 := T16 (fun j => j = g + 2) rfl
  have hS16 : Touch (fun j => j = g + 2) w14 w16 := hS15.on t16
  refine hK.out _ _ hS16 (fun _ => ?_)
  clear hK KQ
  simp only [Act.put]
  refine ytake_8 (v := ?vv910) (by kernel_rfl) (by kernel_rfl) (by kernel_rfl) (fun _ _ _ h => h) (Or.inl ⟨by rfl, ?hy910⟩) hS16 ?_
  case hy910 =>
   intro wX hSw
   go_simp
   try with_reducible rfl
  try simp only [Act.put, List.setIfInBounds_toArray, List.set_cons_zero, List.set_cons_succ]
  refine wpAnyH_done (by kernel_rfl) ?_ _
  have hres : Below w.heap.size w w16 := hlz.bel.trans (t16.below (fun j hj => by have := HG.out; omega) hlz.bel.size)
  have HRES := Lib.hid hres
  have HWI : Hid (WIn w16 P a) := by
   show WIn _ _ _
   exact HINW.out.below hres
  have HBR := Lib.hid bx16
  clear hres hlz t16 T16 bx16 hB0 hS0 hB15 hS15 hS16
  go_wp2_with fail
  refine bodyPost_ret (v := .tuple #[wkV P a, .bool true]) (sres _ _ (g + 2) _ _ true rfl rfl HBR.out) rfl ⟨P, a, rfl, HWI.out, HGR.out.more (Nat.le_succ k), HRES.out⟩

end Go.Proofs.YteepobghdpnabaaGreat
