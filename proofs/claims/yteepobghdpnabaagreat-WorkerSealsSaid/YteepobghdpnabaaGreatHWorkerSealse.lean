/-
 The page's Sealed.
-/
import Derived.WalkKit
import Derived.Below
import Derived.Deep.Draws
import Derived.Deep.AppendLies
import Derived.Lib.AppendStr
import Derived.Lib.ConvBytes
import Derived.Lib.Hide
import Derived.Test.YteepobghdpnabaaGreatRows
import Derived.WalkSpells
import Derived.WalkLawsBesides
import Derived.Deep.QuietTactic
import Derived.BigQuiet
import Derived.LoopTactic
import Derived.Outline
import Derived.Laws.StructEq
import Derived.Deep.RegionHeld3
import Derived.OneCell
import Derived.IntWalk
import Derived.ProofKit
import Derived.OpenShut
import Derived.SliceStrings
import Derived.ChangeSlices
import Derived.Deep.Slices
import Derived.Deep.Fields
import Derived.ChangeOld
import Derived.Carry
import Derived.SizedLaws
import Derived.ScopeJumps
import Derived.Deep.MidRow
import Derived.Deep.DeepCutAuto
import Derived.Deep.CutRange
import Derived.Deep.RegionLaw
import Derived.BigRegion
import Derived.Laws.Rows
import Derived.Laws.CopyRow
import Derived.Lib.AppendZerosOnto
import Derived.Lib.Overlaps
import Derived.StillTailTactics
import Derived.Laws.Externs
import Derived.Deep.CutBlock
import Derived.Maps.OwnSet
import Derived.Great.BuildSlice
import Derived.Maps.AppendAt
import Derived.Lib.MinMax
import Derived.Test.YteepobghdpnabaaGreatKWorkerTicksa
import Derived.Test.YteepobghdpnabaaGreatKWorkerTicksb
import Derived.Test.YteepobghdpnabaaGreatKWorkerTicksc
import Derived.Test.YteepobghdpnabaaGreatKWorkerTicksd
import Derived.Test.YteepobghdpnabaaGreatKWorkerTickse
import Derived.Test.YteepobghdpnabaaGreatKWorkerTicksf
import Derived.Test.YteepobghdpnabaaGreatKWorkerTicksg
import Derived.Test.YteepobghdpnabaaGreatKWorkerTicksh
import Derived.Test.YteepobghdpnabaaGreatKWorkerTicksi
import Derived.Test.YteepobghdpnabaaGreatKWorkerTicksj
import Derived.Test.YteepobghdpnabaaGreatKWorkerTicksk
import Derived.Test.YteepobghdpnabaaGreatKWorkerTicksl
import Derived.Test.YteepobghdpnabaaGreatKWorkerTicksm
import Derived.Test.YteepobghdpnabaaGreatKWorkerTicksn
import Derived.Test.YteepobghdpnabaaGreatKWorkerTickso
import Derived.Test.YteepobghdpnabaaGreatKWorkerTicksp
import Derived.Test.YteepobghdpnabaaGreatKWorkerTicksq
import Derived.Test.YteepobghdpnabaaGreatKWorkerTicksr
import Derived.Test.YteepobghdpnabaaGreatKWorkerTickss
import Derived.Test.YteepobghdpnabaaGreatKWorkerTickst
import Derived.Test.YteepobghdpnabaaGreatKWorkerTicksu
import Derived.Test.YteepobghdpnabaaGreatKWorkerTicksv
import Derived.Test.YteepobghdpnabaaGreatKWorkerTicksw
import Derived.Test.YteepobghdpnabaaGreatKWorkerTicksx
import Derived.Test.YteepobghdpnabaaGreatKWorkerTicksy
import Derived.Test.YteepobghdpnabaaGreatKWorkerTicksz
import Derived.Test.YteepobghdpnabaaGreatKWorkerTicksaa
import Derived.Test.YteepobghdpnabaaGreatKWorkerTicksab
import Derived.Test.YteepobghdpnabaaGreatKWorkerTicksac
import Derived.Test.YteepobghdpnabaaGreatKWorkerTicksad
import Derived.Test.YteepobghdpnabaaGreatKWorkerTicksae
import Derived.Test.YteepobghdpnabaaGreatKWorkerTicksaf
import Derived.Test.YteepobghdpnabaaGreatKWorkerTicksag
import Derived.Test.YteepobghdpnabaaGreatKWorkerTicksah
import Derived.Test.YteepobghdpnabaaGreatKWorkerTicksai
import Derived.Test.YteepobghdpnabaaGreatKWorkerTicksaj
import Derived.Test.YteepobghdpnabaaGreatKWorkerTicksak
import Derived.Test.YteepobghdpnabaaGreatKWorkerTicksal
import Derived.Test.YteepobghdpnabaaGreatKWorkerTicksam
import Derived.Test.YteepobghdpnabaaGreatKWorkerTicksan
import Derived.Test.YteepobghdpnabaaGreatKWorkerTicksao
import Derived.Test.YteepobghdpnabaaGreatKWorkerTicksap
import Derived.Test.YteepobghdpnabaaGreatKWorkerTicksaq
import Derived.Test.YteepobghdpnabaaGreatKWorkerTicksar
import Derived.Test.YteepobghdpnabaaGreatHWorkerSealsd
import Derived.Test.YteepobghdpnabaaGreatHWorkerSealsc
import Derived.Test.YteepobghdpnabaaGreatHWorkerSealsb
import Derived.Test.YteepobghdpnabaaGreatHWorkerSealsa
namespace Go.Proofs.YteepobghdpnabaaGreat

theorem rseal_any (P : WkD) (a : WkA) (d : Int) (w : World) (h : WIn w P a) (hf : WFew P 300000) (hm : mayW P = true) : Calls Tryz.prog 51 #[wkV P a, .int .i64 d] w (StTo2 (sealW P d) (sealO P d) (sealE P d) w) := by
 by_cases he : sealE P d = 0
 ·exact rseal_yes P a d w h hf hm he
 ·exact rseal_no P a d w h hf hm he

end Go.Proofs.YteepobghdpnabaaGreat
namespace Go.Proofs.YteepobghdpnabaaGreat
open Go.RowKit

set_option maxRecDepth 100000 in
set_option maxHeartbeats 16000000 in
theorem step_3 (k : Nat) (P : WkD) (a : WkA) (x : ActD) (w : World) (h : WIn w P a) (hgr : Grown k P) (hk : k ≤ 12) (hx : ActIn w x) (hfew : MsgFew 2000 x.b ∧ x.L.length ≤ 12000) (hr : wrap64 ((IntKind.u64.wrap x.Do).tmod ((11 : Nat) : Int)) = ((3 : Nat) : Int)) : Calls Tryz.prog 19 #[wkV P a, actV x] w (StepTo k w) := by
 obtain ⟨g, hg⟩ : ∃ g, g = w.heap.size := ⟨_, rfl⟩
 obtain ⟨wa0, hwa0⟩ : ∃ wa0, wa0 = w.alloc (.cells #[.int .i64 P.i, .int .i64 P.N, .int .i64 P.x, .slice a.O.A a.O.n a.O.c, .int .i64 P.g, .int .i64 P.c, .slice a.W.A a.W.n a.W.c, .slice a.H.A a.H.n a.H.c, .slice a.R.A a.R.n a.R.c] 27) := ⟨_, rfl⟩
 have hs0 : wa0.heap.size = g + 1 := by rw [hwa0]; simp; omega
 have bn0 : Box wa0 (g) (wkC P a) := by rw [hwa0, hg]; exact box_new w (wkC P a) 27
 have hb0 : Below g w wa0 := by rw [hwa0]; exact (Below.refl _ _).alloc (by omega) _
 obtain ⟨wa1, hwa1⟩ : ∃ wa1, wa1 = wa0.alloc (.cells #[.int .i64 x.Do, .int .i64 x.D, .int .i64 x.t.s, .int .i64 x.t.q, .string x.t.k, .string x.t.v, .int .i64 x.m.k, .int .i64 x.m.f, .int .i64 x.m.t, .int .i64 x.m.d, .int .i64 x.m.ba, .int .i64 x.m.bn, .slice x.b.AL x.b.nL x.b.cL, .int .i64 x.m.ha, .int .i64 x.m.hr, .slice x.b.AhB x.b.nhB x.b.chB, .slice x.b.AhP x.b.nhP x.b.chP, .int .i64 x.m.ca, .int .i64 x.m.cr, .slice x.b.AcB x.b.ncB x.b.ccB, .slice x.b.AcP x.b.ncP x.b.ccP, .int .i64 x.m.cd, .slice x.b.AcS x.b.ncS x.b.ccS, .slice x.b.AD x.b.nD x.b.cD, .bool x.fit, .slice x.A x.n x.c] 50) := ⟨_, rfl⟩
 have hs1 : wa1.heap.size = g + 2 := by rw [hwa1]; simp; omega
 have bn1 : Box wa1 (g + 1) (actC x) := by rw [hwa1, ← hs0]; exact box_new wa0 (actC x) 50
 have hb1 : Below g w wa1 := by rw [hwa1]; exact hb0.alloc (by omega) _
 obtain ⟨wa2, hwa2⟩ : ∃ wa2, wa2 = wa1.alloc (.cells #[.int .i64 0, .int .i64 0, .int .i64 0, .slice none 0 0, .int .i64 0, .int .i64 0, .slice none 0 0, .slice none 0 0, .slice none 0 0] 27) := ⟨_, rfl⟩
 have hs2 : wa2.heap.size = g + 3 := by rw [hwa2]; simp; omega
 have bn2 : Box wa2 (g + 2) (zeroC) := by rw [hwa2, ← hs1]; exact box_new wa1 (zeroC) 27
 have hb2 : Below g w wa2 := by rw [hwa2]; exact hb1.alloc (by omega) _
 have HX0 : Hid (Box wa2 (g) (wkC P a)) := ((bn0.below (show Below wa0.heap.size wa0 wa1 by rw [hwa1]; exact (Below.refl _ _).alloc (Nat.le_refl _) _) (by omega)).below (show Below wa1.heap.size wa1 wa2 by rw [hwa2]; exact (Below.refl _ _).alloc (Nat.le_refl _) _) (by omega))
 have HX1 : Hid (Box wa2 (g + 1) (actC x)) := (bn1.below (show Below wa1.heap.size wa1 wa2 by rw [hwa2]; exact (Below.refl _ _).alloc (Nat.le_refl _) _) (by omega))
 have HX2 : Hid (Box wa2 (g + 2) (zeroC)) := bn2
 obtain ⟨w0, hw0⟩ : ∃ w0, w0 = wa2 := ⟨_, rfl⟩
 rw [← hw0] at HX0
 rw [← hw0] at HX1
 rw [← hw0] at HX2
 have hsz0 : w0.heap.size = g + 3 := by rw [hw0]; exact hs2
 have hb0w : Below g w w0 := by rw [hw0]; exact hb2
 have HW0 : Hid (((w.alloc (.cells #[.int .i64 P.i, .int .i64 P.N, .int .i64 P.x, .slice a.O.A a.O.n a.O.c, .int .i64 P.g, .int .i64 P.c, .slice a.W.A a.W.n a.W.c, .slice a.H.A a.H.n a.H.c, .slice a.R.A a.R.n a.R.c] 27)).alloc (.cells #[.int .i64 x.Do, .int .i64 x.D, .int .i64 x.t.s, .int .i64 x.t.q, .string x.t.k, .string x.t.v, .int .i64 x.m.k, .int .i64 x.m.f, .int .i64 x.m.t, .int .i64 x.m.d, .int .i64 x.m.ba, .int .i64 x.m.bn, .slice x.b.AL x.b.nL x.b.cL, .int .i64 x.m.ha, .int .i64 x.m.hr, .slice x.b.AhB x.b.nhB x.b.chB, .slice x.b.AhP x.b.nhP x.b.chP, .int .i64 x.m.ca, .int .i64 x.m.cr, .slice x.b.AcB x.b.ncB x.b.ccB, .slice x.b.AcP x.b.ncP x.b.ccP, .int .i64 x.m.cd, .slice x.b.AcS x.b.ncS x.b.ccS, .slice x.b.AD x.b.nD x.b.cD, .bool x.fit, .slice x.A x.n x.c] 50)).alloc (.cells #[.int .i64 0, .int .i64 0, .int .i64 0, .slice none 0 0, .int .i64 0, .int .i64 0, .slice none 0 0, .slice none 0 0, .slice none 0 0] 27) = w0) := by show ((w.alloc (.cells #[.int .i64 P.i, .int .i64 P.N, .int .i64 P.x, .slice a.O.A a.O.n a.O.c, .int .i64 P.g, .int .i64 P.c, .slice a.W.A a.W.n a.W.c, .slice a.H.A a.H.n a.H.c, .slice a.R.A a.R.n a.R.c] 27)).alloc (.cells #[.int .i64 x.Do, .int .i64 x.D, .int .i64 x.t.s, .int .i64 x.t.q, .string x.t.k, .string x.t.v, .int .i64 x.m.k, .int .i64 x.m.f, .int .i64 x.m.t, .int .i64 x.m.d, .int .i64 x.m.ba, .int .i64 x.m.bn, .slice x.b.AL x.b.nL x.b.cL, .int .i64 x.m.ha, .int .i64 x.m.hr, .slice x.b.AhB x.b.nhB x.b.chB, .slice x.b.AhP x.b.nhP x.b.chP, .int .i64 x.m.ca, .int .i64 x.m.cr, .slice x.b.AcB x.b.ncB x.b.ccB, .slice x.b.AcP x.b.ncP x.b.ccP, .int .i64 x.m.cd, .slice x.b.AcS x.b.ncS x.b.ccS, .slice x.b.AD x.b.nD x.b.cD, .bool x.fit, .slice x.A x.n x.c] 50)).alloc (.cells #[.int .i64 0, .int .i64 0, .int .i64 0, .slice none 0 0, .int .i64 0, .int .i64 0, .slice none 0 0, .slice none 0 0, .slice none 0 0] 27) = w0; rw [hw0, hwa2, hwa1, hwa0]
 have HG : Hid (w.heap.size = g) := hg.symm
 have HS0 := Lib.hid hsz0
 have HB0 := Lib.hid hb0w
 have hl0 : g < w0.heap.size := by omega
 have hl1 : g + 1 < w0.heap.size := by omega
 have hl2 : g + 2 < w0.heap.size := by omega
 have hgw : g ≤ w0.heap.size := by omega
 have hin0 : WIn w0 P a := h.below (by rw [HG.out]; exact HB0.out)
 have hact0 : ActIn w0 x := hx.below (by rw [HG.out]; exact HB0.out)
 have HIN : Hid (∀ wX, Below w0.heap.size w0 wX → WIn wX P a) := by show ∀ wX, _; exact fun wX hX => hin0.below hX
 have HACT : Hid (∀ wX, Below w0.heap.size w0 wX → ActIn wX x) := by show ∀ wX, _; exact fun wX hX => hact0.below hX
 have HGR : Hid (Grown k P) := hgr
 have HFE : Hid (MsgFew 2000 x.b ∧ x.L.length ≤ 12000) := hfew
 have HCP := Lib.hid (rcopyWk_any P a w0 hin0 (hgr.few1 (by omega)))
 obtain ⟨bm, hbm⟩ : ∃ b, b = mayW P := ⟨_, rfl⟩
 have HBM : Hid (mayW P = bm) := hbm.symm
 have HMAY : Hid (∀ wX, Below w0.heap.size w0 wX → Calls Tryz.prog 16 #[wkV P a] wX (Tells wX.heap.size wX (.bool bm))) := by
  show ∀ wX, _
  exact fun wX hX => rmayW_is bm P a wX hbm.symm (hin0.below hX) (hgr.few1 (by omega))
 have HRV : Hid (wrap64 ((IntKind.u64.wrap x.Do).tmod ((11 : Nat) : Int)) = ((3 : Nat) : Int)) := hr
 have HINW : Hid (WIn w P a) := h
 have HTY2 : Hid (w0.heap[g + 2]? = some (.cells zeroC.toArray 27 (0, 0))) := by
  show _ = _
  rw [hw0, hwa2]
  have := heap_alloc_new wa1 (.cells zeroC.toArray 27)
  rw [hs1] at this
  exact this
 clear hg hsz0 hb0w hw0 hwa0 hs0 bn0 hb0 hwa1 hs1 bn1 hb1 hwa2 hs2 bn2 hb2
 clear hin0 hact0 h hx hgr hfew hbm hr
 unfold wkV Ad.v actV
 go_enter Tryz.func19, Tryz.ntmps19
 go_upto_region 1 with fail
 rw [HG.out, HW0.out]
 go_upto_region 2 with (first
  | (refine wpList_load_box rfl 27 _ rfl g rfl (wkC P a) (HX0.out) _ Tryz.underlying27 rfl size_wk ?_)
  | (go_at_call 15; refine HCP.out.mono ?_; rintro e w1 ⟨a6, rfl, hn1, hb1⟩)
  | (refine wpList_store_box rfl 27 _ _ rfl w1.heap.size 0 (wkC P a6) (zeroC) (wkC P a6) rfl rfl (box_new w1 zeroC 27) (show 0 + 9 ≤ 9 by decide) rfl size_wk rfl ?_; intro w2 bx2 T2))
 have t2 := T2 (fun j => j = w1.heap.size) rfl
 obtain ⟨q6, hq6⟩ : ∃ q, q = w1.heap.size := ⟨_, rfl⟩
 rw [← hq6] at bx2 t2 ⊢
 have hz1 := hb1.size
 have hgq6 : g + 2 < q6 := by omega
 have hb12 : Below w1.heap.size w1 w2 := ((Below.refl _ _).alloc (Nat.le_refl _) _).trans (t2.below (fun j hj => by omega) (by simp))
 have hz2 := hb12.size
 have hb02 : Below w0.heap.size w0 w2 := hb1.trans (hb12.mono hz1)
 have HN6 : Hid (WIn w1 P a6) := hn1.in_
 have HB12 := Lib.hid hb12
 have HB02 := Lib.hid hb02
 have HX6 : Hid (Box w2 q6 (wkC P a6)) := bx2
 have hq2 : q6 < w2.heap.size := bx2.1
 have HMY := Lib.hid (HMAY.out w2 hb02)
 clear t2 T2 hq6 hb12 hn1 bx2 hb1 HCP HMAY
 go_upto_region 3 with (first
  | (refine wpList_load_box rfl 27 _ rfl g rfl (wkC P a) (HX0.out.below HB02.out hl0) _ Tryz.underlying27 rfl size_wk ?_)
  | (go_at_call 16; refine HMY.out.mono ?_; rintro e w3 ⟨rfl, hb3⟩))
 have hz3 := hb3.size
 have HB3 : Hid (Below w2.heap.size w2 w3) := hb3
 have hb03 : Below w0.heap.size w0 w3 := hb02.trans (hb3.mono (by omega))
 have HB03 := Lib.hid hb03
 clear hb3 hb03 hb02 HMY
 go_upto_region 7 with fail
 obtain ⟨s0, hs0⟩ : ∃ s, s = w3.heap.size := ⟨_, rfl⟩
 obtain ⟨w5, hw5⟩ : ∃ z, z = (w3.alloc (.cells #[.int .i64 0, .int .i64 0, .int .i64 0, .slice none 0 0, .int .i64 0, .int .i64 0, .slice none 0 0, .slice none 0 0, .slice none 0 0, .slice none 0 0] 75)).alloc (.cells #[.int .i64 0, .int .i64 0, .int .i64 0, .slice none 0 0, .int .i64 0, .int .i64 0, .slice none 0 0, .slice none 0 0, .slice none 0 0] 27) := ⟨_, rfl⟩
 rw [← hw5, ← hs0]
 have HPS : Hid (PreZ w3 w5 s0) := by show PreZ _ _ _; rw [hw5, hs0]; exact preZ_new w3
 have HL : Hid (∀ wX, Below w3.heap.size w3 wX → LateZ w wX P a a6 x g q6) := by
  show ∀ wX, _
  intro wX hX
  have h0X : Below w0.heap.size w0 wX := HB03.out.trans (hX.mono (by omega))
  have h2X : Below w2.heap.size w2 wX := HB3.out.trans (hX.mono hz3)
  exact ⟨HX0.out.below h0X hl0, HX1.out.below h0X hl1, HX2.out.below h0X hl2, HX6.out.below h2X hq2, HIN.out wX h0X, HN6.out.below (HB12.out.trans (h2X.mono hz2)), HACT.out wX h0X, by rw [HG.out]; exact HB0.out.trans (h0X.mono hgw), (h0X.block (g + 2) hl2).trans HTY2.out⟩
 have hz5 : w5.heap.size = s0 + 2 := by rw [hw5, hs0]; simp
 have hgs : g + 2 < s0 := by omega
 have hqs : q6 < s0 := by omega
 have hs3 : w3.heap.size = s0 := hs0.symm
 have HB5 : Hid (Below w3.heap.size w3 w5) := HPS.out.bel
 have HL5 := Lib.hid (HL.out w5 HB5.out)
 have kD := (HL5.out.b1.2 0 _ rfl).1
 clear hw5 hs0 HX0 HX1 HX2 HIN HACT HN6
 go_upto_region 15 with (go_at_call 45; refine (withinG_is x.Do 11 3 _ HRV.out (by omega) (by omega)).mono ?_; rintro e w' ⟨rfl, rfl⟩)
 clear kD HRV
 go_upto_region 25 with fail
 cases bm with
 | true =>
  by_cases hE : sealE P x.D = 0
  ·obtain ⟨Q, hQ⟩ : ∃ Q, Q = sealW P x.D := ⟨_, rfl⟩
   obtain ⟨l, hl⟩ : ∃ l, l = sealO P x.D := ⟨_, rfl⟩
   have hrt := rseal_any P a x.D w5 HL5.out.inn (HGR.out.few (by omega)) HBM.out
   rw [← hQ, ← hl, hE] at hrt
   have HRT := Lib.hid (hrt.mono fun e w' h => h.ok)
   have HGQ : Hid (Grown (k + 1) Q) := by show Grown _ _; rw [hQ]; exact HGR.out.seal x.D
   have HSH : Hid (ShortO l) := by show ShortO _; rw [hl]; exact seal_short (mayW_iff.1 HBM.out) x.D
   have HQL : Hid (Q = sealW P x.D ∧ l = sealO P x.D ∧ sealE P x.D = 0) := ⟨hQ, hl, hE⟩
   clear hrt hQ hl hE
   have kd5 := (HL5.out.b1.2 1 _ rfl).1
   go_upto_region 27 with (first
    | (refine wpList_load_box rfl 27 _ rfl g rfl (wkC P a) (HL5.out.b0) _ Tryz.underlying27 rfl size_wk ?_)
    | (go_at_call 51; refine HRT.out.mono ?_; rintro e w6 ⟨s, B, asx, os, mss, rfl, hB, hst, hb6⟩))
   have HST6 : Hid (StAt s B w6 Q asx l os mss) := hst
   have hsB := hst.gB
   have HSG2 : Hid (¬ s = g + 2) := by show ¬ _; omega
   have HSQ : Hid (s ≠ s0 + 1) := by show s ≠ _; omega
   have HB56 : Hid (Below w5.heap.size w5 w6) := hb6
   have HB6 : Hid (Below w3.heap.size w3 w6) := HB5.out.trans (hb6.mono HB5.out.size)
   have HL6 := Lib.hid (HL.out w6 HB6.out)
   clear hb6
   have HKT : Hid (Calls Tryz.prog 52 #[wkV P a6, .int .i64 x.D] w6 (Ret3 Q l 0 w6)) := by
    show Calls _ _ _ _ _
    have hkt := sealed_any P a6 x.D w6 HL6.out.in6 (HGR.out.few (by omega))
    rw [ifMay_yes HBM.out, HQL.out.2.2, orW, if_pos rfl, orO, if_pos rfl, ← HQL.out.1, ← HQL.out.2.1] at hkt
    exact hkt
   clear hst HRT kd5
   have kd6 := (HL6.out.b1.2 1 _ rfl).1
   go_upto_region 51 with (first
    | (refine wpList_load_box rfl 27 _ rfl q6 rfl (wkC P a6) (HL6.out.b6) _ Tryz.underlying27 rfl size_wk ?_)
    | (go_at_call 52; refine (HKT.out).mono ?_; rintro e w7 ⟨ax, ox, msx, rfl, hnx, hox, hex, hap, hb7⟩)
    | (refine wpList_store_box rfl 27 _ _ rfl (s0 + 1) 0 (wkC Q ax) (zeroC) (wkC Q ax) rfl rfl (((HPS.out.bq.below HB56.out (by omega)).below hb7 (by have := HB56.out.size; omega))) (show 0 + 9 ≤ 9 by decide) rfl size_wk rfl ?_; intro w9 bx9 T9))
   clear kd6
   have t9 := T9 (fun j => j = s0 + 1) rfl
   obtain ⟨C, hC⟩ : ∃ C, C = w6.heap.size := ⟨_, rfl⟩
   rw [← hC] at hnx hox
   have hz7 := hb7.size
   have hz9 := t9.size
   have hz56 := HB56.out.size
   have hC9 : C ≤ w9.heap.size := by omega
   have hCs : s0 + 1 < C := by omega
   have HNX : Hid (WNew C w9 Q ax) := hnx.touch t9 (fun j hj ho => by have := (hnx.core.lt ho).2; omega) (fun j hj ho => by have := (own_lt hnx.open_ ho).2; omega)
   have HOX : Hid (RowOwn KM C w9 ox msx) := hox.touch t9 (fun j hj hf => by have := (own_lt hox.row hj).2; omega) (fun y hy j hj hf => by have := (own_lt (hox.sub y hy).1 hj).2; omega)
   have HEX : Hid (msx.map Prod.fst = l) := hex
   have HAPX : Hid (∀ y ∈ msx, ∀ j, y.2.v.ownBlock = some j → ax.O.v.ownBlock ≠ some j ∧ ∀ z ∈ ax.hs, z.2.v.ownBlock ≠ some j) := by show ∀ y ∈ msx, _; exact hap
   have HBXQ : Hid (Box w9 (s0 + 1) (wkC Q ax)) := bx9
   have hty6 := (HB56.out.block (s0 + 1) (by omega)).trans HPS.out.ty
   have HSW : Hid (∀ wX, Below C w9 wX → StAt s B wX Q asx l os mss) := by
    show ∀ wX, _
    intro wX hX
    refine HST6.out.late2 hty6 HSQ.out ?_
    rw [← hC]
    exact (((Touch.ofB hb7).mono fun j hj => .inr (by omega)).on (t9.mono fun j hj => .inl hj)).on ((Touch.ofB hX).mono fun j hj => .inr hj)
   have HB9 : Hid (Below w3.heap.size w3 w9) := (HB6.out.trans (hb7.mono (by omega))).trans (t9.below (fun j hj => by omega) (by omega))
   have HS9 : Hid (StAt s B w9 Q asx l os mss) := HSW.out w9 (Below.refl _ _)
   clear hnx hox hex hap hb7 bx9 t9 T9 hty6 hC
   go_upto_region 53 with fail
   have HBX : Hid (∀ wX, Below w9.heap.size w9 wX → Box wX (s0 + 1) (wkC Q ax) ∧ Box wX s (wkC Q asx) ∧ Box wX q6 (wkC P a6) ∧ Box wX g (wkC P a) ∧ wX.cell? ⟨s, 9, none⟩ = some (.slice os.A os.n os.c)) := by
    show ∀ wX, _
    intro wX hX
    have hl := HL.out wX (HB9.out.trans (hX.mono HB9.out.size))
    have hst := HS9.out.below hX
    exact ⟨HBXQ.out.below hX HBXQ.out.1, hst.wk, hl.b6, hl.b0, (hst.box.2 9 _ rfl).1⟩
   have HIQ : Hid (∀ wX, Below w9.heap.size w9 wX → WIn wX Q ax ∧ WIn wX Q asx ∧ WIn wX P a6 ∧ WIn wX P a ∧ RowIn KM wX ox msx ∧ RowIn KM wX os mss) := by
    show ∀ wX, _
    intro wX hX
    have hl := HL.out wX (HB9.out.trans (hX.mono HB9.out.size))
    have hst := HS9.out.below hX
    exact ⟨(HNX.out.below hX).in_, hst.pg.in_, hl.in6, hl.inn, (HOX.out.below hX).in_, hst.out.in_⟩
   have hls : msx.length ≤ 1000000 ∧ mss.length ≤ 1000000 := ⟨by rw [← List.length_map (f := Prod.fst), HEX.out]; exact HSH.out.1, by rw [HS9.out.lenOZ]; exact HSH.out.1⟩
   have HLS := Lib.hid hls
   have HLY : Hid (∀ y ∈ msx, KM.len y.1 ≤ 1000000) := by
    show ∀ y ∈ msx, _
    exact fun y hy => Nat.le_trans (HSH.out.2 y.1 (by rw [← HEX.out]; exact List.mem_map_of_mem hy)) (by decide)
   have HLT : Hid (∀ y ∈ mss, KM.len y.1 ≤ 1000000) := by
    show ∀ y ∈ mss, _
    exact fun y hy => Nat.le_trans (HSH.out.2 y.1 (by rw [← HS9.out.eO]; exact List.mem_map_of_mem hy)) (by decide)
   clear hls
   have hS0 : Below w9.heap.size w9 w9.drew := (Below.refl _ _).drew
   refine wp_region_held_drew (S := fun w' => Below w9.heap.size w9 w') (by kernel_rfl) hS0 (fun _ => ?_)
   refine ytake_0 (v := ?vv48) (by kernel_rfl) (by kernel_rfl) (by kernel_rfl) (fun _ _ _ h => h) (Or.inl ⟨by rfl, ?hy48⟩) hS0 ?_
   case hy48 =>
    intro wX hSw
    go_simp
    try with_reducible rfl
   try simp only [Act.put, List.setIfInBounds_toArray, List.set_cons_zero, List.set_cons_succ]
   refine ytake_2 (v := ?vv49) (by kernel_rfl) (by kernel_rfl) (by kernel_rfl) (fun _ _ _ h => h) (Or.inl ⟨by rfl, ?hy49⟩) hS0 ?_
   case hy49 =>
    intro wX hSw
    go_simp
    try with_reducible rfl
   try simp only [Act.put, List.setIfInBounds_toArray, List.set_cons_zero, List.set_cons_succ]
   refine yready_1 (by kernel_rfl) ?_
   intro KQ hK
   rw [if_pos (by rfl)]
   try go_simp
   refine (num13_any _ _).mono ?_
   rintro e w' ⟨rfl, rfl⟩
   refine hK.out _ _ hS0 (fun _ => ?_)
   clear hK KQ
   try simp only [Act.put, List.setIfInBounds_toArray, List.set_cons_zero, List.set_cons_succ]
   refine ytake_3 (v := ?vv50) (by kernel_rfl) (by kernel_rfl) (by kernel_rfl) (fun _ _ _ h => h) (Or.inl ⟨by rfl, ?hy50⟩) hS0 ?_
   case hy50 =>
    intro wX hSw
    go_simp
    try with_reducible rfl
   try simp only [Act.put, List.setIfInBounds_toArray, List.set_cons_zero, List.set_cons_succ]
   refine ytake_4 (v := ?vv51) (by kernel_rfl) (by kernel_rfl) (by kernel_rfl) (fun _ _ _ h => h) (Or.inl ⟨by rfl, ?hy51⟩) hS0 ?_
   case hy51 =>
    intro wX hSw
    go_simp
    try with_reducible rfl
   try simp only [Act.put, List.setIfInBounds_toArray, List.set_cons_zero, List.set_cons_succ]
   refine ytake_5 (by kernel_rfl) (by kernel_rfl) (by kernel_rfl) (fun _ _ _ h => h) (yieldsIf_load_mid (by rfl) 27 _ rfl (s0 + 1) 0 rfl (wkC Q ax) _ (fun w' h => box_rangeZ ((HBX.out w' h).1)) Tryz.underlying27 rfl size_wk) hS0 ?_
   try simp only [Act.put, List.setIfInBounds_toArray, List.set_cons_zero, List.set_cons_succ]
   refine ytake_6 (v := ?vv52) (by kernel_rfl) (by kernel_rfl) (by kernel_rfl) (fun _ _ _ h => h) (Or.inl ⟨by rfl, ?hy52⟩) hS0 ?_
   case hy52 =>
    intro wX hSw
    go_simp
    try with_reducible rfl
   try simp only [Act.put, List.setIfInBounds_toArray, List.set_cons_zero, List.set_cons_succ]
   refine ytake_7 (v := ?vv53) (by kernel_rfl) (by kernel_rfl) (by kernel_rfl) (fun _ _ _ h => h) (Or.inl ⟨by rfl, ?hy53⟩) hS0 ?_
   case hy53 =>
    intro wX hSw
    go_simp
    try with_reducible rfl
   try simp only [Act.put, List.setIfInBounds_toArray, List.set_cons_zero, List.set_cons_succ]
   refine ytake_8 (v := ?vv54) (by kernel_rfl) (by kernel_rfl) (by kernel_rfl) (fun _ _ _ h => h) (Or.inl ⟨by rfl, ?hy54⟩) hS0 ?_
   case hy54 =>
    intro wX hSw
    go_simp
    try with_reducible rfl
   try simp only [Act.put, List.setIfInBounds_toArray, List.set_cons_zero, List.set_cons_succ]
   refine ytake_9 (by kernel_rfl) (by kernel_rfl) (by kernel_rfl) (fun _ _ _ h => h) (yieldsIf_load_mid (by rfl) 27 _ rfl s 0 rfl (wkC Q asx) _ (fun w' h => box_rangeZ ((HBX.out w' h).2.1)) Tryz.underlying27 rfl size_wk) hS0 ?_
   try simp only [Act.put, List.setIfInBounds_toArray, List.set_cons_zero, List.set_cons_succ]
   refine yready_10 (by kernel_rfl) ?_
   intro KQ hK
   rw [if_pos (by rfl)]
   try go_simp
   refine (reqWk_is true Q Q ax asx _ (by simp) ((HIQ.out _ hS0).1) ((HIQ.out _ hS0).2.1) (HGQ.out.few1 (by omega)) (HGQ.out.few1 (by omega))).mono ?_
   rintro e w10 ⟨rfl, hc10⟩
   have hS10 : Below w9.heap.size w9 w10 := hS0.trans (hc10.mono hS0.size)
   refine hK.out _ _ hS10 (fun _ => ?_)
   clear hK KQ
   try simp only [Act.put, List.setIfInBounds_toArray, List.set_cons_zero, List.set_cons_succ]
   refine ytake_11 (v := ?vv55) (by kernel_rfl) (by kernel_rfl) (by kernel_rfl) (fun _ _ _ h => h) (Or.inl ⟨by rfl, ?hy55⟩) hS10 ?_
   case hy55 =>
    intro wX hSw
    go_simp
    try with_reducible rfl
   try simp only [Act.put, List.setIfInBounds_toArray, List.set_cons_zero, List.set_cons_succ]
   refine ytake_12 (v := ?vv56) (by kernel_rfl) (by kernel_rfl) (by kernel_rfl) (fun _ _ _ h => h) (Or.inl ⟨by rfl, ?hy56⟩) hS10 ?_
   case hy56 =>
    intro wX hSw
    go_simp
    try with_reducible rfl
   try simp only [Act.put, List.setIfInBounds_toArray, List.set_cons_zero, List.set_cons_succ]
   refine ytake_13 (v := ?vv57) (by kernel_rfl) (by kernel_rfl) (by kernel_rfl) (fun _ _ _ h => h) (Or.inl ⟨by rfl, ?hy57⟩) hS10 ?_
   case hy57 =>
    intro wX hSw
    go_simp
    try with_reducible rfl
   try simp only [Act.put, List.setIfInBounds_toArray, List.set_cons_zero, List.set_cons_succ]
   refine ytake_14 (v := ?vv58) (by kernel_rfl) (by kernel_rfl) (by kernel_rfl) (fun _ _ _ h => h) (Or.inl ⟨by rfl, ?hy58⟩) hS10 ?_
   case hy58 =>
    intro wX hSw
    go_simp
    try with_reducible rfl
   try simp only [Act.put, List.setIfInBounds_toArray, List.set_cons_zero, List.set_cons_succ]
   refine ytake_15 (v := ?vv59) (by kernel_rfl) (by kernel_rfl) (by kernel_rfl) (fun _ _ _ h => h) (Or.inl ⟨by rfl, ?hy59⟩) hS10 ?_
   case hy59 =>
    intro wX hSw
    go_simp
    try with_reducible rfl
   try simp only [Act.put, List.setIfInBounds_toArray, List.set_cons_zero, List.set_cons_succ]
   refine ytake_16 (v := ?vv60) (by kernel_rfl) (by kernel_rfl) (by kernel_rfl) (fun _ _ _ h => h) (Or.inl ⟨by rfl, ?hy60⟩) hS10 ?_
   case hy60 =>
    intro wX hSw
    go_simp
    try with_reducible rfl
   try simp only [Act.put, List.setIfInBounds_toArray, List.set_cons_zero, List.set_cons_succ]
   refine ytake_17 (v := ?vv61) (by kernel_rfl) (by kernel_rfl) (by kernel_rfl) (fun _ _ _ h => h) (Or.inl ⟨by rfl, ?hy61⟩) hS10 ?_
   case hy61 =>
    intro wX hSw
    have k9 := (HBX.out _ hSw).2.2.2.2
    go_simp
    try with_reducible rfl
   try simp only [Act.put, List.setIfInBounds_toArray, List.set_cons_zero, List.set_cons_succ]
   refine yready_18 (by kernel_rfl) ?_
   intro KQ hK
   rw [if_pos (by rfl)]
   try go_simp
   refine (reqMessages_is true ox os msx mss w10 (by rw [HEX.out, HS9.out.eO]; simp) (HIQ.out _ hS10).2.2.2.2.1 (HIQ.out _ hS10).2.2.2.2.2 HLS.out.1 HLS.out.2 HLY.out HLT.out).mono ?_
   rintro e w11 ⟨rfl, hc18⟩
   have hS11 : Below w9.heap.size w9 w11 := hS10.trans (hc18.mono hS10.size)
   refine hK.out _ _ hS11 (fun _ => ?_)
   clear hK KQ
   try simp only [Act.put, List.setIfInBounds_toArray, List.set_cons_zero, List.set_cons_succ]
   refine ytake_19 (v := ?vv62) (by kernel_rfl) (by kernel_rfl) (by kernel_rfl) (fun _ _ _ h => h) (Or.inl ⟨by rfl, ?hy62⟩) hS11 ?_
   case hy62 =>
    intro wX hSw
    go_simp
    try with_reducible rfl
   try simp only [Act.put, List.setIfInBounds_toArray, List.set_cons_zero, List.set_cons_succ]
   refine ytake_20 (v := ?vv63) (by kernel_rfl) (by kernel_rfl) (by kernel_rfl) (fun _ _ _ h => h) (Or.inl ⟨by rfl, ?hy63⟩) hS11 ?_
   case hy63 =>
    intro wX hSw
    go_simp
    try with_reducible rfl
   try simp only [Act.put, List.setIfInBounds_toArray, List.set_cons_zero, List.set_cons_succ]
   refine ytake_21 (by kernel_rfl) (by kernel_rfl) (by kernel_rfl) (fun _ _ _ h => h) (yieldsIf_load_mid (by rfl) 27 _ rfl q6 0 rfl (wkC P a6) _ (fun w' h => box_rangeZ ((HBX.out w' h).2.2.1)) Tryz.underlying27 rfl size_wk) hS11 ?_
   try simp only [Act.put, List.setIfInBounds_toArray, List.set_cons_zero, List.set_cons_succ]
   refine ytake_22 (by kernel_rfl) (by kernel_rfl) (by kernel_rfl) (fun _ _ _ h => h) (yieldsIf_load_mid (by rfl) 27 _ rfl g 0 rfl (wkC P a) _ (fun w' h => box_rangeZ ((HBX.out w' h).2.2.2.1)) Tryz.underlying27 rfl size_wk) hS11 ?_
   try simp only [Act.put, List.setIfInBounds_toArray, List.set_cons_zero, List.set_cons_succ]
   refine yready_23 (by kernel_rfl) ?_
   intro KQ hK
   rw [if_pos (by rfl)]
   try go_simp
   refine (reqWk_is true P P a6 a _ (by simp) ((HIQ.out _ hS11).2.2.1) ((HIQ.out _ hS11).2.2.2.1) (HGR.out.few1 (by omega)) (HGR.out.few1 (by omega))).mono ?_
   rintro e w12 ⟨rfl, hc23⟩
   have hS12 : Below w9.heap.size w9 w12 := hS11.trans (hc23.mono hS11.size)
   refine hK.out _ _ hS12 (fun _ => ?_)
   clear hK KQ
   try simp only [Act.put, List.setIfInBounds_toArray, List.set_cons_zero, List.set_cons_succ]
   refine ytake_24 (v := ?vv64) (by kernel_rfl) (by kernel_rfl) (by kernel_rfl) (fun _ _ _ h => h) (Or.inl ⟨by rfl, ?hy64⟩) hS12 ?_
   case hy64 =>
    intro wX hSw
    go_simp
    try with_reducible rfl
   try simp only [Act.put, List.setIfInBounds_toArray, List.set_cons_zero, List.set_cons_succ]
   refine ytake_25 (v := ?vv65) (by kernel_rfl) (by kernel_rfl) (by kernel_rfl) (fun _ _ _ h => h) (Or.inl ⟨by rfl, ?hy65⟩) hS12 ?_
   case hy65 =>
    intro wX hSw
    go_simp
    try with_reducible rfl
   try simp only [Act.put, List.setIfInBounds_toArray, List.set_cons_zero, List.set_cons_succ]
   refine wpAnyH_done (by kernel_rfl) ?_ _
   have hb12 : Below w3.heap.size w3 w12 := HB9.out.trans (hS12.mono HB9.out.size)
   have HB12' := Lib.hid hb12
   have HB912 := Lib.hid hS12
   have hz12 := hS12.size
   have HNX12 : Hid (WNew C w12 Q ax) := HNX.out.below hS12
   have HOX12 : Hid (RowOwn KM C w12 ox msx) := HOX.out.below hS12
   have HSPW := Lib.hid (spoilWk_far C Q ax w12 HNX12.out (HGQ.out.few4 (by omega)))
   have HXB12 := Lib.hid (HBX.out w12 hS12).1
   clear hS0 hS10 hS11 hS12 hb12
   go_upto_region 55 with (first
    | (refine wpList_load_box rfl 27 _ rfl (s0 + 1) rfl (wkC Q ax) (HXB12.out) _ Tryz.underlying27 rfl size_wk ?_)
    | (go_at_call 68; refine HSPW.out.mono ?_; rintro e w13 ⟨rfl, ht13⟩))
   have ht13' : Touch (fun j => ax.owns j ∨ ax.O.v.ownBlock = some j) w12 w13 := ht13
   have hz13 := ht13'.size
   have HB1213 : Hid (Below C w12 w13) := ht13'.below (fun j hj => by
    rcases hj with hj | hj
    ·exact (HNX12.out.core.lt hj).2
    ·exact (own_lt HNX12.out.open_ hj).2) (by omega)
   have hrow13 : RowOwn KM C w13 ox msx := spoilt_row HNX12.out HOX12.out HAPX.out ht13'
   have HSPM := Lib.hid (spoilMsgs_any C ox _ w13 (hrow13.rowM (fun y hy => HLY.out y hy)) (by rw [List.length_map]; exact HLS.out.1) (by omega))
   clear ht13 ht13' hrow13
   unfold Ad.v at HSPM
   go_upto_region 56 with (go_at_call 58; refine HSPM.out.mono ?_; rintro e w14 ⟨rfl, hb14⟩)
   have hz14 := hb14.size
   have hb1214 : Below C w12 w14 := HB1213.out.trans hb14
   have hb9 : Below C w9 w14 := (HB912.out.mono (by omega)).trans hb1214
   have hb314 : Below w3.heap.size w3 w14 := HB9.out.trans (hb9.mono (by omega))
   have HB914 := Lib.hid hb9
   have HB14 := Lib.hid hb314
   clear hb14 hb1214 hb9 hb314 HSPM HSPW
   have HLX : Hid (∀ wX, Below w14.heap.size w14 wX → LateZ w wX P a a6 x g q6) := by
    show ∀ wX, _
    exact fun wX hX => HL.out wX (HB14.out.trans (hX.mono HB14.out.size))
   have hlx := HLX.out w14 (Below.refl _ _)
   have HST14 : Hid (∀ wX, Below w14.heap.size w14 wX → StAt s B wX Q asx l os mss) := by
    show ∀ wX, _
    exact fun wX hX => (HSW.out w14 HB914.out).below hX
   have hsx := (HST14.out w14 (Below.refl _ _)).wk
   have HBT : Hid (∀ wX, Touch (fun j => j = g + 2) w14 wX → Box wX g (wkC P a) ∧ Box wX q6 (wkC P a6) ∧ Box wX s (wkC Q asx)) := by
    show ∀ wX, _
    exact fun wX hX => ⟨hlx.b0.touch hX (by omega), hlx.b6.touch hX (by omega), hsx.touch hX HSG2.out⟩
   clear hsx
   clear hlx
   go_upto_region 58 with fail
   have hB0 : Below w14.heap.size w14 w14.drew := (Below.refl _ _).drew
   have hS0 : Touch (fun j => j = g + 2) w14 w14.drew := Touch.of hB0
   refine wp_region_held_drew (S := fun w' => Touch (fun j => j = g + 2) w14 w') (by kernel_rfl) hS0 (fun _ => ?_)
   refine ytake_0 (v := ?vv66) (by kernel_rfl) (by kernel_rfl) (by kernel_rfl) (fun _ _ _ h => h) (Or.inl ⟨by rfl, ?hy66⟩) hS0 ?_
   case hy66 =>
    intro wX hSw
    go_simp
    try with_reducible rfl
   try simp only [Act.put, List.setIfInBounds_toArray, List.set_cons_zero, List.set_cons_succ]
   refine ytake_1 (v := ?vv67) (by kernel_rfl) (by kernel_rfl) (by kernel_rfl) (fun _ _ _ h => h) (Or.inl ⟨by rfl, ?hy67⟩) hS0 ?_
   case hy67 =>
    intro wX hSw
    go_simp
    try with_reducible rfl
   try simp only [Act.put, List.setIfInBounds_toArray, List.set_cons_zero, List.set_cons_succ]
   refine ytake_2 (v := ?vv68) (by kernel_rfl) (by kernel_rfl) (by kernel_rfl) (fun _ _ _ h => h) (Or.inl ⟨by rfl, ?hy68⟩) hS0 ?_
   case hy68 =>
    intro wX hSw
    go_simp
    try with_reducible rfl
   try simp only [Act.put, List.setIfInBounds_toArray, List.set_cons_zero, List.set_cons_succ]
   refine ytake_3 (by kernel_rfl) (by kernel_rfl) (by kernel_rfl) (fun _ _ _ h => h) (yieldsIf_load_mid (by rfl) 27 _ rfl s 0 rfl (wkC Q asx) _ (fun w' h => box_rangeZ ((HBT.out w' h).2.2)) Tryz.underlying27 rfl size_wk) hS0 ?_
   try simp only [Act.put, List.setIfInBounds_toArray, List.set_cons_zero, List.set_cons_succ]
   refine ytake_4 (v := ?vv69) (by kernel_rfl) (by kernel_rfl) (by kernel_rfl) (fun _ _ _ h => h) (Or.inl ⟨by rfl, ?hy69⟩) hS0 ?_
   case hy69 =>
    intro wX hSw
    go_simp
    try with_reducible rfl
   try simp only [Act.put, List.setIfInBounds_toArray, List.set_cons_zero, List.set_cons_succ]
   refine ytake_5 (v := ?vv70) (by kernel_rfl) (by kernel_rfl) (by kernel_rfl) (fun _ _ _ h => h) (Or.inl ⟨by rfl, ?hy70⟩) hS0 ?_
   case hy70 =>
    intro wX hSw
    go_simp
    try with_reducible rfl
   try simp only [Act.put, List.setIfInBounds_toArray, List.set_cons_zero, List.set_cons_succ]
   refine ytake_6 (by kernel_rfl) (by kernel_rfl) (by kernel_rfl) (fun _ _ _ h => h) (yieldsIf_load_mid (by rfl) 27 _ rfl q6 0 rfl (wkC P a6) _ (fun w' h => box_rangeZ ((HBT.out w' h).2.1)) Tryz.underlying27 rfl size_wk) hS0 ?_
   try simp only [Act.put, List.setIfInBounds_toArray, List.set_cons_zero, List.set_cons_succ]
   refine ytake_7 (by kernel_rfl) (by kernel_rfl) (by kernel_rfl) (fun _ _ _ h => h) (yieldsIf_load_mid (by rfl) 27 _ rfl g 0 rfl (wkC P a) _ (fun w' h => box_rangeZ ((HBT.out w' h).1)) Tryz.underlying27 rfl size_wk) hS0 ?_
   try simp only [Act.put, List.setIfInBounds_toArray, List.set_cons_zero, List.set_cons_succ]
   refine yready_8 (by kernel_rfl) ?_
   intro KQ hK
   rw [if_pos (by rfl)]
   try go_simp
   refine (reqWk_is true P P a6 a _ (by simp) (HLX.out _ hB0).in6 (HLX.out _ hB0).inn (HGR.out.few1 (by omega)) (HGR.out.few1 (by omega))).mono ?_
   rintro e w15 ⟨rfl, hc15⟩
   have hB15 : Below w14.heap.size w14 w15 := hB0.trans (hc15.mono hB0.size)
   have hS15 : Touch (fun j => j = g + 2) w14 w15 := Touch.of hB15
   refine hK.out _ _ hS15 (fun _ => ?_)
   clear hK KQ
   try simp only [Act.put, List.setIfInBounds_toArray, List.set_cons_zero, List.set_cons_succ]
   refine ytake_9 (v := ?vv71) (by kernel_rfl) (by kernel_rfl) (by kernel_rfl) (fun _ _ _ h => h) (Or.inl ⟨by rfl, ?hy71⟩) hS15 ?_
   case hy71 =>
    intro wX hSw
    go_simp
    try with_reducible rfl
   try simp only [Act.put, List.setIfInBounds_toArray, List.set_cons_zero, List.set_cons_succ]
   have hlz := HLX.out w15 hB15
   refine yready_10 (by kernel_rfl) ?_
   intro KQ hK
   rw [if_pos (by rfl)]
   refine wp_store_boxY 27 _ _ rfl (g + 2) 0 (wkC Q asx) zeroC (wkC Q asx) rfl rfl hlz.b2 (show 0 + 9 ≤ 9 by decide) rfl size_wk rfl ?_
   intro w16 bx16 T16
   have t16 := T16 (fun j => j = g + 2) rfl
   have hS16 : Touch (fun j => j = g + 2) w14 w16 := hS15.on t16
   refine hK.out _ _ hS16 (fun _ => ?_)
   clear hK KQ
   simp only [Act.put]
   refine ytake_11 (v := ?vv72) (by kernel_rfl) (by kernel_rfl) (by kernel_rfl) (fun _ _ _ h => h) (Or.inl ⟨by rfl, ?hy72⟩) hS16 ?_
   case hy72 =>
    intro wX hSw
    go_simp
    try with_reducible rfl
   try simp only [Act.put, List.setIfInBounds_toArray, List.set_cons_zero, List.set_cons_succ]
   refine wpAnyH_done (by kernel_rfl) ?_ _
   have hres : Below w.heap.size w w16 := hlz.bel.trans (t16.below (fun j hj => by have := HG.out; omega) hlz.bel.size)
   have HRES := Lib.hid hres
   have HWI : Hid (WIn w16 Q asx) := by
    show WIn _ _ _
    have hst := HST14.out w15 hB15
    exact (hst.far t16 (fun j hj => by
     subst hj
     exact ⟨fun e => HSG2.out e.symm, hst.other hlz.ty⟩)).pg.in_
   have HBR := Lib.hid bx16
   clear hres hlz t16 T16 bx16 hB0 hS0 hB15 hS15 hS16
   go_wp2_with fail
   refine bodyPost_ret (v := .tuple #[wkV Q asx, .bool true]) (sres _ _ (g + 2) _ _ true rfl rfl HBR.out) rfl ⟨Q, asx, rfl, HWI.out, HGQ.out, HRES.out⟩
  ·obtain ⟨E, hEE⟩ : ∃ E, E = sealE P x.D := ⟨_, rfl⟩
   have hrt := rseal_any P a x.D w5 HL5.out.inn (HGR.out.few (by omega)) HBM.out
   rw [← hEE] at hrt hE
   have HRT := Lib.hid (hrt.mono fun e w' h => h.no)
   have HEE := Lib.hid hEE
   have jE : (E == 0) = false := by simp [hE]
   have jE2 : (E != 0) = true := by simp [hE]
   clear hrt hEE
   have kd5 := (HL5.out.b1.2 1 _ rfl).1
   go_upto_region 27 with (first
    | (refine wpList_load_box rfl 27 _ rfl g rfl (wkC P a) (HL5.out.b0) _ Tryz.underlying27 rfl size_wk ?_)
    | (go_at_call 51; refine HRT.out.mono ?_; rintro e w6 ⟨sp, rfl, hb6⟩))
   have HB56 : Hid (Below w5.heap.size w5 w6) := hb6
   have HB6 : Hid (Below w3.heap.size w3 w6) := HB5.out.trans (hb6.mono HB5.out.size)
   have HL6 := Lib.hid (HL.out w6 HB6.out)
   clear hb6
   have HKT : Hid (Calls Tryz.prog 52 #[wkV P a6, .int .i64 x.D] w6 (Ret3 zeroW [] E w6)) := by
    show Calls _ _ _ _ _
    have hkt := sealed_any P a6 x.D w6 HL6.out.in6 (HGR.out.few (by omega))
    rw [ifMay_yes HBM.out, ← HEE.out, orW_no hE, orO_no hE] at hkt
    exact hkt
   clear HRT kd5
   have kd6 := (HL6.out.b1.2 1 _ rfl).1
   go_upto_region 51 with (first
    | (refine wpList_load_box rfl 27 _ rfl q6 rfl (wkC P a6) (HL6.out.b6) _ Tryz.underlying27 rfl size_wk ?_)
    | (go_at_call 52; refine (HKT.out).mono ?_; rintro e w7 ⟨ax, ox, msx, rfl, hnx, hox, hex, hap, hb7⟩)
    | (refine wpList_store_box rfl 27 _ _ rfl (s0 + 1) 0 (wkC zeroW ax) (zeroC) (wkC zeroW ax) rfl rfl (((HPS.out.bq.below HB56.out (by omega)).below hb7 (by have := HB56.out.size; omega))) (show 0 + 9 ≤ 9 by decide) rfl size_wk rfl ?_; intro w8 bx8 T8))
   clear kd6
   have t8 := T8 (fun j => j = s0 + 1) rfl
   have hz7 := hb7.size
   have hz8 := t8.size
   have hz56 := HB56.out.size
   have hnx8 := hnx.touch t8 (fun j hj ho => by have := (hnx.core.lt ho).2; omega) (fun j hj ho => by have := (own_lt hnx.open_ ho).2; omega)
   have hox8 := hox.touch t8 (fun j hj hf => by have := (own_lt hox.row hj).2; omega) (fun y hy j hj hf => by have := (own_lt (hox.sub y hy).1 hj).2; omega)
   have hb8 : Below w3.heap.size w3 w8 := (HB6.out.trans (hb7.mono (by omega))).trans (t8.below (fun j hj => by omega) (by omega))
   have HNX8 := Lib.hid hnx8
   have HOX8 := Lib.hid hox8
   have HEX0 : Hid (msx.map Prod.fst = []) := hex
   have HAPX : Hid (∀ y ∈ msx, ∀ j, y.2.v.ownBlock = some j → ax.O.v.ownBlock ≠ some j ∧ ∀ z ∈ ax.hs, z.2.v.ownBlock ≠ some j) := by show ∀ y ∈ msx, _; exact hap
   have HBX8 : Hid (Box w8 (s0 + 1) (wkC zeroW ax)) := bx8
   have HB8 := Lib.hid hb8
   have h68 : w6.heap.size ≤ w8.heap.size := by omega
   clear hnx hox hex hap hb7 bx8 t8 T8 hnx8 hox8 hb8
   go_upto_region 53 with fail
   obtain ⟨w9, hw9⟩ : ∃ z, z = w8.alloc (.cells #[.int .i64 0, .int .i64 0, .int .i64 0, .slice none 0 0, .int .i64 0, .int .i64 0, .slice none 0 0, .slice none 0 0, .slice none 0 0, .slice none 0 0] 75) := ⟨_, rfl⟩
   obtain ⟨s, hs⟩ : ∃ z, z = w8.heap.size := ⟨_, rfl⟩
   have hst9 : ∃ (B : Nat) (asx : WkA) (os : Ad) (mss : List (OtD × Ad)), StAt s B w9 zeroW asx [] os mss := ⟨w8.heap.size, zeroWA, noAd, [], by rw [hw9, hs]; exact st_newZ (wNew_zero _ w8) (Nat.le_refl _)⟩
   rw [← hw9, ← hs]
   have hb89 : Below w8.heap.size w8 w9 := by rw [hw9]; exact (Below.refl _ _).alloc (Nat.le_refl _) _
   obtain ⟨B, asx, os, mss, hst9⟩ := hst9
   obtain ⟨C, hC⟩ : ∃ C, C = w6.heap.size := ⟨_, rfl⟩
   obtain ⟨Q, hQ⟩ : ∃ Q, Q = zeroW := ⟨_, rfl⟩
   obtain ⟨l, hl⟩ : ∃ l : List OtD, l = [] := ⟨_, rfl⟩
   have hz9 := hb89.size
   have hC9 : C ≤ w9.heap.size := by omega
   have HS9 : Hid (StAt s B w9 Q asx l os mss) := by show StAt _ _ _ _ _ _ _ _; rw [hQ, hl]; exact hst9
   have HNX : Hid (WNew C w9 Q ax) := by show WNew _ _ _ _; rw [hC, hQ]; exact HNX8.out.below hb89
   have HOX : Hid (RowOwn KM C w9 ox msx) := by show RowOwn _ _ _ _ _; rw [hC]; exact HOX8.out.below hb89
   have HEX : Hid (msx.map Prod.fst = l) := by show _ = _; rw [hl]; exact HEX0.out
   have HBXQ : Hid (Box w9 (s0 + 1) (wkC Q ax)) := by show Box _ _ _; rw [hQ]; exact HBX8.out.below hb89 HBX8.out.1
   have HB9 : Hid (Below w3.heap.size w3 w9) := HB8.out.trans (hb89.mono HB8.out.size)
   have HGQ : Hid (Grown (k + 1) Q) := by show Grown _ _; rw [hQ]; exact grown_zero _
   have HSH : Hid (ShortO l) := by show ShortO _; rw [hl]; exact short_none
   have hCs : s0 + 1 < C := by omega
   clear hw9 hs hst9 hb89 hC hQ hl HNX8 HOX8 HEX0 HBX8
   have HBX : Hid (∀ wX, Below w9.heap.size w9 wX → Box wX (s0 + 1) (wkC Q ax) ∧ Box wX s (wkC Q asx) ∧ Box wX q6 (wkC P a6) ∧ Box wX g (wkC P a) ∧ wX.cell? ⟨s, 9, none⟩ = some (.slice os.A os.n os.c)) := by
    show ∀ wX, _
    intro wX hX
    have hl := HL.out wX (HB9.out.trans (hX.mono HB9.out.size))
    have hst := HS9.out.below hX
    exact ⟨HBXQ.out.below hX HBXQ.out.1, hst.wk, hl.b6, hl.b0, (hst.box.2 9 _ rfl).1⟩
   have HIQ : Hid (∀ wX, Below w9.heap.size w9 wX → WIn wX Q ax ∧ WIn wX Q asx ∧ WIn wX P a6 ∧ WIn wX P a ∧ RowIn KM wX ox msx ∧ RowIn KM wX os mss) := by
    show ∀ wX, _
    intro wX hX
    have hl := HL.out wX (HB9.out.trans (hX.mono HB9.out.size))
    have hst := HS9.out.below hX
    exact ⟨(HNX.out.below hX).in_, hst.pg.in_, hl.in6, hl.inn, (HOX.out.below hX).in_, hst.out.in_⟩
   have hls : msx.length ≤ 1000000 ∧ mss.length ≤ 1000000 := ⟨by rw [← List.length_map (f := Prod.fst), HEX.out]; exact HSH.out.1, by rw [HS9.out.lenOZ]; exact HSH.out.1⟩
   have HLS := Lib.hid hls
   have HLY : Hid (∀ y ∈ msx, KM.len y.1 ≤ 1000000) := by
    show ∀ y ∈ msx, _
    exact fun y hy => Nat.le_trans (HSH.out.2 y.1 (by rw [← HEX.out]; exact List.mem_map_of_mem hy)) (by decide)
   have HLT : Hid (∀ y ∈ mss, KM.len y.1 ≤ 1000000) := by
    show ∀ y ∈ mss, _
    exact fun y hy => Nat.le_trans (HSH.out.2 y.1 (by rw [← HS9.out.eO]; exact List.mem_map_of_mem hy)) (by decide)
   clear hls
   have hS0 : Below w9.heap.size w9 w9.drew := (Below.refl _ _).drew
   refine wp_region_held_drew (S := fun w' => Below w9.heap.size w9 w') (by kernel_rfl) hS0 (fun _ => ?_)
   refine ytake_0 (v := ?vv73) (by kernel_rfl) (by kernel_rfl) (by kernel_rfl) (fun _ _ _ h => h) (Or.inl ⟨by rfl, ?hy73⟩) hS0 ?_
   case hy73 =>
    intro wX hSw
    go_simp
    try with_reducible rfl
   try simp only [Act.put, List.setIfInBounds_toArray, List.set_cons_zero, List.set_cons_succ]
   refine ytake_2 (v := ?vv74) (by kernel_rfl) (by kernel_rfl) (by kernel_rfl) (fun _ _ _ h => h) (Or.inl ⟨by rfl, ?hy74⟩) hS0 ?_
   case hy74 =>
    intro wX hSw
    go_simp
    try with_reducible rfl
   try simp only [Act.put, List.setIfInBounds_toArray, List.set_cons_zero, List.set_cons_succ]
   refine yready_1 (by kernel_rfl) ?_
   intro KQ hK
   rw [if_pos (by rfl)]
   try go_simp
   refine (num13_any _ _).mono ?_
   rintro e w' ⟨rfl, rfl⟩
   refine hK.out _ _ hS0 (fun _ => ?_)
   clear hK KQ
   try simp only [Act.put, List.setIfInBounds_toArray, List.set_cons_zero, List.set_cons_succ]
   refine ytake_3 (v := ?vv75) (by kernel_rfl) (by kernel_rfl) (by kernel_rfl) (fun _ _ _ h => h) (Or.inl ⟨by rfl, ?hy75⟩) hS0 ?_
   case hy75 =>
    intro wX hSw
    go_simp
    try with_reducible rfl
   try simp only [Act.put, List.setIfInBounds_toArray, List.set_cons_zero, List.set_cons_succ]
   refine ytake_4 (v := ?vv76) (by kernel_rfl) (by kernel_rfl) (by kernel_rfl) (fun _ _ _ h => h) (Or.inl ⟨by rfl, ?hy76⟩) hS0 ?_
   case hy76 =>
    intro wX hSw
    go_simp
    try with_reducible rfl
   try simp only [Act.put, List.setIfInBounds_toArray, List.set_cons_zero, List.set_cons_succ]
   refine ytake_5 (by kernel_rfl) (by kernel_rfl) (by kernel_rfl) (fun _ _ _ h => h) (yieldsIf_load_mid (by rfl) 27 _ rfl (s0 + 1) 0 rfl (wkC Q ax) _ (fun w' h => box_rangeZ ((HBX.out w' h).1)) Tryz.underlying27 rfl size_wk) hS0 ?_
   try simp only [Act.put, List.setIfInBounds_toArray, List.set_cons_zero, List.set_cons_succ]
   refine ytake_6 (v := ?vv77) (by kernel_rfl) (by kernel_rfl) (by kernel_rfl) (fun _ _ _ h => h) (Or.inl ⟨by rfl, ?hy77⟩) hS0 ?_
   case hy77 =>
    intro wX hSw
    go_simp
    try with_reducible rfl
   try simp only [Act.put, List.setIfInBounds_toArray, List.set_cons_zero, List.set_cons_succ]
   refine ytake_7 (v := ?vv78) (by kernel_rfl) (by kernel_rfl) (by kernel_rfl) (fun _ _ _ h => h) (Or.inl ⟨by rfl, ?hy78⟩) hS0 ?_
   case hy78 =>
    intro wX hSw
    go_simp
    try with_reducible rfl
   try simp only [Act.put, List.setIfInBounds_toArray, List.set_cons_zero, List.set_cons_succ]
   refine ytake_8 (v := ?vv79) (by kernel_rfl) (by kernel_rfl) (by kernel_rfl) (fun _ _ _ h => h) (Or.inl ⟨by rfl, ?hy79⟩) hS0 ?_
   case hy79 =>
    intro wX hSw
    go_simp
    try with_reducible rfl
   try simp only [Act.put, List.setIfInBounds_toArray, List.set_cons_zero, List.set_cons_succ]
   refine ytake_9 (by kernel_rfl) (by kernel_rfl) (by kernel_rfl) (fun _ _ _ h => h) (yieldsIf_load_mid (by rfl) 27 _ rfl s 0 rfl (wkC Q asx) _ (fun w' h => box_rangeZ ((HBX.out w' h).2.1)) Tryz.underlying27 rfl size_wk) hS0 ?_
   try simp only [Act.put, List.setIfInBounds_toArray, List.set_cons_zero, List.set_cons_succ]
   refine yready_10 (by kernel_rfl) ?_
   intro KQ hK
   rw [if_pos (by rfl)]
   try go_simp
   refine (reqWk_is true Q Q ax asx _ (by simp) ((HIQ.out _ hS0).1) ((HIQ.out _ hS0).2.1) (HGQ.out.few1 (by omega)) (HGQ.out.few1 (by omega))).mono ?_
   rintro e w10 ⟨rfl, hc10⟩
   have hS10 : Below w9.heap.size w9 w10 := hS0.trans (hc10.mono hS0.size)
   refine hK.out _ _ hS10 (fun _ => ?_)
   clear hK KQ
   try simp only [Act.put, List.setIfInBounds_toArray, List.set_cons_zero, List.set_cons_succ]
   refine ytake_11 (v := ?vv80) (by kernel_rfl) (by kernel_rfl) (by kernel_rfl) (fun _ _ _ h => h) (Or.inl ⟨by rfl, ?hy80⟩) hS10 ?_
   case hy80 =>
    intro wX hSw
    go_simp
    try with_reducible rfl
   try simp only [Act.put, List.setIfInBounds_toArray, List.set_cons_zero, List.set_cons_succ]
   refine ytake_12 (v := ?vv81) (by kernel_rfl) (by kernel_rfl) (by kernel_rfl) (fun _ _ _ h => h) (Or.inl ⟨by rfl, ?hy81⟩) hS10 ?_
   case hy81 =>
    intro wX hSw
    go_simp
    try with_reducible rfl
   try simp only [Act.put, List.setIfInBounds_toArray, List.set_cons_zero, List.set_cons_succ]
   refine ytake_13 (v := ?vv82) (by kernel_rfl) (by kernel_rfl) (by kernel_rfl) (fun _ _ _ h => h) (Or.inl ⟨by rfl, ?hy82⟩) hS10 ?_
   case hy82 =>
    intro wX hSw
    go_simp
    try with_reducible rfl
   try simp only [Act.put, List.setIfInBounds_toArray, List.set_cons_zero, List.set_cons_succ]
   refine ytake_14 (v := ?vv83) (by kernel_rfl) (by kernel_rfl) (by kernel_rfl) (fun _ _ _ h => h) (Or.inl ⟨by rfl, ?hy83⟩) hS10 ?_
   case hy83 =>
    intro wX hSw
    go_simp
    try with_reducible rfl
   try simp only [Act.put, List.setIfInBounds_toArray, List.set_cons_zero, List.set_cons_succ]
   refine ytake_15 (v := ?vv84) (by kernel_rfl) (by kernel_rfl) (by kernel_rfl) (fun _ _ _ h => h) (Or.inl ⟨by rfl, ?hy84⟩) hS10 ?_
   case hy84 =>
    intro wX hSw
    go_simp
    try with_reducible rfl
   try simp only [Act.put, List.setIfInBounds_toArray, List.set_cons_zero, List.set_cons_succ]
   refine ytake_16 (v := ?vv85) (by kernel_rfl) (by kernel_rfl) (by kernel_rfl) (fun _ _ _ h => h) (Or.inl ⟨by rfl, ?hy85⟩) hS10 ?_
   case hy85 =>
    intro wX hSw
    go_simp
    try with_reducible rfl
   try simp only [Act.put, List.setIfInBounds_toArray, List.set_cons_zero, List.set_cons_succ]
   refine ytake_17 (v := ?vv86) (by kernel_rfl) (by kernel_rfl) (by kernel_rfl) (fun _ _ _ h => h) (Or.inl ⟨by rfl, ?hy86⟩) hS10 ?_
   case hy86 =>
    intro wX hSw
    have k9 := (HBX.out _ hSw).2.2.2.2
    go_simp
    try with_reducible rfl
   try simp only [Act.put, List.setIfInBounds_toArray, List.set_cons_zero, List.set_cons_succ]
   refine yready_18 (by kernel_rfl) ?_
   intro KQ hK
   rw [if_pos (by rfl)]
   try go_simp
   refine (reqMessages_is true ox os msx mss w10 (by rw [HEX.out, HS9.out.eO]; simp) (HIQ.out _ hS10).2.2.2.2.1 (HIQ.out _ hS10).2.2.2.2.2 HLS.out.1 HLS.out.2 HLY.out HLT.out).mono ?_
   rintro e w11 ⟨rfl, hc18⟩
   have hS11 : Below w9.heap.size w9 w11 := hS10.trans (hc18.mono hS10.size)
   refine hK.out _ _ hS11 (fun _ => ?_)
   clear hK KQ
   try simp only [Act.put, List.setIfInBounds_toArray, List.set_cons_zero, List.set_cons_succ]
   refine ytake_19 (v := ?vv87) (by kernel_rfl) (by kernel_rfl) (by kernel_rfl) (fun _ _ _ h => h) (Or.inl ⟨by rfl, ?hy87⟩) hS11 ?_
   case hy87 =>
    intro wX hSw
    go_simp
    try with_reducible rfl
   try simp only [Act.put, List.setIfInBounds_toArray, List.set_cons_zero, List.set_cons_succ]
   refine ytake_20 (v := ?vv88) (by kernel_rfl) (by kernel_rfl) (by kernel_rfl) (fun _ _ _ h => h) (Or.inl ⟨by rfl, ?hy88⟩) hS11 ?_
   case hy88 =>
    intro wX hSw
    go_simp
    try with_reducible rfl
   try simp only [Act.put, List.setIfInBounds_toArray, List.set_cons_zero, List.set_cons_succ]
   refine ytake_21 (by kernel_rfl) (by kernel_rfl) (by kernel_rfl) (fun _ _ _ h => h) (yieldsIf_load_mid (by rfl) 27 _ rfl q6 0 rfl (wkC P a6) _ (fun w' h => box_rangeZ ((HBX.out w' h).2.2.1)) Tryz.underlying27 rfl size_wk) hS11 ?_
   try simp only [Act.put, List.setIfInBounds_toArray, List.set_cons_zero, List.set_cons_succ]
   refine ytake_22 (by kernel_rfl) (by kernel_rfl) (by kernel_rfl) (fun _ _ _ h => h) (yieldsIf_load_mid (by rfl) 27 _ rfl g 0 rfl (wkC P a) _ (fun w' h => box_rangeZ ((HBX.out w' h).2.2.2.1)) Tryz.underlying27 rfl size_wk) hS11 ?_
   try simp only [Act.put, List.setIfInBounds_toArray, List.set_cons_zero, List.set_cons_succ]
   refine yready_23 (by kernel_rfl) ?_
   intro KQ hK
   rw [if_pos (by rfl)]
   try go_simp
   refine (reqWk_is true P P a6 a _ (by simp) ((HIQ.out _ hS11).2.2.1) ((HIQ.out _ hS11).2.2.2.1) (HGR.out.few1 (by omega)) (HGR.out.few1 (by omega))).mono ?_
   rintro e w12 ⟨rfl, hc23⟩
   have hS12 : Below w9.heap.size w9 w12 := hS11.trans (hc23.mono hS11.size)
   refine hK.out _ _ hS12 (fun _ => ?_)
   clear hK KQ
   try simp only [Act.put, List.setIfInBounds_toArray, List.set_cons_zero, List.set_cons_succ]
   refine ytake_24 (v := ?vv89) (by kernel_rfl) (by kernel_rfl) (by kernel_rfl) (fun _ _ _ h => h) (Or.inl ⟨by rfl, ?hy89⟩) hS12 ?_
   case hy89 =>
    intro wX hSw
    go_simp
    try with_reducible rfl
   try simp only [Act.put, List.setIfInBounds_toArray, List.set_cons_zero, List.set_cons_succ]
   refine ytake_25 (v := ?vv90) (by kernel_rfl) (by kernel_rfl) (by kernel_rfl) (fun _ _ _ h => h) (Or.inl ⟨by rfl, ?hy90⟩) hS12 ?_
   case hy90 =>
    intro wX hSw
    go_simp
    try with_reducible rfl
   try simp only [Act.put, List.setIfInBounds_toArray, List.set_cons_zero, List.set_cons_succ]
   refine wpAnyH_done (by kernel_rfl) ?_ _
   have hb12 : Below w3.heap.size w3 w12 := HB9.out.trans (hS12.mono HB9.out.size)
   have HB12' := Lib.hid hb12
   have HB912 := Lib.hid hS12
   have hz12 := hS12.size
   have HNX12 : Hid (WNew C w12 Q ax) := HNX.out.below hS12
   have HOX12 : Hid (RowOwn KM C w12 ox msx) := HOX.out.below hS12
   have HSPW := Lib.hid (spoilWk_far C Q ax w12 HNX12.out (HGQ.out.few4 (by omega)))
   have HXB12 := Lib.hid (HBX.out w12 hS12).1
   clear hS0 hS10 hS11 hS12 hb12
   go_upto_region 55 with (first
    | (refine wpList_load_box rfl 27 _ rfl (s0 + 1) rfl (wkC Q ax) (HXB12.out) _ Tryz.underlying27 rfl size_wk ?_)
    | (go_at_call 68; refine HSPW.out.mono ?_; rintro e w13 ⟨rfl, ht13⟩))
   have ht13' : Touch (fun j => ax.owns j ∨ ax.O.v.ownBlock = some j) w12 w13 := ht13
   have hz13 := ht13'.size
   have HB1213 : Hid (Below C w12 w13) := ht13'.below (fun j hj => by
    rcases hj with hj | hj
    ·exact (HNX12.out.core.lt hj).2
    ·exact (own_lt HNX12.out.open_ hj).2) (by omega)
   have hrow13 : RowOwn KM C w13 ox msx := spoilt_row HNX12.out HOX12.out HAPX.out ht13'
   have HSPM := Lib.hid (spoilMsgs_any C ox _ w13 (hrow13.rowM (fun y hy => HLY.out y hy)) (by rw [List.length_map]; exact HLS.out.1) (by omega))
   clear ht13 ht13' hrow13
   unfold Ad.v at HSPM
   go_upto_region 56 with (go_at_call 58; refine HSPM.out.mono ?_; rintro e w14 ⟨rfl, hb14⟩)
   have hz14 := hb14.size
   have hb1214 : Below C w12 w14 := HB1213.out.trans hb14
   have hb9 : Below C w9 w14 := (HB912.out.mono (by omega)).trans hb1214
   have hb314 : Below w3.heap.size w3 w14 := HB9.out.trans (hb9.mono (by omega))
   have HB914 := Lib.hid hb9
   have HB14 := Lib.hid hb314
   clear hb14 hb1214 hb9 hb314 HSPM HSPW
   have HLX : Hid (∀ wX, Below w14.heap.size w14 wX → LateZ w wX P a a6 x g q6) := by
    show ∀ wX, _
    exact fun wX hX => HL.out wX (HB14.out.trans (hX.mono HB14.out.size))
   have hlx := HLX.out w14 (Below.refl _ _)
   have HBT : Hid (∀ wX, Touch (fun j => j = g + 2) w14 wX → Box wX g (wkC P a) ∧ Box wX q6 (wkC P a6)) := by
    show ∀ wX, _
    exact fun wX hX => ⟨hlx.b0.touch hX (by omega), hlx.b6.touch hX (by omega)⟩
   clear hlx
   go_upto_region 57 with fail
   have hB0 : Below w14.heap.size w14 w14.drew := (Below.refl _ _).drew
   have hS0 : Touch (fun j => j = g + 2) w14 w14.drew := Touch.of hB0
   refine wp_region_held_drew (S := fun w' => Touch (fun j => j = g + 2) w14 w') (by kernel_rfl) hS0 (fun _ => ?_)
   refine ytake_0 (by kernel_rfl) (by kernel_rfl) (by kernel_rfl) (fun _ _ _ h => h) (yieldsIf_load_mid (by rfl) 27 _ rfl g 0 rfl (wkC P a) _ (fun w' h => box_rangeZ ((HBT.out w' h).1)) Tryz.underlying27 rfl size_wk) hS0 ?_
   try simp only [Act.put, List.setIfInBounds_toArray, List.set_cons_zero, List.set_cons_succ]
   refine ytake_1 (v := ?vv91) (by kernel_rfl) (by kernel_rfl) (by kernel_rfl) (fun _ _ _ h => h) (Or.inl ⟨by rfl, ?hy91⟩) hS0 ?_
   case hy91 =>
    intro wX hSw
    go_simp
    try with_reducible rfl
   try simp only [Act.put, List.setIfInBounds_toArray, List.set_cons_zero, List.set_cons_succ]
   refine ytake_2 (v := ?vv92) (by kernel_rfl) (by kernel_rfl) (by kernel_rfl) (fun _ _ _ h => h) (Or.inl ⟨by rfl, ?hy92⟩) hS0 ?_
   case hy92 =>
    intro wX hSw
    go_simp
    try with_reducible rfl
   try simp only [Act.put, List.setIfInBounds_toArray, List.set_cons_zero, List.set_cons_succ]
   refine ytake_3 (by kernel_rfl) (by kernel_rfl) (by kernel_rfl) (fun _ _ _ h => h) (yieldsIf_load_mid (by rfl) 27 _ rfl q6 0 rfl (wkC P a6) _ (fun w' h => box_rangeZ ((HBT.out w' h).2)) Tryz.underlying27 rfl size_wk) hS0 ?_
   try simp only [Act.put, List.setIfInBounds_toArray, List.set_cons_zero, List.set_cons_succ]
   refine ytake_4 (by kernel_rfl) (by kernel_rfl) (by kernel_rfl) (fun _ _ _ h => h) (yieldsIf_load_mid (by rfl) 27 _ rfl g 0 rfl (wkC P a) _ (fun w' h => box_rangeZ ((HBT.out w' h).1)) Tryz.underlying27 rfl size_wk) hS0 ?_
   try simp only [Act.put, List.setIfInBounds_toArray, List.set_cons_zero, List.set_cons_succ]
   refine yready_5 (by kernel_rfl) ?_
   intro KQ hK
   rw [if_pos (by rfl)]
   try go_simp
   refine (reqWk_is true P P a6 a _ (by simp) (HLX.out _ hB0).in6 (HLX.out _ hB0).inn (HGR.out.few1 (by omega)) (HGR.out.few1 (by omega))).mono ?_
   rintro e w15 ⟨rfl, hc15⟩
   have hB15 : Below w14.heap.size w14 w15 := hB0.trans (hc15.mono hB0.size)
   have hS15 : Touch (fun j => j = g + 2) w14 w15 := Touch.of hB15
   refine hK.out _ _ hS15 (fun _ => ?_)
   clear hK KQ
   try simp only [Act.put, List.setIfInBounds_toArray, List.set_cons_zero, List.set_cons_succ]
   refine ytake_6 (v := ?vv93) (by kernel_rfl) (by kernel_rfl) (by kernel_rfl) (fun _ _ _ h => h) (Or.inl ⟨by rfl, ?hy93⟩) hS15 ?_
   case hy93 =>
    intro wX hSw
    go_simp
    try with_reducible rfl
   try simp only [Act.put, List.setIfInBounds_toArray, List.set_cons_zero, List.set_cons_succ]
   have hlz := HLX.out w15 hB15
   refine yready_7 (by kernel_rfl) ?_
   intro KQ hK
   rw [if_pos (by rfl)]
   refine wp_store_boxY 27 _ _ rfl (g + 2) 0 (wkC P a) zeroC (wkC P a) rfl rfl hlz.b2 (show 0 + 9 ≤ 9 by decide) rfl size_wk rfl ?_
   intro w16 bx16 T16
   have t16 := T16 (fun j => j = g + 2) rfl
   have hS16 : Touch (fun j => j = g + 2) w14 w16 := hS15.on t16
   refine hK.out _ _ hS16 (fun _ => ?_)
   clear hK KQ
   simp only [Act.put]
   refine ytake_8 (v := ?vv94) (by kernel_rfl) (by kernel_rfl) (by kernel_rfl) (fun _ _ _ h => h) (Or.inl ⟨by rfl, ?hy94⟩) hS16 ?_
   case hy94 =>
    intro wX hSw
    go_simp
    try with_reducible rfl
   try simp only [Act.put, List.setIfInBounds_toArray, List.set_cons_zero, List.set_cons_succ]
   refine wpAnyH_done (by kernel_rfl) ?_ _
   have hres : Below w.heap.size w w16 := hlz.bel.trans (t16.below (fun j hj => by have := HG.out; omega) hlz.bel.size)
   have HRES := Lib.hid hres
   have HWI : Hid (WIn w16 P a) := by
    show WIn _ _ _
    exact HINW.out.below hres
   have HBR := Lib.hid bx16
   clear hres hlz t16 T16 bx16 hB0 hS0 hB15 hS15 hS16
   go_wp2_with fail
   refine bodyPost_ret (v := .tuple #[wkV P a, .bool true]) (sres _ _ (g + 2) _ _ true rfl rfl HBR.out) rfl ⟨P, a, rfl, HWI.out, HGR.out.more (Nat.le_succ k), HRES.out⟩
 | false =>
  obtain ⟨w6, hw6⟩ : ∃ z, z = w5 := ⟨_, rfl⟩
  have HB56 : Hid (Below w5.heap.size w5 w6) := by show Below _ _ _; rw [hw6]; exact Below.refl _ _
  have HB6 : Hid (Below w3.heap.size w3 w6) := HB5.out.trans (HB56.out.mono HB5.out.size)
  have HL6 := Lib.hid (HL.out w6 HB6.out)
  rw [← hw6]
  clear hw6
  have HKT : Hid (Calls Tryz.prog 52 #[wkV P a6, .int .i64 x.D] w6 (Ret3 zeroW [] 1 w6)) := by
   show Calls _ _ _ _ _
   have hkt := sealed_any P a6 x.D w6 HL6.out.in6 (HGR.out.few (by omega))
   rw [ifMay_no HBM.out, orW_no (by decide), orO_no (by decide)] at hkt
   exact hkt
  have kd6 := (HL6.out.b1.2 1 _ rfl).1
  go_upto_region 51 with (first
   | (refine wpList_load_box rfl 27 _ rfl q6 rfl (wkC P a6) (HL6.out.b6) _ Tryz.underlying27 rfl size_wk ?_)
   | (go_at_call 52; refine (HKT.out).mono ?_; rintro e w7 ⟨ax, ox, msx, rfl, hnx, hox, hex, hap, hb7⟩)
   | (refine wpList_store_box rfl 27 _ _ rfl (s0 + 1) 0 (wkC zeroW ax) (zeroC) (wkC zeroW ax) rfl rfl (((HPS.out.bq.below HB56.out (by omega)).below hb7 (by have := HB56.out.size; omega))) (show 0 + 9 ≤ 9 by decide) rfl size_wk rfl ?_; intro w8 bx8 T8))
  clear kd6
  have t8 := T8 (fun j => j = s0 + 1) rfl
  have hz7 := hb7.size
  have hz8 := t8.size
  have hz56 := HB56.out.size
  have hnx8 := hnx.touch t8 (fun j hj ho => by have := (hnx.core.lt ho).2; omega) (fun j hj ho => by have := (own_lt hnx.open_ ho).2; omega)
  have hox8 := hox.touch t8 (fun j hj hf => by have := (own_lt hox.row hj).2; omega) (fun y hy j hj hf => by have := (own_lt (hox.sub y hy).1 hj).2; omega)
  have hb8 : Below w3.heap.size w3 w8 := (HB6.out.trans (hb7.mono (by omega))).trans (t8.below (fun j hj => by omega) (by omega))
  have HNX8 := Lib.hid hnx8
  have HOX8 := Lib.hid hox8
  have HEX0 : Hid (msx.map Prod.fst = []) := hex
  have HAPX : Hid (∀ y ∈ msx, ∀ j, y.2.v.ownBlock = some j → ax.O.v.ownBlock ≠ some j ∧ ∀ z ∈ ax.hs, z.2.v.ownBlock ≠ some j) := by show ∀ y ∈ msx, _; exact hap
  have HBX8 : Hid (Box w8 (s0 + 1) (wkC zeroW ax)) := bx8
  have HB8 := Lib.hid hb8
  have h68 : w6.heap.size ≤ w8.heap.size := by omega
  clear hnx hox hex hap hb7 bx8 t8 T8 hnx8 hox8 hb8
  go_upto_region 53 with fail
  obtain ⟨w9, hw9⟩ : ∃ z, z = w8.alloc (.cells #[.int .i64 0, .int .i64 0, .int .i64 0, .slice none 0 0, .int .i64 0, .int .i64 0, .slice none 0 0, .slice none 0 0, .slice none 0 0, .slice none 0 0] 75) := ⟨_, rfl⟩
  obtain ⟨s, hs⟩ : ∃ z, z = w8.heap.size := ⟨_, rfl⟩
  have hst9 : ∃ (B : Nat) (asx : WkA) (os : Ad) (mss : List (OtD × Ad)), StAt s B w9 zeroW asx [] os mss := ⟨w8.heap.size, zeroWA, noAd, [], by rw [hw9, hs]; exact st_newZ (wNew_zero _ w8) (Nat.le_refl _)⟩
  rw [← hw9, ← hs]
  have hb89 : Below w8.heap.size w8 w9 := by rw [hw9]; exact (Below.refl _ _).alloc (Nat.le_refl _) _
  obtain ⟨B, asx, os, mss, hst9⟩ := hst9
  obtain ⟨C, hC⟩ : ∃ C, C = w6.heap.size := ⟨_, rfl⟩
  obtain ⟨Q, hQ⟩ : ∃ Q, Q = zeroW := ⟨_, rfl⟩
  obtain ⟨l, hl⟩ : ∃ l : List OtD, l = [] := ⟨_, rfl⟩
  have hz9 := hb89.size
  have hC9 : C ≤ w9.heap.size := by omega
  have HS9 : Hid (StAt s B w9 Q asx l os mss) := by show StAt _ _ _ _ _ _ _ _; rw [hQ, hl]; exact hst9
  have HNX : Hid (WNew C w9 Q ax) := by show WNew _ _ _ _; rw [hC, hQ]; exact HNX8.out.below hb89
  have HOX : Hid (RowOwn KM C w9 ox msx) := by show RowOwn _ _ _ _ _; rw [hC]; exact HOX8.out.below hb89
  have HEX : Hid (msx.map Prod.fst = l) := by show _ = _; rw [hl]; exact HEX0.out
  have HBXQ : Hid (Box w9 (s0 + 1) (wkC Q ax)) := by show Box _ _ _; rw [hQ]; exact HBX8.out.below hb89 HBX8.out.1
  have HB9 : Hid (Below w3.heap.size w3 w9) := HB8.out.trans (hb89.mono HB8.out.size)
  have HGQ : Hid (Grown (k + 1) Q) := by show Grown _ _; rw [hQ]; exact grown_zero _
  have HSH : Hid (ShortO l) := by show ShortO _; rw [hl]; exact short_none
  have hCs : s0 + 1 < C := by omega
  clear hw9 hs hst9 hb89 hC hQ hl HNX8 HOX8 HEX0 HBX8
  have HBX : Hid (∀ wX, Below w9.heap.size w9 wX → Box wX (s0 + 1) (wkC Q ax) ∧ Box wX s (wkC Q asx) ∧ Box wX q6 (wkC P a6) ∧ Box wX g (wkC P a) ∧ wX.cell? ⟨s, 9, none⟩ = some (.slice os.A os.n os.c)) := by
   show ∀ wX, _
   intro wX hX
   have hl := HL.out wX (HB9.out.trans (hX.mono HB9.out.size))
   have hst := HS9.out.below hX
   exact ⟨HBXQ.out.below hX HBXQ.out.1, hst.wk, hl.b6, hl.b0, (hst.box.2 9 _ rfl).1⟩
  have HIQ : Hid (∀ wX, Below w9.heap.size w9 wX → WIn wX Q ax ∧ WIn wX Q asx ∧ WIn wX P a6 ∧ WIn wX P a ∧ RowIn KM wX ox msx ∧ RowIn KM wX os mss) := by
   show ∀ wX, _
   intro wX hX
   have hl := HL.out wX (HB9.out.trans (hX.mono HB9.out.size))
   have hst := HS9.out.below hX
   exact ⟨(HNX.out.below hX).in_, hst.pg.in_, hl.in6, hl.inn, (HOX.out.below hX).in_, hst.out.in_⟩
  have hls : msx.length ≤ 1000000 ∧ mss.length ≤ 1000000 := ⟨by rw [← List.length_map (f := Prod.fst), HEX.out]; exact HSH.out.1, by rw [HS9.out.lenOZ]; exact HSH.out.1⟩
  have HLS := Lib.hid hls
  have HLY : Hid (∀ y ∈ msx, KM.len y.1 ≤ 1000000) := by
   show ∀ y ∈ msx, _
   exact fun y hy => Nat.le_trans (HSH.out.2 y.1 (by rw [← HEX.out]; exact List.mem_map_of_mem hy)) (by decide)
  have HLT : Hid (∀ y ∈ mss, KM.len y.1 ≤ 1000000) := by
   show ∀ y ∈ mss, _
   exact fun y hy => Nat.le_trans (HSH.out.2 y.1 (by rw [← HS9.out.eO]; exact List.mem_map_of_mem hy)) (by decide)
  clear hls
  have hS0 : Below w9.heap.size w9 w9.drew := (Below.refl _ _).drew
  refine wp_region_held_drew (S := fun w' => Below w9.heap.size w9 w') (by kernel_rfl) hS0 (fun _ => ?_)
  refine ytake_0 (v := ?vv95) (by kernel_rfl) (by kernel_rfl) (by kernel_rfl) (fun _ _ _ h => h) (Or.inl ⟨by rfl, ?hy95⟩) hS0 ?_
  case hy95 =>
   intro wX hSw
   go_simp
   try with_reducible rfl
  try simp only [Act.put, List.setIfInBounds_toArray, List.set_cons_zero, List.set_cons_succ]
  refine ytake_2 (v := ?vv96) (by kernel_rfl) (by kernel_rfl) (by kernel_rfl) (fun _ _ _ h => h) (Or.inl ⟨by rfl, ?hy96⟩) hS0 ?_
  case hy96 =>
   intro wX hSw
   go_simp
   try with_reducible rfl
  try simp only [Act.put, List.setIfInBounds_toArray, List.set_cons_zero, List.set_cons_succ]
  refine yready_1 (by kernel_rfl) ?_
  intro KQ hK
  rw [if_pos (by rfl)]
  try go_simp
  refine (num13_any _ _).mono ?_
  rintro e w' ⟨rfl, rfl⟩
  refine hK.out _ _ hS0 (fun _ => ?_)
  clear hK KQ
  try simp only [Act.put, List.setIfInBounds_toArray, List.set_cons_zero, List.set_cons_succ]
  refine ytake_3 (v := ?vv97) (by kernel_rfl) (by kernel_rfl) (by kernel_rfl) (fun _ _ _ h => h) (Or.inl ⟨by rfl, ?hy97⟩) hS0 ?_
  case hy97 =>
   intro wX hSw
   go_simp
   try with_reducible rfl
  try simp only [Act.put, List.setIfInBounds_toArray, List.set_cons_zero, List.set_cons_succ]
  refine ytake_4 (v := ?vv98) (by kernel_rfl) (by kernel_rfl) (by kernel_rfl) (fun _ _ _ h => h) (Or.inl ⟨by rfl, ?hy98⟩) hS0 ?_
  case hy98 =>
   intro wX hSw
   go_simp
   try with_reducible rfl
  try simp only [Act.put, List.setIfInBounds_toArray, List.set_cons_zero, List.set_cons_succ]
  refine ytake_5 (by kernel_rfl) (by kernel_rfl) (by kernel_rfl) (fun _ _ _ h => h) (yieldsIf_load_mid (by rfl) 27 _ rfl (s0 + 1) 0 rfl (wkC Q ax) _ (fun w' h => box_rangeZ ((HBX.out w' h).1)) Tryz.underlying27 rfl size_wk) hS0 ?_
  try simp only [Act.put, List.setIfInBounds_toArray, List.set_cons_zero, List.set_cons_succ]
  refine ytake_6 (v := ?vv99) (by kernel_rfl) (by kernel_rfl) (by kernel_rfl) (fun _ _ _ h => h) (Or.inl ⟨by rfl, ?hy99⟩) hS0 ?_
  case hy99 =>
   intro wX hSw
   go_simp
   try with_reducible rfl
  try simp only [Act.put, List.setIfInBounds_toArray, List.set_cons_zero, List.set_cons_succ]
  refine ytake_7 (v := ?vv100) (by kernel_rfl) (by kernel_rfl) (by kernel_rfl) (fun _ _ _ h => h) (Or.inl ⟨by rfl, ?hy100⟩) hS0 ?_
  case hy100 =>
   intro wX hSw
   go_simp
   try with_reducible rfl
  try simp only [Act.put, List.setIfInBounds_toArray, List.set_cons_zero, List.set_cons_succ]
  refine ytake_8 (v := ?vv101) (by kernel_rfl) (by kernel_rfl) (by kernel_rfl) (fun _ _ _ h => h) (Or.inl ⟨by rfl, ?hy101⟩) hS0 ?_
  case hy101 =>
   intro wX hSw
   go_simp
   try with_reducible rfl
  try simp only [Act.put, List.setIfInBounds_toArray, List.set_cons_zero, List.set_cons_succ]
  refine ytake_9 (by kernel_rfl) (by kernel_rfl) (by kernel_rfl) (fun _ _ _ h => h) (yieldsIf_load_mid (by rfl) 27 _ rfl s 0 rfl (wkC Q asx) _ (fun w' h => box_rangeZ ((HBX.out w' h).2.1)) Tryz.underlying27 rfl size_wk) hS0 ?_
  try simp only [Act.put, List.setIfInBounds_toArray, List.set_cons_zero, List.set_cons_succ]
  refine yready_10 (by kernel_rfl) ?_
  intro KQ hK
  rw [if_pos (by rfl)]
  try go_simp
  refine (reqWk_is true Q Q ax asx _ (by simp) ((HIQ.out _ hS0).1) ((HIQ.out _ hS0).2.1) (HGQ.out.few1 (by omega)) (HGQ.out.few1 (by omega))).mono ?_
  rintro e w10 ⟨rfl, hc10⟩
  have hS10 : Below w9.heap.size w9 w10 := hS0.trans (hc10.mono hS0.size)
  refine hK.out _ _ hS10 (fun _ => ?_)
  clear hK KQ
  try simp only [Act.put, List.setIfInBounds_toArray, List.set_cons_zero, List.set_cons_succ]
  refine ytake_11 (v := ?vv102) (by kernel_rfl) (by kernel_rfl) (by kernel_rfl) (fun _ _ _ h => h) (Or.inl ⟨by rfl, ?hy102⟩) hS10 ?_
  case hy102 =>
   intro wX hSw
   go_simp
   try with_reducible rfl
  try simp only [Act.put, List.setIfInBounds_toArray, List.set_cons_zero, List.set_cons_succ]
  refine ytake_12 (v := ?vv103) (by kernel_rfl) (by kernel_rfl) (by kernel_rfl) (fun _ _ _ h => h) (Or.inl ⟨by rfl, ?hy103⟩) hS10 ?_
  case hy103 =>
   intro wX hSw
   go_simp
   try with_reducible rfl
  try simp only [Act.put, List.setIfInBounds_toArray, List.set_cons_zero, List.set_cons_succ]
  refine ytake_13 (v := ?vv104) (by kernel_rfl) (by kernel_rfl) (by kernel_rfl) (fun _ _ _ h => h) (Or.inl ⟨by rfl, ?hy104⟩) hS10 ?_
  case hy104 =>
   intro wX hSw
   go_simp
   try with_reducible rfl
  try simp only [Act.put, List.setIfInBounds_toArray, List.set_cons_zero, List.set_cons_succ]
  refine ytake_14 (v := ?vv105) (by kernel_rfl) (by kernel_rfl) (by kernel_rfl) (fun _ _ _ h => h) (Or.inl ⟨by rfl, ?hy105⟩) hS10 ?_
  case hy105 =>
   intro wX hSw
   go_simp
   try with_reducible rfl
  try simp only [Act.put, List.setIfInBounds_toArray, List.set_cons_zero, List.set_cons_succ]
  refine ytake_15 (v := ?vv106) (by kernel_rfl) (by kernel_rfl) (by kernel_rfl) (fun _ _ _ h => h) (Or.inl ⟨by rfl, ?hy106⟩) hS10 ?_
  case hy106 =>
   intro wX hSw
   go_simp
   try with_reducible rfl
  try simp only [Act.put, List.setIfInBounds_toArray, List.set_cons_zero, List.set_cons_succ]
  refine ytake_16 (v := ?vv107) (by kernel_rfl) (by kernel_rfl) (by kernel_rfl) (fun _ _ _ h => h) (Or.inl ⟨by rfl, ?hy107⟩) hS10 ?_
  case hy107 =>
   intro wX hSw
   go_simp
   try with_reducible rfl
  try simp only [Act.put, List.setIfInBounds_toArray, List.set_cons_zero, List.set_cons_succ]
  refine ytake_17 (v := ?vv108) (by kernel_rfl) (by kernel_rfl) (by kernel_rfl) (fun _ _ _ h => h) (Or.inl ⟨by rfl, ?hy108⟩) hS10 ?_
  case hy108 =>
   intro wX hSw
   have k9 := (HBX.out _ hSw).2.2.2.2
   go_simp
   try with_reducible rfl
  try simp only [Act.put, List.setIfInBounds_toArray, List.set_cons_zero, List.set_cons_succ]
  refine yready_18 (by kernel_rfl) ?_
  intro KQ hK
  rw [if_pos (by rfl)]
  try go_simp
  refine (reqMessages_is true ox os msx mss w10 (by rw [HEX.out, HS9.out.eO]; simp) (HIQ.out _ hS10).2.2.2.2.1 (HIQ.out _ hS10).2.2.2.2.2 HLS.out.1 HLS.out.2 HLY.out HLT.out).mono ?_
  rintro e w11 ⟨rfl, hc18⟩
  have hS11 : Below w9.heap.size w9 w11 := hS10.trans (hc18.mono hS10.size)
  refine hK.out _ _ hS11 (fun _ => ?_)
  clear hK KQ
  try simp only [Act.put, List.setIfInBounds_toArray, List.set_cons_zero, List.set_cons_succ]
  refine ytake_19 (v := ?vv109) (by kernel_rfl) (by kernel_rfl) (by kernel_rfl) (fun _ _ _ h => h) (Or.inl ⟨by rfl, ?hy109⟩) hS11 ?_
  case hy109 =>
   intro wX hSw
   go_simp
   try with_reducible rfl
  try simp only [Act.put, List.setIfInBounds_toArray, List.set_cons_zero, List.set_cons_succ]
  refine ytake_20 (v := ?vv110) (by kernel_rfl) (by kernel_rfl) (by kernel_rfl) (fun _ _ _ h => h) (Or.inl ⟨by rfl, ?hy110⟩) hS11 ?_
  case hy110 =>
   intro wX hSw
   go_simp
   try with_reducible rfl
  try simp only [Act.put, List.setIfInBounds_toArray, List.set_cons_zero, List.set_cons_succ]
  refine ytake_21 (by kernel_rfl) (by kernel_rfl) (by kernel_rfl) (fun _ _ _ h => h) (yieldsIf_load_mid (by rfl) 27 _ rfl q6 0 rfl (wkC P a6) _ (fun w' h => box_rangeZ ((HBX.out w' h).2.2.1)) Tryz.underlying27 rfl size_wk) hS11 ?_
  try simp only [Act.put, List.setIfInBounds_toArray, List.set_cons_zero, List.set_cons_succ]
  refine ytake_22 (by kernel_rfl) (by kernel_rfl) (by kernel_rfl) (fun _ _ _ h => h) (yieldsIf_load_mid (by rfl) 27 _ rfl g 0 rfl (wkC P a) _ (fun w' h => box_rangeZ ((HBX.out w' h).2.2.2.1)) Tryz.underlying27 rfl size_wk) hS11 ?_
  try simp only [Act.put, List.setIfInBounds_toArray, List.set_cons_zero, List.set_cons_succ]
  refine yready_23 (by kernel_rfl) ?_
  intro KQ hK
  rw [if_pos (by rfl)]
  try go_simp
  refine (reqWk_is true P P a6 a _ (by simp) ((HIQ.out _ hS11).2.2.1) ((HIQ.out _ hS11).2.2.2.1) (HGR.out.few1 (by omega)) (HGR.out.few1 (by omega))).mono ?_
  rintro e w12 ⟨rfl, hc23⟩
  have hS12 : Below w9.heap.size w9 w12 := hS11.trans (hc23.mono hS11.size)
  refine hK.out _ _ hS12 (fun _ => ?_)
  clear hK KQ
  try simp only [Act.put, List.setIfInBounds_toArray, List.set_cons_zero, List.set_cons_succ]
  refine ytake_24 (v := ?vv111) (by kernel_rfl) (by kernel_rfl) (by kernel_rfl) (fun _ _ _ h => h) (Or.inl ⟨by rfl, ?hy111⟩) hS12 ?_
  case hy111 =>
   intro wX hSw
   go_simp
   try with_reducible rfl
  try simp only [Act.put, List.setIfInBounds_toArray, List.set_cons_zero, List.set_cons_succ]
  refine ytake_25 (v := ?vv112) (by kernel_rfl) (by kernel_rfl) (by kernel_rfl) (fun _ _ _ h => h) (Or.inl ⟨by rfl, ?hy112⟩) hS12 ?_
  case hy112 =>
   intro wX hSw
   go_simp
   try with_reducible rfl
  try simp only [Act.put, List.setIfInBounds_toArray, List.set_cons_zero, List.set_cons_succ]
  refine wpAnyH_done (by kernel_rfl) ?_ _
  have hb12 : Below w3.heap.size w3 w12 := HB9.out.trans (hS12.mono HB9.out.size)
  have HB12' := Lib.hid hb12
  have HB912 := Lib.hid hS12
  have hz12 := hS12.size
  have HNX12 : Hid (WNew C w12 Q ax) := HNX.out.below hS12
  have HOX12 : Hid (RowOwn KM C w12 ox msx) := HOX.out.below hS12
  have HSPW := Lib.hid (spoilWk_far C Q ax w12 HNX12.out (HGQ.out.few4 (by omega)))
  have HXB12 := Lib.hid (HBX.out w12 hS12).1
  clear hS0 hS10 hS11 hS12 hb12
  go_upto_region 55 with (first
   | (refine wpList_load_box rfl 27 _ rfl (s0 + 1) rfl (wkC Q ax) (HXB12.out) _ Tryz.underlying27 rfl size_wk ?_)
   | (go_at_call 68; refine HSPW.out.mono ?_; rintro e w13 ⟨rfl, ht13⟩))
  have ht13' : Touch (fun j => ax.owns j ∨ ax.O.v.ownBlock = some j) w12 w13 := ht13
  have hz13 := ht13'.size
  have HB1213 : Hid (Below C w12 w13) := ht13'.below (fun j hj => by
   rcases hj with hj | hj
   ·exact (HNX12.out.core.lt hj).2
   ·exact (own_lt HNX12.out.open_ hj).2) (by omega)
  have hrow13 : RowOwn KM C w13 ox msx := spoilt_row HNX12.out HOX12.out HAPX.out ht13'
  have HSPM := Lib.hid (spoilMsgs_any C ox _ w13 (hrow13.rowM (fun y hy => HLY.out y hy)) (by rw [List.length_map]; exact HLS.out.1) (by omega))
  clear ht13 ht13' hrow13
  unfold Ad.v at HSPM
  go_upto_region 56 with (go_at_call 58; refine HSPM.out.mono ?_; rintro e w14 ⟨rfl, hb14⟩)
  have hz14 := hb14.size
  have hb1214 : Below C w12 w14 := HB1213.out.trans hb14
  have hb9 : Below C w9 w14 := (HB912.out.mono (by omega)).trans hb1214
  have hb314 : Below w3.heap.size w3 w14 := HB9.out.trans (hb9.mono (by omega))
  have HB914 := Lib.hid hb9
  have HB14 := Lib.hid hb314
  clear hb14 hb1214 hb9 hb314 HSPM HSPW
  have HLX : Hid (∀ wX, Below w14.heap.size w14 wX → LateZ w wX P a a6 x g q6) := by
   show ∀ wX, _
   exact fun wX hX => HL.out wX (HB14.out.trans (hX.mono HB14.out.size))
  have hlx := HLX.out w14 (Below.refl _ _)
  have HBT : Hid (∀ wX, Touch (fun j => j = g + 2) w14 wX → Box wX g (wkC P a) ∧ Box wX q6 (wkC P a6)) := by
   show ∀ wX, _
   exact fun wX hX => ⟨hlx.b0.touch hX (by omega), hlx.b6.touch hX (by omega)⟩
  clear hlx
  go_upto_region 57 with fail
  have hB0 : Below w14.heap.size w14 w14.drew := (Below.refl _ _).drew
  have hS0 : Touch (fun j => j = g + 2) w14 w14.drew := Touch.of hB0
  refine wp_region_held_drew (S := fun w' => Touch (fun j => j = g + 2) w14 w') (by kernel_rfl) hS0 (fun _ => ?_)
  refine ytake_0 (by kernel_rfl) (by kernel_rfl) (by kernel_rfl) (fun _ _ _ h => h) (yieldsIf_load_mid (by rfl) 27 _ rfl g 0 rfl (wkC P a) _ (fun w' h => box_rangeZ ((HBT.out w' h).1)) Tryz.underlying27 rfl size_wk) hS0 ?_
  try simp only [Act.put, List.setIfInBounds_toArray, List.set_cons_zero, List.set_cons_succ]
  refine ytake_1 (v := ?vv113) (by kernel_rfl) (by kernel_rfl) (by kernel_rfl) (fun _ _ _ h => h) (Or.inl ⟨by rfl, ?hy113⟩) hS0 ?_
  case hy113 =>
   intro wX hSw
   go_simp
   try with_reducible rfl
  try simp only [Act.put, List.setIfInBounds_toArray, List.set_cons_zero, List.set_cons_succ]
  refine ytake_2 (v := ?vv114) (by kernel_rfl) (by kernel_rfl) (by kernel_rfl) (fun _ _ _ h => h) (Or.inl ⟨by rfl, ?hy114⟩) hS0 ?_
  case hy114 =>
   intro wX hSw
   go_simp
   try with_reducible rfl
  try simp only [Act.put, List.setIfInBounds_toArray, List.set_cons_zero, List.set_cons_succ]
  refine ytake_3 (by kernel_rfl) (by kernel_rfl) (by kernel_rfl) (fun _ _ _ h => h) (yieldsIf_load_mid (by rfl) 27 _ rfl q6 0 rfl (wkC P a6) _ (fun w' h => box_rangeZ ((HBT.out w' h).2)) Tryz.underlying27 rfl size_wk) hS0 ?_
  try simp only [Act.put, List.setIfInBounds_toArray, List.set_cons_zero, List.set_cons_succ]
  refine ytake_4 (by kernel_rfl) (by kernel_rfl) (by kernel_rfl) (fun _ _ _ h => h) (yieldsIf_load_mid (by rfl) 27 _ rfl g 0 rfl (wkC P a) _ (fun w' h => box_rangeZ ((HBT.out w' h).1)) Tryz.underlying27 rfl size_wk) hS0 ?_
  try simp only [Act.put, List.setIfInBounds_toArray, List.set_cons_zero, List.set_cons_succ]
  refine yready_5 (by kernel_rfl) ?_
  intro KQ hK
  rw [if_pos (by rfl)]
  try go_simp
  refine (reqWk_is true P P a6 a _ (by simp) (HLX.out _ hB0).in6 (HLX.out _ hB0).inn (HGR.out.few1 (by omega)) (HGR.out.few1 (by omega))).mono ?_
  rintro e w15 ⟨rfl, hc15⟩
  have hB15 : Below w14.heap.size w14 w15 := hB0.trans (hc15.mono hB0.size)
  have hS15 : Touch (fun j => j = g + 2) w14 w15 := Touch.of hB15
  refine hK.out _ _ hS15 (fun _ => ?_)
  clear hK KQ
  try simp only [Act.put, List.setIfInBounds_toArray, List.set_cons_zero, List.set_cons_succ]
  refine ytake_6 (v := ?vv115) (by kernel_rfl) (by kernel_rfl) (by kernel_rfl) (fun _ _ _ h => h) (Or.inl ⟨by rfl, ?hy115⟩) hS15 ?_
  case hy115 =>
   intro wX hSw
   go_simp
   try with_reducible rfl
  try simp only [Act.put, List.setIfInBounds_toArray, List.set_cons_zero, List.set_cons_succ]
  have hlz := HLX.out w15 hB15
  refine yready_7 (by kernel_rfl) ?_
  intro KQ hK
  rw [if_pos (by rfl)]
  refine wp_store_boxY 27 _ _ rfl (g + 2) 0 (wkC P a) zeroC (wkC P a) rfl rfl hlz.b2 (show 0 + 9 ≤ 9 by decide) rfl size_wk rfl ?_
  intro w16 bx16 T16
  have t16 := T16 (fun j => j = g + 2) rfl
  have hS16 : Touch (fun j => j = g + 2) w14 w16 := hS15.on t16
  refine hK.out _ _ hS16 (fun _ => ?_)
  clear hK KQ
  simp only [Act.put]
  refine ytake_8 (v := ?vv116) (by kernel_rfl) (by kernel_rfl) (by kernel_rfl) (fun _ _ _ h => h) (Or.inl ⟨by rfl, ?hy116⟩) hS16 ?_
  case hy116 =>
   intro wX hSw
   go_simp
   try with_reducible rfl
  try simp only [Act.put, List.setIfInBounds_toArray, List.set_cons_zero, List.set_cons_succ]
  refine wpAnyH_done (by kernel_rfl) ?_ _
  have hres : Below w.heap.size w w16 := hlz.bel.trans (t16.below (fun j hj => by have := HG.out; omega) hlz.bel.size)
  have HRES := Lib.hid hres
  have HWI : Hid (WIn w16 P a) := by
   show WIn _ _ _
   exact HINW.out.below hres
  have HBR := Lib.hid bx16
  clear hres hlz t16 T16 bx16 hB0 hS0 hB15 hS15 hS16
  go_wp2_with fail
  refine bodyPost_ret (v := .tuple #[wkV P a, .bool true]) (sres _ _ (g + 2) _ _ true rfl rfl HBR.out) rfl ⟨P, a, rfl, HWI.out, HGR.out.more (Nat.le_succ k), HRES.out⟩

end Go.Proofs.YteepobghdpnabaaGreat
