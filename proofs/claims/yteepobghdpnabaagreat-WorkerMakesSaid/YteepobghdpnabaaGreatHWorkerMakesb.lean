/-
 One act done on both workers: kind 2.
-/
import Derived.WalkKit
import Derived.Below
import Derived.Deep.Draws
import Derived.Deep.AppendLies
import Derived.Lib.AppendStr
import Derived.Lib.ConvBytes
import Derived.Lib.Hide
import Derived.Test.YteepobghdpnabaaGreatRows
import Derived.WalkSpells
import Derived.WalkLawsBesides
import Derived.Deep.QuietTactic
import Derived.BigQuiet
import Derived.LoopTactic
import Derived.Outline
import Derived.Laws.StructEq
import Derived.Deep.RegionHeld3
import Derived.OneCell
import Derived.IntWalk
import Derived.ProofKit
import Derived.OpenShut
import Derived.SliceStrings
import Derived.ChangeSlices
import Derived.Deep.Slices
import Derived.Deep.Fields
import Derived.ChangeOld
import Derived.Carry
import Derived.SizedLaws
import Derived.ScopeJumps
import Derived.Deep.MidRow
import Derived.Deep.DeepCutAuto
import Derived.Deep.CutRange
import Derived.Deep.RegionLaw
import Derived.BigRegion
import Derived.Laws.Rows
import Derived.Laws.CopyRow
import Derived.Lib.AppendZerosOnto
import Derived.Lib.Overlaps
import Derived.StillTailTactics
import Derived.Laws.Externs
import Derived.Deep.CutBlock
import Derived.Maps.OwnSet
import Derived.Great.BuildSlice
import Derived.Maps.AppendAt
import Derived.Lib.MinMax
import Derived.Test.YteepobghdpnabaaGreatKWorkerTicksa
import Derived.Test.YteepobghdpnabaaGreatKWorkerTicksb
import Derived.Test.YteepobghdpnabaaGreatKWorkerTicksc
import Derived.Test.YteepobghdpnabaaGreatKWorkerTicksd
import Derived.Test.YteepobghdpnabaaGreatKWorkerTickse
import Derived.Test.YteepobghdpnabaaGreatKWorkerTicksf
import Derived.Test.YteepobghdpnabaaGreatKWorkerTicksg
import Derived.Test.YteepobghdpnabaaGreatKWorkerTicksh
import Derived.Test.YteepobghdpnabaaGreatKWorkerTicksi
import Derived.Test.YteepobghdpnabaaGreatKWorkerTicksj
import Derived.Test.YteepobghdpnabaaGreatKWorkerTicksk
import Derived.Test.YteepobghdpnabaaGreatKWorkerTicksl
import Derived.Test.YteepobghdpnabaaGreatKWorkerTicksm
import Derived.Test.YteepobghdpnabaaGreatKWorkerTicksn
import Derived.Test.YteepobghdpnabaaGreatKWorkerTickso
import Derived.Test.YteepobghdpnabaaGreatKWorkerTicksp
import Derived.Test.YteepobghdpnabaaGreatKWorkerTicksq
import Derived.Test.YteepobghdpnabaaGreatKWorkerTicksr
import Derived.Test.YteepobghdpnabaaGreatKWorkerTickss
import Derived.Test.YteepobghdpnabaaGreatKWorkerTickst
import Derived.Test.YteepobghdpnabaaGreatKWorkerTicksu
import Derived.Test.YteepobghdpnabaaGreatKWorkerTicksv
import Derived.Test.YteepobghdpnabaaGreatKWorkerTicksw
import Derived.Test.YteepobghdpnabaaGreatKWorkerTicksx
import Derived.Test.YteepobghdpnabaaGreatKWorkerTicksy
import Derived.Test.YteepobghdpnabaaGreatKWorkerTicksz
import Derived.Test.YteepobghdpnabaaGreatKWorkerTicksaa
import Derived.Test.YteepobghdpnabaaGreatKWorkerTicksab
import Derived.Test.YteepobghdpnabaaGreatKWorkerTicksac
import Derived.Test.YteepobghdpnabaaGreatKWorkerTicksad
import Derived.Test.YteepobghdpnabaaGreatKWorkerTicksae
import Derived.Test.YteepobghdpnabaaGreatKWorkerTicksaf
import Derived.Test.YteepobghdpnabaaGreatKWorkerTicksag
import Derived.Test.YteepobghdpnabaaGreatKWorkerTicksah
import Derived.Test.YteepobghdpnabaaGreatKWorkerTicksai
import Derived.Test.YteepobghdpnabaaGreatKWorkerTicksaj
import Derived.Test.YteepobghdpnabaaGreatKWorkerTicksak
import Derived.Test.YteepobghdpnabaaGreatKWorkerTicksal
import Derived.Test.YteepobghdpnabaaGreatKWorkerTicksam
import Derived.Test.YteepobghdpnabaaGreatKWorkerTicksan
import Derived.Test.YteepobghdpnabaaGreatKWorkerTicksao
import Derived.Test.YteepobghdpnabaaGreatKWorkerTicksap
import Derived.Test.YteepobghdpnabaaGreatKWorkerTicksaq
import Derived.Test.YteepobghdpnabaaGreatKWorkerTicksar
import Derived.Test.YteepobghdpnabaaGreatHWorkerMakesa
namespace Go.Proofs.YteepobghdpnabaaGreat
open Go.RowKit

set_option maxRecDepth 100000 in
set_option maxHeartbeats 16000000 in
theorem step_2 (k : Nat) (P : WkD) (a : WkA) (x : ActD) (w : World) (h : WIn w P a) (hgr : Grown k P) (hk : k ≤ 12) (hx : ActIn w x) (hfew : MsgFew 2000 x.b ∧ x.L.length ≤ 12000) (hr : wrap64 ((IntKind.u64.wrap x.Do).tmod ((11 : Nat) : Int)) = ((2 : Nat) : Int)) : Calls Tryz.prog 19 #[wkV P a, actV x] w (StepTo k w) := by
 obtain ⟨g, hg⟩ : ∃ g, g = w.heap.size := ⟨_, rfl⟩
 obtain ⟨wa0, hwa0⟩ : ∃ wa0, wa0 = w.alloc (.cells #[.int .i64 P.i, .int .i64 P.N, .int .i64 P.x, .slice a.O.A a.O.n a.O.c, .int .i64 P.g, .int .i64 P.c, .slice a.W.A a.W.n a.W.c, .slice a.H.A a.H.n a.H.c, .slice a.R.A a.R.n a.R.c] 27) := ⟨_, rfl⟩
 have hs0 : wa0.heap.size = g + 1 := by rw [hwa0]; simp; omega
 have bn0 : Box wa0 (g) (wkC P a) := by rw [hwa0, hg]; exact box_new w (wkC P a) 27
 have hb0 : Below g w wa0 := by rw [hwa0]; exact (Below.refl _ _).alloc (by omega) _
 obtain ⟨wa1, hwa1⟩ : ∃ wa1, wa1 = wa0.alloc (.cells #[.int .i64 x.Do, .int .i64 x.D, .int .i64 x.t.s, .int .i64 x.t.q, .string x.t.k, .string x.t.v, .int .i64 x.m.k, .int .i64 x.m.f, .int .i64 x.m.t, .int .i64 x.m.d, .int .i64 x.m.ba, .int .i64 x.m.bn, .slice x.b.AL x.b.nL x.b.cL, .int .i64 x.m.ha, .int .i64 x.m.hr, .slice x.b.AhB x.b.nhB x.b.chB, .slice x.b.AhP x.b.nhP x.b.chP, .int .i64 x.m.ca, .int .i64 x.m.cr, .slice x.b.AcB x.b.ncB x.b.ccB, .slice x.b.AcP x.b.ncP x.b.ccP, .int .i64 x.m.cd, .slice x.b.AcS x.b.ncS x.b.ccS, .slice x.b.AD x.b.nD x.b.cD, .bool x.fit, .slice x.A x.n x.c] 50) := ⟨_, rfl⟩
 have hs1 : wa1.heap.size = g + 2 := by rw [hwa1]; simp; omega
 have bn1 : Box wa1 (g + 1) (actC x) := by rw [hwa1, ← hs0]; exact box_new wa0 (actC x) 50
 have hb1 : Below g w wa1 := by rw [hwa1]; exact hb0.alloc (by omega) _
 obtain ⟨wa2, hwa2⟩ : ∃ wa2, wa2 = wa1.alloc (.cells #[.int .i64 0, .int .i64 0, .int .i64 0, .slice none 0 0, .int .i64 0, .int .i64 0, .slice none 0 0, .slice none 0 0, .slice none 0 0] 27) := ⟨_, rfl⟩
 have hs2 : wa2.heap.size = g + 3 := by rw [hwa2]; simp; omega
 have bn2 : Box wa2 (g + 2) (zeroC) := by rw [hwa2, ← hs1]; exact box_new wa1 (zeroC) 27
 have hb2 : Below g w wa2 := by rw [hwa2]; exact hb1.alloc (by omega) _
 have HX0 : Hid (Box wa2 (g) (wkC P a)) := ((bn0.below (show Below wa0.heap.size wa0 wa1 by rw [hwa1]; exact (Below.refl _ _).alloc (Nat.le_refl _) _) (by omega)).below (show Below wa1.heap.size wa1 wa2 by rw [hwa2]; exact (Below.refl _ _).alloc (Nat.le_refl _) _) (by omega))
 have HX1 : Hid (Box wa2 (g + 1) (actC x)) := (bn1.below (show Below wa1.heap.size wa1 wa2 by rw [hwa2]; exact (Below.refl _ _).alloc (Nat.le_refl _) _) (by omega))
 have HX2 : Hid (Box wa2 (g + 2) (zeroC)) := bn2
 obtain ⟨w0, hw0⟩ : ∃ w0, w0 = wa2 := ⟨_, rfl⟩
 rw [← hw0] at HX0
 rw [← hw0] at HX1
 rw [← hw0] at HX2
 have hsz0 : w0.heap.size = g + 3 := by rw [hw0]; exact hs2
 have hb0w : Below g w w0 := by rw [hw0]; exact hb2
 have HW0 : Hid (((w.alloc (.cells #[.int .i64 P.i, .int .i64 P.N, .int .i64 P.x, .slice a.O.A a.O.n a.O.c, .int .i64 P.g, .int .i64 P.c, .slice a.W.A a.W.n a.W.c, .slice a.H.A a.H.n a.H.c, .slice a.R.A a.R.n a.R.c] 27)).alloc (.cells #[.int .i64 x.Do, .int .i64 x.D, .int .i64 x.t.s, .int .i64 x.t.q, .string x.t.k, .string x.t.v, .int .i64 x.m.k, .int .i64 x.m.f, .int .i64 x.m.t, .int .i64 x.m.d, .int .i64 x.m.ba, .int .i64 x.m.bn, .slice x.b.AL x.b.nL x.b.cL, .int .i64 x.m.ha, .int .i64 x.m.hr, .slice x.b.AhB x.b.nhB x.b.chB, .slice x.b.AhP x.b.nhP x.b.chP, .int .i64 x.m.ca, .int .i64 x.m.cr, .slice x.b.AcB x.b.ncB x.b.ccB, .slice x.b.AcP x.b.ncP x.b.ccP, .int .i64 x.m.cd, .slice x.b.AcS x.b.ncS x.b.ccS, .slice x.b.AD x.b.nD x.b.cD, .bool x.fit, .slice x.A x.n x.c] 50)).alloc (.cells #[.int .i64 0, .int .i64 0, .int .i64 0, .slice none 0 0, .int .i64 0, .int .i64 0, .slice none 0 0, .slice none 0 0, .slice none 0 0] 27) = w0) := by show ((w.alloc (.cells #[.int .i64 P.i, .int .i64 P.N, .int .i64 P.x, .slice a.O.A a.O.n a.O.c, .int .i64 P.g, .int .i64 P.c, .slice a.W.A a.W.n a.W.c, .slice a.H.A a.H.n a.H.c, .slice a.R.A a.R.n a.R.c] 27)).alloc (.cells #[.int .i64 x.Do, .int .i64 x.D, .int .i64 x.t.s, .int .i64 x.t.q, .string x.t.k, .string x.t.v, .int .i64 x.m.k, .int .i64 x.m.f, .int .i64 x.m.t, .int .i64 x.m.d, .int .i64 x.m.ba, .int .i64 x.m.bn, .slice x.b.AL x.b.nL x.b.cL, .int .i64 x.m.ha, .int .i64 x.m.hr, .slice x.b.AhB x.b.nhB x.b.chB, .slice x.b.AhP x.b.nhP x.b.chP, .int .i64 x.m.ca, .int .i64 x.m.cr, .slice x.b.AcB x.b.ncB x.b.ccB, .slice x.b.AcP x.b.ncP x.b.ccP, .int .i64 x.m.cd, .slice x.b.AcS x.b.ncS x.b.ccS, .slice x.b.AD x.b.nD x.b.cD, .bool x.fit, .slice x.A x.n x.c] 50)).alloc (.cells #[.int .i64 0, .int .i64 0, .int .i64 0, .slice none 0 0, .int .i64 0, .int .i64 0, .slice none 0 0, .slice none 0 0, .slice none 0 0] 27) = w0; rw [hw0, hwa2, hwa1, hwa0]
 have HG : Hid (w.heap.size = g) := hg.symm
 have HS0 := Lib.hid hsz0
 have HB0 := Lib.hid hb0w
 have hl0 : g < w0.heap.size := by omega
 have hl1 : g + 1 < w0.heap.size := by omega
 have hl2 : g + 2 < w0.heap.size := by omega
 have hgw : g ≤ w0.heap.size := by omega
 have hin0 : WIn w0 P a := h.below (by rw [HG.out]; exact HB0.out)
 have hact0 : ActIn w0 x := hx.below (by rw [HG.out]; exact HB0.out)
 have HIN : Hid (∀ wX, Below w0.heap.size w0 wX → WIn wX P a) := by show ∀ wX, _; exact fun wX hX => hin0.below hX
 have HACT : Hid (∀ wX, Below w0.heap.size w0 wX → ActIn wX x) := by show ∀ wX, _; exact fun wX hX => hact0.below hX
 have HGR : Hid (Grown k P) := hgr
 have HFE : Hid (MsgFew 2000 x.b ∧ x.L.length ≤ 12000) := hfew
 have HCP := Lib.hid (rcopyWk_any P a w0 hin0 (hgr.few1 (by omega)))
 obtain ⟨bm, hbm⟩ : ∃ b, b = mayW P := ⟨_, rfl⟩
 have HBM : Hid (mayW P = bm) := hbm.symm
 have HMAY : Hid (∀ wX, Below w0.heap.size w0 wX → Calls Tryz.prog 16 #[wkV P a] wX (Tells wX.heap.size wX (.bool bm))) := by
  show ∀ wX, _
  exact fun wX hX => rmayW_is bm P a wX hbm.symm (hin0.below hX) (hgr.few1 (by omega))
 have HRV : Hid (wrap64 ((IntKind.u64.wrap x.Do).tmod ((11 : Nat) : Int)) = ((2 : Nat) : Int)) := hr
 have HINW : Hid (WIn w P a) := h
 have HTY2 : Hid (w0.heap[g + 2]? = some (.cells zeroC.toArray 27 (0, 0))) := by
  show _ = _
  rw [hw0, hwa2]
  have := heap_alloc_new wa1 (.cells zeroC.toArray 27)
  rw [hs1] at this
  exact this
 clear hg hsz0 hb0w hw0 hwa0 hs0 bn0 hb0 hwa1 hs1 bn1 hb1 hwa2 hs2 bn2 hb2
 clear hin0 hact0 h hx hgr hfew hbm hr
 unfold wkV Ad.v actV
 go_enter Tryz.func19, Tryz.ntmps19
 go_upto_region 1 with fail
 rw [HG.out, HW0.out]
 go_upto_region 2 with (first
  | (refine wpList_load_box rfl 27 _ rfl g rfl (wkC P a) (HX0.out) _ Tryz.underlying27 rfl size_wk ?_)
  | (go_at_call 15; refine HCP.out.mono ?_; rintro e w1 ⟨a6, rfl, hn1, hb1⟩)
  | (refine wpList_store_box rfl 27 _ _ rfl w1.heap.size 0 (wkC P a6) (zeroC) (wkC P a6) rfl rfl (box_new w1 zeroC 27) (show 0 + 9 ≤ 9 by decide) rfl size_wk rfl ?_; intro w2 bx2 T2))
 have t2 := T2 (fun j => j = w1.heap.size) rfl
 obtain ⟨q6, hq6⟩ : ∃ q, q = w1.heap.size := ⟨_, rfl⟩
 rw [← hq6] at bx2 t2 ⊢
 have hz1 := hb1.size
 have hgq6 : g + 2 < q6 := by omega
 have hb12 : Below w1.heap.size w1 w2 := ((Below.refl _ _).alloc (Nat.le_refl _) _).trans (t2.below (fun j hj => by omega) (by simp))
 have hz2 := hb12.size
 have hb02 : Below w0.heap.size w0 w2 := hb1.trans (hb12.mono hz1)
 have HN6 : Hid (WIn w1 P a6) := hn1.in_
 have HB12 := Lib.hid hb12
 have HB02 := Lib.hid hb02
 have HX6 : Hid (Box w2 q6 (wkC P a6)) := bx2
 have hq2 : q6 < w2.heap.size := bx2.1
 have HMY := Lib.hid (HMAY.out w2 hb02)
 clear t2 T2 hq6 hb12 hn1 bx2 hb1 HCP HMAY
 go_upto_region 3 with (first
  | (refine wpList_load_box rfl 27 _ rfl g rfl (wkC P a) (HX0.out.below HB02.out hl0) _ Tryz.underlying27 rfl size_wk ?_)
  | (go_at_call 16; refine HMY.out.mono ?_; rintro e w3 ⟨rfl, hb3⟩))
 have hz3 := hb3.size
 have HB3 : Hid (Below w2.heap.size w2 w3) := hb3
 have hb03 : Below w0.heap.size w0 w3 := hb02.trans (hb3.mono (by omega))
 have HB03 := Lib.hid hb03
 clear hb3 hb03 hb02 HMY
 go_upto_region 7 with fail
 obtain ⟨s0, hs0⟩ : ∃ s, s = w3.heap.size := ⟨_, rfl⟩
 obtain ⟨w5, hw5⟩ : ∃ z, z = (w3.alloc (.cells #[.int .i64 0, .int .i64 0, .int .i64 0, .slice none 0 0, .int .i64 0, .int .i64 0, .slice none 0 0, .slice none 0 0, .slice none 0 0, .slice none 0 0] 75)).alloc (.cells #[.int .i64 0, .int .i64 0, .int .i64 0, .slice none 0 0, .int .i64 0, .int .i64 0, .slice none 0 0, .slice none 0 0, .slice none 0 0] 27) := ⟨_, rfl⟩
 rw [← hw5, ← hs0]
 have HPS : Hid (PreZ w3 w5 s0) := by show PreZ _ _ _; rw [hw5, hs0]; exact preZ_new w3
 have HL : Hid (∀ wX, Below w3.heap.size w3 wX → LateZ w wX P a a6 x g q6) := by
  show ∀ wX, _
  intro wX hX
  have h0X : Below w0.heap.size w0 wX := HB03.out.trans (hX.mono (by omega))
  have h2X : Below w2.heap.size w2 wX := HB3.out.trans (hX.mono hz3)
  exact ⟨HX0.out.below h0X hl0, HX1.out.below h0X hl1, HX2.out.below h0X hl2, HX6.out.below h2X hq2, HIN.out wX h0X, HN6.out.below (HB12.out.trans (h2X.mono hz2)), HACT.out wX h0X, by rw [HG.out]; exact HB0.out.trans (h0X.mono hgw), (h0X.block (g + 2) hl2).trans HTY2.out⟩
 have hz5 : w5.heap.size = s0 + 2 := by rw [hw5, hs0]; simp
 have hgs : g + 2 < s0 := by omega
 have hqs : q6 < s0 := by omega
 have hs3 : w3.heap.size = s0 := hs0.symm
 have HB5 : Hid (Below w3.heap.size w3 w5) := HPS.out.bel
 have HL5 := Lib.hid (HL.out w5 HB5.out)
 have kD := (HL5.out.b1.2 0 _ rfl).1
 clear hw5 hs0 HX0 HX1 HX2 HIN HACT HN6
 go_upto_region 15 with (go_at_call 45; refine (withinG_is x.Do 11 2 _ HRV.out (by omega) (by omega)).mono ?_; rintro e w' ⟨rfl, rfl⟩)
 clear kD HRV
 go_upto_region 16 with fail
 go_upto_region 17 with fail
 obtain ⟨b13, hb13⟩ : ∃ z, z = s0 + 2 := ⟨_, rfl⟩
 obtain ⟨w51, hw51⟩ : ∃ z, z = w5.alloc (.cells #[.int .i64 0, .int .i64 0, .slice none 0 0] 42) := ⟨_, rfl⟩
 rw [← hw51, ← hb13]
 have hbx51 : Box w51 b13 zeroBC := by rw [hw51, hb13, ← hz5]; exact box_new w5 zeroBC 42
 have hb551 : Below w5.heap.size w5 w51 := by rw [hw51]; exact (Below.refl _ _).alloc (Nat.le_refl _) _
 have hz51 := hb551.size
 have h513 : w5.heap.size ≤ b13 := by omega
 have hbl : b13 < w51.heap.size := hbx51.1
 have HBX51 := Lib.hid hbx51
 have HB551 := Lib.hid hb551
 have HB351 : Hid (Below w3.heap.size w3 w51) := HB5.out.trans (hb551.mono HB5.out.size)
 have HL51 := Lib.hid (HL.out w51 HB351.out)
 obtain ⟨E, hE⟩ : ∃ E, E = ifMay P (makeE P) := ⟨_, rfl⟩
 obtain ⟨bi, hbi⟩ : ∃ z, z = (if E = 0 then P.i else 0) := ⟨_, rfl⟩
 obtain ⟨bn, hbn⟩ : ∃ z, z = (if E = 0 then P.x else 0) := ⟨_, rfl⟩
 obtain ⟨Lb, hLb⟩ : ∃ z, z = (if E = 0 then makeL P else []) := ⟨_, rfl⟩
 have HLB : Hid (Lb = if E = 0 then makeL P else []) := hLb
 have HMK : Hid (∀ wX, Below w3.heap.size w3 wX → Calls Tryz.prog 47 #[wkV P a6] wX fun e w' => ∃ oy : Ad, e = .returned (.tuple #[.agg #[.int .i64 bi, .int .i64 bn, oy.v], .int .i64 E]) ∧ w'.ownsRow wX.heap.size 40 4 oy.v oy.n (txs Lb) ∧ Lb.length = oy.n ∧ Below wX.heap.size wX w') := by
  show ∀ wX, _
  intro wX hX
  have h1 := make_any P a6 wX (HL.out wX hX).in6 (HGR.out.few1 (by omega))
  unfold RetB at h1
  rw [← hE, ← hbi, ← hbn, ← hLb] at h1
  exact h1
 have HRM : Hid (bm = true → Calls Tryz.prog 46 #[wkV P a] w51 fun e w' => ∃ oy : Ad, e = .returned (.tuple #[.agg #[.int .i64 bi, .int .i64 bn, oy.v], .int .i64 E]) ∧ w'.ownsRow w51.heap.size 40 4 oy.v oy.n (txs Lb) ∧ Lb.length = oy.n ∧ Below w51.heap.size w51 w') := by
  show _ → _
  intro hm
  have h1 := rmake_any P a w51 HL51.out.inn (HGR.out.few1 (by omega))
  have e : makeE P = E := by rw [hE, ifMay_yes (HBM.out.trans hm)]
  unfold RetB at h1
  rw [e, ← hbi, ← hbn, ← hLb] at h1
  exact h1
 have HNO : Hid (bm = false → E = 1 ∧ bi = 0 ∧ bn = 0 ∧ Lb = []) := by
  show _ → _
  intro hm
  have e : E = 1 := by rw [hE, ifMay_no (HBM.out.trans hm)]
  rw [hbi, hbn, hLb, e]
  exact ⟨rfl, rfl, rfl, rfl⟩
 clear hw51 hb13 hbx51 hb551 hE hbi hbn hLb
 go_upto_if 66 with fail
 go_cut [9] from 66 to 71 (fun v9 wx => v9 = .int .i64 E ∧ ∃ ob : Ad, Hid (Box wx b13 [.int .i64 bi, .int .i64 bn, .slice ob.A ob.n ob.c] ∧ wx.ownsRow w51.heap.size 40 4 ob.v ob.n (txs Lb) ∧ Lb.length = ob.n ∧ Below w5.heap.size w5 wx))
 case first =>
  cases bm with
  | true =>
   have HRM1 := Lib.hid (HRM.out rfl)
   go_wp2_with (first
    | (refine wpList_load_box rfl 27 _ rfl g rfl (wkC P a) (HL51.out.b0) _ Tryz.underlying27 rfl size_wk ?_)
    | (go_at_call 46; refine HRM1.out.mono ?_; rintro e w52 ⟨ob, rfl, hob, hlb, hb52⟩)
    | (refine wpList_store_box rfl 42 _ _ rfl b13 0 ([.int .i64 bi, .int .i64 bn, .slice ob.A ob.n ob.c]) zeroBC ([.int .i64 bi, .int .i64 bn, .slice ob.A ob.n ob.c]) rfl rfl (HBX51.out.below hb52 (by omega)) (show 0 + 3 ≤ 3 by decide) rfl size_batch rfl ?_; intro w53 bx53 T53))
   have t53 := T53 (fun j => j = b13) rfl
   have HF : Hid (Box w53 b13 [.int .i64 bi, .int .i64 bn, .slice ob.A ob.n ob.c] ∧ w53.ownsRow w51.heap.size 40 4 ob.v ob.n (txs Lb) ∧ Lb.length = ob.n ∧ Below w5.heap.size w5 w53) := ⟨bx53, own_kept hob fun j hj hl => t53.block j hl (fun e => by have := (own_lt hob hj).2; omega), hlb, (HB551.out.trans (hb52.mono hz51)).trans (t53.below (fun j hj => by omega) (by have := hb52.size; omega))⟩
   clear hob hlb hb52 bx53 T53 t53
   go_meet
   exact ⟨rfl, ob, HF⟩
  | false =>
   obtain ⟨e1, e2, e3, e4⟩ := HNO.out rfl
   have HF : Hid (Box w51 b13 [.int .i64 bi, .int .i64 bn, .slice noAd.A noAd.n noAd.c] ∧ w51.ownsRow w51.heap.size 40 4 noAd.v noAd.n (txs Lb) ∧ Lb.length = noAd.n ∧ Below w5.heap.size w5 w51) := ⟨by rw [e2, e3]; exact HBX51.out, by rw [e4]; exact World.ownsRow_nil _ _ _ _, by rw [e4]; rfl, HB551.out⟩
   go_wp2_with fail
   go_meet
   exact ⟨by rw [e1], noAd, HF⟩
 case rest =>
 obtain ⟨rfl, ob, HF⟩ := hcut
 rename World => w6
 have HB6 : Hid (Below w3.heap.size w3 w6) := HB5.out.trans (HF.out.2.2.2.mono HB5.out.size)
 have HL6 := Lib.hid (HL.out w6 HB6.out)
 have HMK6 := Lib.hid (HMK.out w6 HB6.out)
 have h56 := HF.out.2.2.2.size
 clear HMK HRM HNO
 go_upto_region 20 with (first
  | (refine wpList_load_box rfl 27 _ rfl q6 rfl (wkC P a6) (HL6.out.b6) _ Tryz.underlying27 rfl size_wk ?_)
  | (go_at_call 47; refine HMK6.out.mono ?_; rintro e w7 ⟨oy, rfl, hoy, hly, hb7⟩)
  | (refine wpList_store_box rfl 42 _ _ rfl w7.heap.size 0 ([.int .i64 bi, .int .i64 bn, .slice oy.A oy.n oy.c]) zeroBC ([.int .i64 bi, .int .i64 bn, .slice oy.A oy.n oy.c]) rfl rfl (box_new w7 zeroBC 42) (show 0 + 3 ≤ 3 by decide) rfl size_batch rfl ?_; intro w8 bx8 T8))
 have t8 := T8 (fun j => j = w7.heap.size) rfl
 obtain ⟨b14, hb14⟩ : ∃ z, z = w7.heap.size := ⟨_, rfl⟩
 rw [← hb14] at bx8 t8 ⊢
 have hz7 := hb7.size
 have hb78 : Below w7.heap.size w7 w8 := ((Below.refl _ _).alloc (Nat.le_refl _) _).trans (t8.below (fun j hj => by omega) (by simp))
 have hb68 : Below w6.heap.size w6 w8 := hb7.trans (hb78.mono hz7)
 have hz8 := hb68.size
 have hoy8 := ownS_below hoy hb78
 have hob8 := ownS_below HF.out.2.1 hb68
 have bx13 := HF.out.1.below hb68 HF.out.1.1
 have HB8 : Hid (Below w3.heap.size w3 w8) := HB6.out.trans (hb68.mono HB6.out.size)
 have HX13 := Lib.hid bx13
 have HX14 := Lib.hid bx8
 have HOY := Lib.hid hoy8
 have hsY := slIn_own hoy8 hly
 have hsB := slIn_own hob8 HF.out.2.2.1
 have hLs : Lb.length ≤ 1000000 := by
  have h1 := makeL_lenL P
  have h2 : Lb.length ≤ 8 := by
   have h3 := HLB.out
   rw [h3]
   split
   ·exact h1
   ·simp
  omega
 have HEQB : Hid (∀ wX, Below w8.heap.size w8 wX → Calls Tryz.prog 48 #[.agg #[.int .i64 bi, .int .i64 bn, .slice oy.A oy.n oy.c], .agg #[.int .i64 bi, .int .i64 bn, .slice ob.A ob.n ob.c]] wX (Tells wX.heap.size wX (.bool true))) := by
  show ∀ wX, _
  intro wX hX
  have h1 := hsY.len
  have h2 := hsB.len
  exact reqBat_is true bi bn oy.A oy.c oy.n Lb bi bn ob.A ob.c ob.n Lb wX (by simp [eqBatM]) h1 (hsY.below hX).rd (by omega) h2 (hsB.below hX).rd (by omega)
 have HL8 : Hid (∀ wX, Below w8.heap.size w8 wX → LateZ w wX P a a6 x g q6) := by
  show ∀ wX, _
  exact fun wX hX => HL.out wX (HB8.out.trans (hX.mono HB8.out.size))
 have HEQW : Hid (∀ wX, Below w8.heap.size w8 wX → Calls Tryz.prog 49 #[wkV P a6, wkV P a] wX (Tells wX.heap.size wX (.bool true))) := by
  show ∀ wX, _
  exact fun wX hX => reqWk_is true P P a6 a wX (by simp) (HL8.out wX hX).in6 (HL8.out wX hX).inn (HGR.out.few1 (by omega)) (HGR.out.few1 (by omega))
 have hly2 : oy.n ≤ 1000000 := by omega
 clear hoy hly hb7 T8 t8 bx8 hb14 hb78 hb68 hoy8 hob8 bx13 hsY hsB HMK6
 unfold Ad.v
 go_upto_region 21 with (first
  | (go_at_call 17; refine (num13_any _ _).mono ?_; rintro e w' ⟨rfl, rfl⟩)
  | (refine wpList_load_boxG 42 _ rfl b14 rfl rfl ([.int .i64 bi, .int .i64 bn, .slice oy.A oy.n oy.c]) (HX14.out) _ Tryz.underlying42 rfl size_batch ?_)
  | (refine wpList_load_boxG 42 _ rfl b13 rfl rfl ([.int .i64 bi, .int .i64 bn, .slice ob.A ob.n ob.c]) (HX13.out) _ Tryz.underlying42 rfl size_batch ?_)
  | (go_at_call 48; refine (HEQB.out w8 (Below.refl _ _)).mono ?_; rintro e w9 ⟨rfl, hb9⟩)
  | (refine wpList_load_boxG 27 _ rfl q6 rfl rfl (wkC P a6) ((HL8.out w9 hb9).b6) _ Tryz.underlying27 rfl size_wk ?_)
  | (refine wpList_load_boxG 27 _ rfl g rfl rfl (wkC P a) ((HL8.out w9 hb9).b0) _ Tryz.underlying27 rfl size_wk ?_)
  | (go_at_call 49; refine (HEQW.out w9 hb9).mono ?_; rintro e w10 ⟨rfl, hb10⟩))
 have hb810 : Below w8.heap.size w8 w10 := hb9.trans (hb10.mono hb9.size)
 have HB810 := Lib.hid hb810
 have hz10 := hb810.size
 have k14 := ((HX14.out.below hb810 HX14.out.1).2 2 _ rfl).1
 have HSPT := Lib.hid (spoilTxs_far w6.heap.size oy.v oy.n _ w10 (ownS_below HOY.out hb810) hly2)
 clear hb9 hb10 hb810
 unfold Ad.v at HSPT
 go_upto_region 22 with (go_at_call 50; refine HSPT.out.mono ?_; rintro e w14 ⟨rfl, ht14⟩)
 have HB14 : Hid (Below w3.heap.size w3 w14) := (HB8.out.trans (HB810.out.mono HB8.out.size)).trans (ht14.below (fun j hj => by have := (own_lt HOY.out hj).2; have := HB6.out.size; omega) (by have := HB8.out.size; omega))
 clear ht14 HSPT k14
 have HLX : Hid (∀ wX, Below w14.heap.size w14 wX → LateZ w wX P a a6 x g q6) := by
  show ∀ wX, _
  exact fun wX hX => HL.out wX (HB14.out.trans (hX.mono HB14.out.size))
 have hlx := HLX.out w14 (Below.refl _ _)
 have HBT : Hid (∀ wX, Touch (fun j => j = g + 2) w14 wX → Box wX g (wkC P a) ∧ Box wX q6 (wkC P a6)) := by
  show ∀ wX, _
  exact fun wX hX => ⟨hlx.b0.touch hX (by omega), hlx.b6.touch hX (by omega)⟩
 clear hlx
 go_upto_region 22 with fail
 have hB0 : Below w14.heap.size w14 w14.drew := (Below.refl _ _).drew
 have hS0 : Touch (fun j => j = g + 2) w14 w14.drew := Touch.of hB0
 refine wp_region_held_drew (S := fun w' => Touch (fun j => j = g + 2) w14 w') (by kernel_rfl) hS0 (fun _ => ?_)
 refine ytake_0 (by kernel_rfl) (by kernel_rfl) (by kernel_rfl) (fun _ _ _ h => h) (yieldsIf_load_mid (by rfl) 27 _ rfl g 0 rfl (wkC P a) _ (fun w' h => box_rangeZ ((HBT.out w' h).1)) Tryz.underlying27 rfl size_wk) hS0 ?_
 try simp only [Act.put, List.setIfInBounds_toArray, List.set_cons_zero, List.set_cons_succ]
 refine ytake_1 (v := ?vv860) (by kernel_rfl) (by kernel_rfl) (by kernel_rfl) (fun _ _ _ h => h) (Or.inl ⟨by rfl, ?hy860⟩) hS0 ?_
 case hy860 =>
  intro wX hSw
  go_simp
  try with_reducible rfl
 try simp only [Act.put, List.setIfInBounds_toArray, List.set_cons_zero, List.set_cons_succ]
 refine ytake_2 (v := ?vv861) (by kernel_rfl) (by kernel_rfl) (by kernel_rfl) (fun _ _ _ h => h) (Or.inl ⟨by rfl, ?hy861⟩) hS0 ?_
 case hy861 =>
  intro wX hSw
  go_simp
  try with_reducible rfl
 try simp only [Act.put, List.setIfInBounds_toArray, List.set_cons_zero, List.set_cons_succ]
 refine ytake_3 (by kernel_rfl) (by kernel_rfl) (by kernel_rfl) (fun _ _ _ h => h) (yieldsIf_load_mid (by rfl) 27 _ rfl q6 0 rfl (wkC P a6) _ (fun w' h => box_rangeZ ((HBT.out w' h).2)) Tryz.underlying27 rfl size_wk) hS0 ?_
 try simp only [Act.put, List.setIfInBounds_toArray, List.set_cons_zero, List.set_cons_succ]
 refine ytake_4 (by kernel_rfl) (by kernel_rfl) (by kernel_rfl) (fun _ _ _ h => h) (yieldsIf_load_mid (by rfl) 27 _ rfl g 0 rfl (wkC P a) _ (fun w' h => box_rangeZ ((HBT.out w' h).1)) Tryz.underlying27 rfl size_wk) hS0 ?_
 try simp only [Act.put, List.setIfInBounds_toArray, List.set_cons_zero, List.set_cons_succ]
 refine yready_5 (by kernel_rfl) ?_
 intro KQ hK
 rw [if_pos (by rfl)]
 try go_simp
 refine (reqWk_is true P P a6 a _ (by simp) (HLX.out _ hB0).in6 (HLX.out _ hB0).inn (HGR.out.few1 (by omega)) (HGR.out.few1 (by omega))).mono ?_
 rintro e w15 ⟨rfl, hc15⟩
 have hB15 : Below w14.heap.size w14 w15 := hB0.trans (hc15.mono hB0.size)
 have hS15 : Touch (fun j => j = g + 2) w14 w15 := Touch.of hB15
 refine hK.out _ _ hS15 (fun _ => ?_)
 clear hK KQ
 try simp only [Act.put, List.setIfInBounds_toArray, List.set_cons_zero, List.set_cons_succ]
 refine ytake_6 (v := ?vv862) (by kernel_rfl) (by kernel_rfl) (by kernel_rfl) (fun _ _ _ h => h) (Or.inl ⟨by rfl, ?hy862⟩) hS15 ?_
 case hy862 =>
  intro wX hSw
  go_simp
  try with_reducible rfl
 try simp only [Act.put, List.setIfInBounds_toArray, List.set_cons_zero, List.set_cons_succ]
 have hlz := HLX.out w15 hB15
 refine yready_7 (by kernel_rfl) ?_
 intro KQ hK
 rw [if_pos (by rfl)]
 refine wp_store_boxY 27 _ _ rfl (g + 2) 0 (wkC P a) zeroC (wkC P a) rfl rfl hlz.b2 (show 0 + 9 ≤ 9 by decide) rfl size_wk rfl ?_
 intro w16 bx16 T16
 have t16 := T16 (fun j => j = g + 2) rfl
 have hS16 : Touch (fun j => j = g + 2) w14 w16 := hS15.on t16
 refine hK.out _ _ hS16 (fun _ => ?_)
 clear hK KQ
 simp only [Act.put]
 refine ytake_8 (v := ?vv863) (by kernel_rfl) (by kernel_rfl) (by kernel_rfl) (fun _ _ _ h => h) (Or.inl ⟨by rfl, ?hy863⟩) hS16 ?_
 case hy863 =>
  intro wX hSw
  go_simp
  try with_reducible rfl
 try simp only [Act.put, List.setIfInBounds_toArray, List.set_cons_zero, List.set_cons_succ]
 refine wpAnyH_done (by kernel_rfl) ?_ _
 have hres : Below w.heap.size w w16 := hlz.bel.trans (t16.below (fun j hj => by have := HG.out; omega) hlz.bel.size)
 have HRES := Lib.hid hres
 have HWI : Hid (WIn w16 P a) := by
  show WIn _ _ _
  exact HINW.out.below hres
 have HBR := Lib.hid bx16
 clear hres hlz t16 T16 bx16 hB0 hS0 hB15 hS15 hS16
 go_wp2_with fail
 refine bodyPost_ret (v := .tuple #[wkV P a, .bool true]) (sres _ _ (g + 2) _ _ true rfl rfl HBR.out) rfl ⟨P, a, rfl, HWI.out, HGR.out.more (Nat.le_succ k), HRES.out⟩

end Go.Proofs.YteepobghdpnabaaGreat
