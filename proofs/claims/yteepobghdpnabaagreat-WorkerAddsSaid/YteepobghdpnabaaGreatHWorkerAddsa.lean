/-
 Operations of a drawn region, taken one by one. Of no program.
-/
import Derived.Test.YteepobghdpnabaaGreatRows
import Derived.Deep.MidRow
import Derived.Deep.RegionHeld3
import Derived.WalkKit
import Derived.Below
import Derived.Deep.Draws
import Derived.Deep.AppendLies
import Derived.Lib.AppendStr
import Derived.Lib.ConvBytes
import Derived.Lib.Hide
import Derived.WalkSpells
import Derived.WalkLawsBesides
import Derived.Deep.QuietTactic
import Derived.BigQuiet
import Derived.LoopTactic
import Derived.Outline
import Derived.Laws.StructEq
import Derived.OneCell
import Derived.IntWalk
import Derived.ProofKit
import Derived.OpenShut
import Derived.SliceStrings
import Derived.ChangeSlices
import Derived.Deep.Slices
import Derived.Deep.Fields
import Derived.ChangeOld
import Derived.Carry
import Derived.SizedLaws
import Derived.ScopeJumps
import Derived.Deep.DeepCutAuto
import Derived.Deep.CutRange
import Derived.Deep.RegionLaw
import Derived.BigRegion
import Derived.Laws.Rows
import Derived.Laws.CopyRow
import Derived.Lib.AppendZerosOnto
import Derived.Lib.Overlaps
import Derived.StillTailTactics
import Derived.Laws.Externs
import Derived.Deep.CutBlock
import Derived.Maps.OwnSet
import Derived.Great.BuildSlice
import Derived.Maps.AppendAt
import Derived.Test.YteepobghdpnabaaGreatKWorkerTicksa
import Derived.Test.YteepobghdpnabaaGreatKWorkerTicksb
import Derived.Test.YteepobghdpnabaaGreatKWorkerTicksc
import Derived.Test.YteepobghdpnabaaGreatKWorkerTicksd
import Derived.Test.YteepobghdpnabaaGreatKWorkerTickse
import Derived.Test.YteepobghdpnabaaGreatKWorkerTicksf
import Derived.Test.YteepobghdpnabaaGreatKWorkerTicksg
import Derived.Test.YteepobghdpnabaaGreatKWorkerTicksh
import Derived.Test.YteepobghdpnabaaGreatKWorkerTicksi
import Derived.Test.YteepobghdpnabaaGreatKWorkerTicksj
import Derived.Test.YteepobghdpnabaaGreatKWorkerTicksk
import Derived.Test.YteepobghdpnabaaGreatKWorkerTicksl
import Derived.Test.YteepobghdpnabaaGreatKWorkerTicksm
import Derived.Test.YteepobghdpnabaaGreatKWorkerTicksn
import Derived.Test.YteepobghdpnabaaGreatKWorkerTickso
import Derived.Test.YteepobghdpnabaaGreatKWorkerTicksp
import Derived.Test.YteepobghdpnabaaGreatKWorkerTicksq
import Derived.Test.YteepobghdpnabaaGreatKWorkerTicksr
import Derived.Test.YteepobghdpnabaaGreatKWorkerTickss
import Derived.Test.YteepobghdpnabaaGreatKWorkerTickst
import Derived.Test.YteepobghdpnabaaGreatKWorkerTicksu
import Derived.Test.YteepobghdpnabaaGreatKWorkerTicksv
import Derived.Test.YteepobghdpnabaaGreatKWorkerTicksw
import Derived.Test.YteepobghdpnabaaGreatKWorkerTicksx
import Derived.Test.YteepobghdpnabaaGreatKWorkerTicksy
import Derived.Test.YteepobghdpnabaaGreatKWorkerTicksz
import Derived.Test.YteepobghdpnabaaGreatKWorkerTicksaa
import Derived.Test.YteepobghdpnabaaGreatKWorkerTicksab
import Derived.Test.YteepobghdpnabaaGreatKWorkerTicksac
import Derived.Test.YteepobghdpnabaaGreatKWorkerTicksad
import Derived.Test.YteepobghdpnabaaGreatKWorkerTicksae
import Derived.Test.YteepobghdpnabaaGreatKWorkerTicksaf
import Derived.Test.YteepobghdpnabaaGreatKWorkerTicksag
import Derived.Test.YteepobghdpnabaaGreatKWorkerTicksah
import Derived.Test.YteepobghdpnabaaGreatKWorkerTicksai
import Derived.Test.YteepobghdpnabaaGreatKWorkerTicksaj
import Derived.Test.YteepobghdpnabaaGreatKWorkerTicksak
import Derived.Test.YteepobghdpnabaaGreatKWorkerTicksal
import Derived.Test.YteepobghdpnabaaGreatKWorkerTicksam
import Derived.Test.YteepobghdpnabaaGreatKWorkerTicksan
import Derived.Test.YteepobghdpnabaaGreatKWorkerTicksao
import Derived.Test.YteepobghdpnabaaGreatKWorkerTicksap
import Derived.Test.YteepobghdpnabaaGreatKWorkerTicksaq
import Derived.Test.YteepobghdpnabaaGreatKWorkerTicksar
namespace Go.Proofs.YteepobghdpnabaaGreat
open Go

theorem yready_9 {P : Program} {md : Region.Mode} {Q : Exit → Act → World → Prop} {S : World → Prop} {o0 o1 o2 o3 o4 o5 o6 o7 o8 o9 : Oper} {rest : List Oper} {fuel : Nat} {listed : Array Bool} {a : Act} {w : World}
  (hr : Region.ready md (o0 :: o1 :: o2 :: o3 :: o4 :: o5 :: o6 :: o7 :: o8 :: o9 :: rest).toArray listed = [9])
  (h : ∀ K' : Act → World → Prop, Shut (∀ a w, S w → (S w → wpAnyH P md (o0 :: o1 :: o2 :: o3 :: o4 :: o5 :: o6 :: o7 :: o8 :: o9 :: rest).toArray Q S fuel (listed.setIfInBounds 9 true) a w) → K' a w) → if Region.wanted o9 (yielded (o0 :: o1 :: o2 :: o3 :: o4 :: o5 :: o6 :: o7 :: o8 :: o9 :: rest).toArray a.tmps) = true then Oper.wp P o9 a w K' Q else K' (a.put o9.dst undef) w) :
  wpAnyH P md (o0 :: o1 :: o2 :: o3 :: o4 :: o5 :: o6 :: o7 :: o8 :: o9 :: rest).toArray Q S (fuel + 1) listed a w :=
 wpAnyH_ready hr (by simp) (AllReadyH.cons (i := 9) (o := o9) rfl h AllReadyH.nil)
end Go.Proofs.YteepobghdpnabaaGreat
namespace Go.Proofs.YteepobghdpnabaaGreat
open Go

theorem yready_5_8 {P : Program} {md : Region.Mode} {Q : Exit → Act → World → Prop} {S : World → Prop} {o0 o1 o2 o3 o4 o5 o6 o7 o8 : Oper} {rest : List Oper} {fuel : Nat} {listed : Array Bool} {a : Act} {w : World}
  (hr : Region.ready md (o0 :: o1 :: o2 :: o3 :: o4 :: o5 :: o6 :: o7 :: o8 :: rest).toArray listed = [5, 8])
  (h5 : ∀ K' : Act → World → Prop, Shut (∀ a w, S w → (S w → wpAnyH P md (o0 :: o1 :: o2 :: o3 :: o4 :: o5 :: o6 :: o7 :: o8 :: rest).toArray Q S fuel (listed.setIfInBounds 5 true) a w) → K' a w) → if Region.wanted o5 (yielded (o0 :: o1 :: o2 :: o3 :: o4 :: o5 :: o6 :: o7 :: o8 :: rest).toArray a.tmps) = true then Oper.wp P o5 a w K' Q else K' (a.put o5.dst undef) w)
  (h8 : ∀ K' : Act → World → Prop, Shut (∀ a w, S w → (S w → wpAnyH P md (o0 :: o1 :: o2 :: o3 :: o4 :: o5 :: o6 :: o7 :: o8 :: rest).toArray Q S fuel (listed.setIfInBounds 8 true) a w) → K' a w) → if Region.wanted o8 (yielded (o0 :: o1 :: o2 :: o3 :: o4 :: o5 :: o6 :: o7 :: o8 :: rest).toArray a.tmps) = true then Oper.wp P o8 a w K' Q else K' (a.put o8.dst undef) w) :
  wpAnyH P md (o0 :: o1 :: o2 :: o3 :: o4 :: o5 :: o6 :: o7 :: o8 :: rest).toArray Q S (fuel + 1) listed a w :=
 wpAnyH_ready hr (by simp) (AllReadyH.cons (i := 5) (o := o5) rfl h5 (AllReadyH.cons (i := 8) (o := o8) rfl h8 AllReadyH.nil))

end Go.Proofs.YteepobghdpnabaaGreat
namespace Go.Proofs.YteepobghdpnabaaGreat
open Go.RowKit

theorem st_box {s B : Nat} {w : World} {Q : WkD} {a : WkA} (hbx : Box w s (wkC Q a ++ [noAd.v])) (hn : WNew B w Q a) (hs : s < B) : StAt s s w Q a [] noAd [] := by
 refine ⟨hbx, (hn.more (by omega)).pg, rowOwn_none _ _, rfl, ?_, fun y hy => by simp at hy, Nat.le_refl _, by have := hbx.1; omega⟩
 rintro k (hk | ⟨x, hx, hk⟩ | hk | ⟨y, hy, hk⟩)
 ·have := (hn.core.lt hk).2; omega
 ·have h1 : a.O.v.ownBlock = some x.block := by rw [Ad.v, hx]; rfl
  have := (own_lt hn.open_ h1).2
  omega
 ·simp [noAd, Ad.v, Value.ownBlock] at hk
 ·simp at hy
end Go.Proofs.YteepobghdpnabaaGreat
namespace Go.Proofs.YteepobghdpnabaaGreat
open Go.RowKit

theorem wpList_load_midY {P : Program} {ops : Array Oper} {rest : List Oper} {op : Oper} {a : Act} {w : World} {Q : Exit → Act → World → Prop} (ty : TypeId) (x : Operand) (ho : op.op = .load ty x)
  (b o : Nat) (hx : a.eval x = .pointer (some ⟨b, o, none⟩)) (hw : Region.wanted op (yielded ops a.tmps) = true) (cs : List Value) (d : TypeDesc) (hc : w.rangeAt b o cs) (hu : P.underlying ty = some d) (hd : d.isRow = true) (hi : (P.info? ty).map (·.size) = some cs.length)
  (h : wpList P ops Q rest (a.put op.dst (.agg cs.toArray)) w) : wpList P ops Q (op :: rest) a w := by
 rw [wpList, if_pos hw]
 exact .inl (wp_load_mid ty x ho b o hx cs d hc hu hd hi h)
theorem Touch.trim {F : Nat → Prop} {w w' : World} (h : Touch (fun j => F j ∨ w.heap.size ≤ j) w w') : Touch F w w' := ⟨h.os, h.tape, h.output, h.size, fun k hk hn => h.block k hk fun hf => hf.elim hn (by omega)⟩
theorem act_txZ {w : World} {g : Nat} {x : ActD} (h : Box w (g + 1) (actC x)) : w.rangeAt (g + 1) 2 [.int .i64 x.t.s, .int .i64 x.t.q, .string x.t.k, .string x.t.v] := by
 have h1 := act_tx (b := g + 1) (o := 0) (x := x) (box_rangeZ h)
 rw [Nat.zero_add] at h1
 exact h1
structure AddMid (P : WkD) (t : TxD) (s0 : Nat) (w5 wx : World) (E : Int) : Prop where
 touch : Touch (fun j => j = s0) w5 wx
 err : E = ifMay P (addE P t)
 st : E = 0 → ∃ a : WkA, StAt s0 s0 wx (addW P t) a [] noAd []

end Go.Proofs.YteepobghdpnabaaGreat
namespace Go.Proofs.YteepobghdpnabaaGreat
open Go.RowKit

set_option maxRecDepth 100000 in
set_option maxHeartbeats 16000000 in
theorem step_0 (k : Nat) (P : WkD) (a : WkA) (x : ActD) (w : World) (h : WIn w P a) (hgr : Grown k P) (hk : k ≤ 12) (hx : ActIn w x) (hfew : MsgFew 2000 x.b ∧ x.L.length ≤ 12000) (hr : wrap64 ((IntKind.u64.wrap x.Do).tmod ((11 : Nat) : Int)) = ((0 : Nat) : Int)) : Calls Tryz.prog 19 #[wkV P a, actV x] w (StepTo k w) := by
 obtain ⟨g, hg⟩ : ∃ g, g = w.heap.size := ⟨_, rfl⟩
 obtain ⟨wa0, hwa0⟩ : ∃ wa0, wa0 = w.alloc (.cells #[.int .i64 P.i, .int .i64 P.N, .int .i64 P.x, .slice a.O.A a.O.n a.O.c, .int .i64 P.g, .int .i64 P.c, .slice a.W.A a.W.n a.W.c, .slice a.H.A a.H.n a.H.c, .slice a.R.A a.R.n a.R.c] 27) := ⟨_, rfl⟩
 have hs0 : wa0.heap.size = g + 1 := by rw [hwa0]; simp; omega
 have bn0 : Box wa0 (g) (wkC P a) := by rw [hwa0, hg]; exact box_new w (wkC P a) 27
 have hb0 : Below g w wa0 := by rw [hwa0]; exact (Below.refl _ _).alloc (by omega) _
 obtain ⟨wa1, hwa1⟩ : ∃ wa1, wa1 = wa0.alloc (.cells #[.int .i64 x.Do, .int .i64 x.D, .int .i64 x.t.s, .int .i64 x.t.q, .string x.t.k, .string x.t.v, .int .i64 x.m.k, .int .i64 x.m.f, .int .i64 x.m.t, .int .i64 x.m.d, .int .i64 x.m.ba, .int .i64 x.m.bn, .slice x.b.AL x.b.nL x.b.cL, .int .i64 x.m.ha, .int .i64 x.m.hr, .slice x.b.AhB x.b.nhB x.b.chB, .slice x.b.AhP x.b.nhP x.b.chP, .int .i64 x.m.ca, .int .i64 x.m.cr, .slice x.b.AcB x.b.ncB x.b.ccB, .slice x.b.AcP x.b.ncP x.b.ccP, .int .i64 x.m.cd, .slice x.b.AcS x.b.ncS x.b.ccS, .slice x.b.AD x.b.nD x.b.cD, .bool x.fit, .slice x.A x.n x.c] 50) := ⟨_, rfl⟩
 have hs1 : wa1.heap.size = g + 2 := by rw [hwa1]; simp; omega
 have bn1 : Box wa1 (g + 1) (actC x) := by rw [hwa1, ← hs0]; exact box_new wa0 (actC x) 50
 have hb1 : Below g w wa1 := by rw [hwa1]; exact hb0.alloc (by omega) _
 obtain ⟨wa2, hwa2⟩ : ∃ wa2, wa2 = wa1.alloc (.cells #[.int .i64 0, .int .i64 0, .int .i64 0, .slice none 0 0, .int .i64 0, .int .i64 0, .slice none 0 0, .slice none 0 0, .slice none 0 0] 27) := ⟨_, rfl⟩
 have hs2 : wa2.heap.size = g + 3 := by rw [hwa2]; simp; omega
 have bn2 : Box wa2 (g + 2) (zeroC) := by rw [hwa2, ← hs1]; exact box_new wa1 (zeroC) 27
 have hb2 : Below g w wa2 := by rw [hwa2]; exact hb1.alloc (by omega) _
 have HX0 : Hid (Box wa2 (g) (wkC P a)) := ((bn0.below (show Below wa0.heap.size wa0 wa1 by rw [hwa1]; exact (Below.refl _ _).alloc (Nat.le_refl _) _) (by omega)).below (show Below wa1.heap.size wa1 wa2 by rw [hwa2]; exact (Below.refl _ _).alloc (Nat.le_refl _) _) (by omega))
 have HX1 : Hid (Box wa2 (g + 1) (actC x)) := (bn1.below (show Below wa1.heap.size wa1 wa2 by rw [hwa2]; exact (Below.refl _ _).alloc (Nat.le_refl _) _) (by omega))
 have HX2 : Hid (Box wa2 (g + 2) (zeroC)) := bn2
 obtain ⟨w0, hw0⟩ : ∃ w0, w0 = wa2 := ⟨_, rfl⟩
 rw [← hw0] at HX0
 rw [← hw0] at HX1
 rw [← hw0] at HX2
 have hsz0 : w0.heap.size = g + 3 := by rw [hw0]; exact hs2
 have hb0w : Below g w w0 := by rw [hw0]; exact hb2
 have HW0 : Hid (((w.alloc (.cells #[.int .i64 P.i, .int .i64 P.N, .int .i64 P.x, .slice a.O.A a.O.n a.O.c, .int .i64 P.g, .int .i64 P.c, .slice a.W.A a.W.n a.W.c, .slice a.H.A a.H.n a.H.c, .slice a.R.A a.R.n a.R.c] 27)).alloc (.cells #[.int .i64 x.Do, .int .i64 x.D, .int .i64 x.t.s, .int .i64 x.t.q, .string x.t.k, .string x.t.v, .int .i64 x.m.k, .int .i64 x.m.f, .int .i64 x.m.t, .int .i64 x.m.d, .int .i64 x.m.ba, .int .i64 x.m.bn, .slice x.b.AL x.b.nL x.b.cL, .int .i64 x.m.ha, .int .i64 x.m.hr, .slice x.b.AhB x.b.nhB x.b.chB, .slice x.b.AhP x.b.nhP x.b.chP, .int .i64 x.m.ca, .int .i64 x.m.cr, .slice x.b.AcB x.b.ncB x.b.ccB, .slice x.b.AcP x.b.ncP x.b.ccP, .int .i64 x.m.cd, .slice x.b.AcS x.b.ncS x.b.ccS, .slice x.b.AD x.b.nD x.b.cD, .bool x.fit, .slice x.A x.n x.c] 50)).alloc (.cells #[.int .i64 0, .int .i64 0, .int .i64 0, .slice none 0 0, .int .i64 0, .int .i64 0, .slice none 0 0, .slice none 0 0, .slice none 0 0] 27) = w0) := by show ((w.alloc (.cells #[.int .i64 P.i, .int .i64 P.N, .int .i64 P.x, .slice a.O.A a.O.n a.O.c, .int .i64 P.g, .int .i64 P.c, .slice a.W.A a.W.n a.W.c, .slice a.H.A a.H.n a.H.c, .slice a.R.A a.R.n a.R.c] 27)).alloc (.cells #[.int .i64 x.Do, .int .i64 x.D, .int .i64 x.t.s, .int .i64 x.t.q, .string x.t.k, .string x.t.v, .int .i64 x.m.k, .int .i64 x.m.f, .int .i64 x.m.t, .int .i64 x.m.d, .int .i64 x.m.ba, .int .i64 x.m.bn, .slice x.b.AL x.b.nL x.b.cL, .int .i64 x.m.ha, .int .i64 x.m.hr, .slice x.b.AhB x.b.nhB x.b.chB, .slice x.b.AhP x.b.nhP x.b.chP, .int .i64 x.m.ca, .int .i64 x.m.cr, .slice x.b.AcB x.b.ncB x.b.ccB, .slice x.b.AcP x.b.ncP x.b.ccP, .int .i64 x.m.cd, .slice x.b.AcS x.b.ncS x.b.ccS, .slice x.b.AD x.b.nD x.b.cD, .bool x.fit, .slice x.A x.n x.c] 50)).alloc (.cells #[.int .i64 0, .int .i64 0, .int .i64 0, .slice none 0 0, .int .i64 0, .int .i64 0, .slice none 0 0, .slice none 0 0, .slice none 0 0] 27) = w0; rw [hw0, hwa2, hwa1, hwa0]
 have HG : Hid (w.heap.size = g) := hg.symm
 have HS0 := Lib.hid hsz0
 have HB0 := Lib.hid hb0w
 have hl0 : g < w0.heap.size := by omega
 have hl1 : g + 1 < w0.heap.size := by omega
 have hl2 : g + 2 < w0.heap.size := by omega
 have hgw : g ≤ w0.heap.size := by omega
 have hin0 : WIn w0 P a := h.below (by rw [HG.out]; exact HB0.out)
 have hact0 : ActIn w0 x := hx.below (by rw [HG.out]; exact HB0.out)
 have HIN : Hid (∀ wX, Below w0.heap.size w0 wX → WIn wX P a) := by show ∀ wX, _; exact fun wX hX => hin0.below hX
 have HACT : Hid (∀ wX, Below w0.heap.size w0 wX → ActIn wX x) := by show ∀ wX, _; exact fun wX hX => hact0.below hX
 have HGR : Hid (Grown k P) := hgr
 have HFE : Hid (MsgFew 2000 x.b ∧ x.L.length ≤ 12000) := hfew
 have HCP := Lib.hid (rcopyWk_any P a w0 hin0 (hgr.few1 (by omega)))
 obtain ⟨bm, hbm⟩ : ∃ b, b = mayW P := ⟨_, rfl⟩
 have HBM : Hid (mayW P = bm) := hbm.symm
 have HMAY : Hid (∀ wX, Below w0.heap.size w0 wX → Calls Tryz.prog 16 #[wkV P a] wX (Tells wX.heap.size wX (.bool bm))) := by
  show ∀ wX, _
  exact fun wX hX => rmayW_is bm P a wX hbm.symm (hin0.below hX) (hgr.few1 (by omega))
 have HRV : Hid (wrap64 ((IntKind.u64.wrap x.Do).tmod ((11 : Nat) : Int)) = ((0 : Nat) : Int)) := hr
 have HINW : Hid (WIn w P a) := h
 have HTY2 : Hid (w0.heap[g + 2]? = some (.cells zeroC.toArray 27 (0, 0))) := by
  show _ = _
  rw [hw0, hwa2]
  have := heap_alloc_new wa1 (.cells zeroC.toArray 27)
  rw [hs1] at this
  exact this
 clear hg hsz0 hb0w hw0 hwa0 hs0 bn0 hb0 hwa1 hs1 bn1 hb1 hwa2 hs2 bn2 hb2
 clear hin0 hact0 h hx hgr hfew hbm hr
 unfold wkV Ad.v actV
 go_enter Tryz.func19, Tryz.ntmps19
 go_upto_region 1 with fail
 rw [HG.out, HW0.out]
 go_upto_region 2 with (first
  | (refine wpList_load_box rfl 27 _ rfl g rfl (wkC P a) (HX0.out) _ Tryz.underlying27 rfl size_wk ?_)
  | (go_at_call 15; refine HCP.out.mono ?_; rintro e w1 ⟨a6, rfl, hn1, hb1⟩)
  | (refine wpList_store_box rfl 27 _ _ rfl w1.heap.size 0 (wkC P a6) (zeroC) (wkC P a6) rfl rfl (box_new w1 zeroC 27) (show 0 + 9 ≤ 9 by decide) rfl size_wk rfl ?_; intro w2 bx2 T2))
 have t2 := T2 (fun j => j = w1.heap.size) rfl
 obtain ⟨q6, hq6⟩ : ∃ q, q = w1.heap.size := ⟨_, rfl⟩
 rw [← hq6] at bx2 t2 ⊢
 have hz1 := hb1.size
 have hgq6 : g + 2 < q6 := by omega
 have hb12 : Below w1.heap.size w1 w2 := ((Below.refl _ _).alloc (Nat.le_refl _) _).trans (t2.below (fun j hj => by omega) (by simp))
 have hz2 := hb12.size
 have hb02 : Below w0.heap.size w0 w2 := hb1.trans (hb12.mono hz1)
 have HN6 : Hid (WIn w1 P a6) := hn1.in_
 have HB12 := Lib.hid hb12
 have HB02 := Lib.hid hb02
 have HX6 : Hid (Box w2 q6 (wkC P a6)) := bx2
 have hq2 : q6 < w2.heap.size := bx2.1
 have HMY := Lib.hid (HMAY.out w2 hb02)
 clear t2 T2 hq6 hb12 hn1 bx2 hb1 HCP HMAY
 go_upto_region 3 with (first
  | (refine wpList_load_box rfl 27 _ rfl g rfl (wkC P a) (HX0.out.below HB02.out hl0) _ Tryz.underlying27 rfl size_wk ?_)
  | (go_at_call 16; refine HMY.out.mono ?_; rintro e w3 ⟨rfl, hb3⟩))
 have hz3 := hb3.size
 have HB3 : Hid (Below w2.heap.size w2 w3) := hb3
 have hb03 : Below w0.heap.size w0 w3 := hb02.trans (hb3.mono (by omega))
 have HB03 := Lib.hid hb03
 clear hb3 hb03 hb02 HMY
 go_upto_region 7 with fail
 obtain ⟨s0, hs0⟩ : ∃ s, s = w3.heap.size := ⟨_, rfl⟩
 obtain ⟨w5, hw5⟩ : ∃ z, z = (w3.alloc (.cells #[.int .i64 0, .int .i64 0, .int .i64 0, .slice none 0 0, .int .i64 0, .int .i64 0, .slice none 0 0, .slice none 0 0, .slice none 0 0, .slice none 0 0] 75)).alloc (.cells #[.int .i64 0, .int .i64 0, .int .i64 0, .slice none 0 0, .int .i64 0, .int .i64 0, .slice none 0 0, .slice none 0 0, .slice none 0 0] 27) := ⟨_, rfl⟩
 rw [← hw5, ← hs0]
 have HPS : Hid (PreZ w3 w5 s0) := by show PreZ _ _ _; rw [hw5, hs0]; exact preZ_new w3
 have HL : Hid (∀ wX, Below w3.heap.size w3 wX → LateZ w wX P a a6 x g q6) := by
  show ∀ wX, _
  intro wX hX
  have h0X : Below w0.heap.size w0 wX := HB03.out.trans (hX.mono (by omega))
  have h2X : Below w2.heap.size w2 wX := HB3.out.trans (hX.mono hz3)
  exact ⟨HX0.out.below h0X hl0, HX1.out.below h0X hl1, HX2.out.below h0X hl2, HX6.out.below h2X hq2, HIN.out wX h0X, HN6.out.below (HB12.out.trans (h2X.mono hz2)), HACT.out wX h0X, by rw [HG.out]; exact HB0.out.trans (h0X.mono hgw), (h0X.block (g + 2) hl2).trans HTY2.out⟩
 have hz5 : w5.heap.size = s0 + 2 := by rw [hw5, hs0]; simp
 have hgs : g + 2 < s0 := by omega
 have hqs : q6 < s0 := by omega
 have hs3 : w3.heap.size = s0 := hs0.symm
 have HB5 : Hid (Below w3.heap.size w3 w5) := HPS.out.bel
 have HL5 := Lib.hid (HL.out w5 HB5.out)
 have kD := (HL5.out.b1.2 0 _ rfl).1
 clear hw5 hs0 HX0 HX1 HX2 HIN HACT HN6
 go_upto_region 15 with (go_at_call 45; refine (withinG_is x.Do 11 0 _ HRV.out (by omega) (by omega)).mono ?_; rintro e w' ⟨rfl, rfl⟩)
 clear kD HRV
 go_upto_region 8 with fail
 obtain ⟨bt, hbt⟩ : ∃ b, b = (bm && txB x.t) := ⟨_, rfl⟩
 have HBT : Hid ((bm && txB x.t) = bt) := hbt.symm
 clear hbt
 have kt5 := act_txZ (HL5.out.b1)
 have HKT5 := Lib.hid kt5
 clear kt5
 go_cut [34] from 29 to 33 (fun bv wx => bv = .bool bt ∧ Hid (Below w5.heap.size w5 wx))
 case first =>
  cases bm with
  | true =>
   obtain rfl : txB x.t = bt := by have := HBT.out; simpa using this
   go_wp2_with (first
    | (refine wpList_load_midY 40 _ rfl (g + 1) 2 rfl rfl [.int .i64 x.t.s, .int .i64 x.t.q, .string x.t.k, .string x.t.v] _ HKT5.out Tryz.underlying40 rfl size_tx ?_)
    | (go_at_call 65; refine (rtx_is _ x.t rfl w5).mono ?_; rintro e w51 ⟨rfl, hb51⟩))
   go_meet
   exact ⟨rfl, hb51⟩
  | false =>
   obtain rfl : false = bt := by have := HBT.out; simpa using this
   go_wp2_with fail
   go_meet
   exact ⟨rfl, Below.refl _ _⟩
 case rest =>
 obtain ⟨rfl, HB51⟩ := hcut
 rename World => w51
 have hz51 := HB51.out.size
 go_upto_if 34 with fail
 go_cut [9] from 34 to 56 (fun v9 wx => ∃ E : Int, v9 = .int .i64 E ∧ Hid (AddMid P x.t s0 w5 wx E))
 case first =>
  cases bt with
  | false =>
   have HE : Hid (AddMid P x.t s0 w5 w51 1) := by
    refine ⟨Touch.of HB51.out, ?_, fun h => absurd h (by decide)⟩
    cases bm with
    | true =>
     have ht : txB x.t = false := by have := HBT.out; simpa using this
     rw [ifMay_yes HBM.out, addE, if_neg (by rw [ht]; decide)]
    | false => rw [ifMay_no HBM.out]
   go_wp2_with fail
   go_meet
   exact ⟨1, rfl, HE⟩
  | true =>
   have hbt2 := HBT.out
   rw [Bool.and_eq_true] at hbt2
   obtain ⟨hbm2, htx⟩ := hbt2
   have HM2 : Hid (mayW P = true) := HBM.out.trans hbm2
   have HTX := Lib.hid htx
   have HB3_51 : Hid (Below w3.heap.size w3 w51) := HB5.out.trans (HB51.out.mono HB5.out.size)
   have HL51 := Lib.hid (HL.out w51 HB3_51.out)
   have hO := HL51.out.inn.open_.len
   have HO := Lib.hid hO
   have k3 : w51.cell? ⟨g, 3, none⟩ = some (.slice a.O.A a.O.n a.O.c) := (HL51.out.b0.2 3 _ rfl).1
   clear hbm2 htx hO
   by_cases hfull : a.O.n < 64
   ·have i1 : (a.O.n : Int) < 64 := by omega
    have HEZ : Hid (ifMay P (addE P x.t) = 0) := by
     show _ = _
     rw [ifMay_yes HM2.out, addE, if_pos HTX.out, if_pos (by have := HO.out; omega)]
    have HCP2 := Lib.hid (rcopyWk_any P a w51 HL51.out.inn (HGR.out.few1 (by omega)))
    go_upto_region 13 with (first
     | (refine wpList_load_box rfl 27 _ rfl g rfl (wkC P a) (HL51.out.b0) _ Tryz.underlying27 rfl size_wk ?_)
     | (go_at_call 15; refine HCP2.out.mono ?_; rintro e wq ⟨aq, rfl, hnq, hbq⟩)
     | (refine wpList_store_box rfl 27 _ _ rfl s0 0 (wkC P aq) (wkC zeroW zeroWA ++ [noAd.v]) (wkC P aq ++ [noAd.v]) rfl rfl ((HPS.out.bs.below HB51.out (by omega)).below hbq (by omega)) (show 0 + 9 ≤ 10 by decide) rfl size_wk rfl ?_; intro w6 bx6 T6))
    have t6 := T6 (fun j => j = s0) rfl
    have hzq := hbq.size
    have hz6 := t6.size
    have hnq6 : WNew w51.heap.size w6 P aq := hnq.touch t6 (fun j hj ho => by have := (hnq.core.lt ho).2; omega) (fun j hj ho => by have := (own_lt hnq.open_ ho).2; omega)
    have ht56 : Touch (fun j => j = s0) w5 w6 := ((Touch.of HB51.out).on (Touch.of hbq)).on t6
    have HT56 := Lib.hid ht56
    have hb36 : Below w3.heap.size w3 w6 := HB5.out.trans (ht56.below (fun j hj => by omega) (by have := HB5.out.size; omega))
    have HKT6 : Hid (w6.rangeAt (g + 1) 2 [.int .i64 x.t.s, .int .i64 x.t.q, .string x.t.k, .string x.t.v]) := act_txZ (HL.out w6 hb36).b1
    have hOn : P.O.length = aq.O.n := hnq6.oL
    have HON := Lib.hid hOn
    have hOn2 : aq.O.n < 64 := by have := HO.out; omega
    have HNQ := Lib.hid hnq6
    have HBX6 := Lib.hid bx6
    have hs6 : s0 < w6.heap.size := bx6.1
    have hB51 : w51.heap.size ≤ w6.heap.size := by omega
    have hs51 : s0 < w51.heap.size := by omega
    have HB36 := Lib.hid hb36
    clear hnq hbq t6 T6 bx6 hnq6 ht56 hb36 hOn HCP2 k3
    go_upto_region 13 with fail
    have hS0 : w6.drew.rangeAt (g + 1) 2 [.int .i64 x.t.s, .int .i64 x.t.q, .string x.t.k, .string x.t.v] := HKT6.out
    have kO : w6.drew.cell? ⟨s0, 3, none⟩ = some (.slice aq.O.A aq.O.n aq.O.c) := (HBX6.out.2 3 _ rfl).1
    have fO : w6.drew.frozen? ⟨s0, 3, none⟩ = false := (HBX6.out.2 3 _ rfl).2
    have HKX : Hid (∀ wX, Below w6.heap.size w6 wX → wX.rangeAt (g + 1) 2 [.int .i64 x.t.s, .int .i64 x.t.q, .string x.t.k, .string x.t.v] ∧ Box wX s0 (wkC P aq ++ [noAd.v]) ∧ WNew w51.heap.size wX P aq) := by
     show ∀ wX, _
     intro wX hX
     exact ⟨act_txZ (HL.out wX (HB36.out.trans (hX.mono HB36.out.size))).b1, HBX6.out.below hX HBX6.out.1, HNQ.out.below hX⟩
    refine wp_region_held_drew (S := fun w' => w'.rangeAt (g + 1) 2 [.int .i64 x.t.s, .int .i64 x.t.q, .string x.t.k, .string x.t.v]) (by kernel_rfl) hS0 (fun _ => ?_)
    refine ytake_0 (v := ?vv304) (by kernel_rfl) (by kernel_rfl) (by kernel_rfl) (fun _ _ _ h => h) (Or.inl ⟨by rfl, ?hy304⟩) hS0 ?_
    case hy304 =>
     intro wX hSw
     go_simp
     try with_reducible rfl
    try simp only [Act.put, List.setIfInBounds_toArray, List.set_cons_zero, List.set_cons_succ]
    refine ytake_1 (v := ?vv305) (by kernel_rfl) (by kernel_rfl) (by kernel_rfl) (fun _ _ _ h => h) (Or.inl ⟨by rfl, ?hy305⟩) hS0 ?_
    case hy305 =>
     intro wX hSw
     go_simp
     try with_reducible rfl
    try simp only [Act.put, List.setIfInBounds_toArray, List.set_cons_zero, List.set_cons_succ]
    refine ytake_2 (v := ?vv306) (by kernel_rfl) (by kernel_rfl) (by kernel_rfl) (fun _ _ _ h => h) (Or.inl ⟨by rfl, ?hy306⟩) hS0 ?_
    case hy306 =>
     intro wX hSw
     go_simp
     try with_reducible rfl
    try simp only [Act.put, List.setIfInBounds_toArray, List.set_cons_zero, List.set_cons_succ]
    refine ytake_3 (v := ?vv307) (by kernel_rfl) (by kernel_rfl) (by kernel_rfl) (fun _ _ _ h => h) (Or.inl ⟨by rfl, ?hy307⟩) hS0 ?_
    case hy307 =>
     intro wX hSw
     go_simp
     try with_reducible rfl
    try simp only [Act.put, List.setIfInBounds_toArray, List.set_cons_zero, List.set_cons_succ]
    refine ytake_4 (v := ?vv308) (by kernel_rfl) (by kernel_rfl) (by kernel_rfl) (fun _ _ _ h => h) (Or.inl ⟨by rfl, ?hy308⟩) hS0 ?_
    case hy308 =>
     intro wX hSw
     go_simp
     try with_reducible rfl
    try simp only [Act.put, List.setIfInBounds_toArray, List.set_cons_zero, List.set_cons_succ]
    refine ytake_6 (v := ?vv309) (by kernel_rfl) (by kernel_rfl) (by kernel_rfl) (fun _ _ _ h => h) (Or.inl ⟨by rfl, ?hy309⟩) hS0 ?_
    case hy309 =>
     intro wX hSw
     go_simp
     try with_reducible rfl
    try simp only [Act.put, List.setIfInBounds_toArray, List.set_cons_zero, List.set_cons_succ]
    refine ytake_7 (by kernel_rfl) (by kernel_rfl) (by kernel_rfl) (fun _ _ _ h => h) (yieldsIf_load_mid (by rfl) 40 _ rfl (g + 1) 2 rfl [.int .i64 x.t.s, .int .i64 x.t.q, .string x.t.k, .string x.t.v] _ (fun w' h => h) Tryz.underlying40 rfl size_tx) hS0 ?_
    try simp only [Act.put, List.setIfInBounds_toArray, List.set_cons_zero, List.set_cons_succ]
    refine yready_5_8 (by kernel_rfl) ?_ ?_
    ·intro KQ hK
     rw [if_pos (by rfl)]
     unfold Oper.wp execOp
     go_simp
     refine hK.out _ _ hS0 (fun _ => ?_)
     clear hK KQ
     try simp only [Act.put, List.setIfInBounds_toArray, List.set_cons_zero, List.set_cons_succ]
     obtain ⟨w7, hw7⟩ : ∃ w7, w7 = (w6.alloc (.cells #[.int .i64 x.t.s, .int .i64 x.t.q, .string x.t.k, .string x.t.v] 40)).drew := ⟨_, rfl⟩
     have hb7 : Below w6.heap.size w6 w7 := by rw [hw7]; exact ((Below.refl _ _).alloc (Nat.le_refl _) _).drew
     obtain ⟨hS7, bx7, hn7⟩ := HKX.out w7 hb7
     have k7 : w7.cell? ⟨s0, 3, none⟩ = some (.slice aq.O.A aq.O.n aq.O.c) := (bx7.2 3 _ rfl).1
     have f7 : w7.frozen? ⟨s0, 3, none⟩ = false := (bx7.2 3 _ rfl).2
     have hnew7 : ∀ i u, x.t.cells[i]? = some u → w7.cell? ⟨w6.heap.size, i, none⟩ = some u := by rw [hw7]; exact cells_new w6 x.t.cells 40
     have HW7 := Lib.hid hw7
     have hz7 := hb7.size
     have HB7 := Lib.hid hb7
     have hrow7 : w7.ownsRow w51.heap.size 40 4 (.slice aq.O.A aq.O.n aq.O.c) aq.O.n (txs P.O) := hn7.open_
     have HN7 := Lib.hid hn7
     have HX7 := Lib.hid bx7
     clear hw7 hb7 hn7 bx7
     refine yready_8 (by kernel_rfl) ?_
     intro KQ hK
     rw [if_pos (by rfl)]
     unfold Oper.wp execOp
     go_simp
     rw [← HW7.out]
     refine hK.out _ _ hS7 (fun _ => ?_)
     clear hK KQ
     try simp only [Act.put, List.setIfInBounds_toArray, List.set_cons_zero, List.set_cons_succ]
     refine yready_9 (by kernel_rfl) ?_
     intro KQ hK
     refine step_app_elemZ _ (by rfl) _ _ _ (by rfl) w51.heap.size 40 _ 4 48 Tryz.underlying22 info_tx rfl (by decide) (by decide) _ aq.O.n (txs P.O) (by rfl) hrow7 w6.heap.size x.t.cells (by rfl) (by rfl) hnew7 (cells_one x.t) (by omega) (by omega) ?_
     intro g' c' w8 ho8 hg8 hl8
     have T78 : Touch (fun j => aq.O.v.ownBlock = some j) w7 w8 := Touch.grown hg8 fun j hj => hj
     have hOb : ∀ j, aq.O.v.ownBlock = some j → w51.heap.size ≤ j := fun j hj => (own_lt HN7.out.open_ hj).2
     have bx8 := HX7.out.touch T78 (fun hf => by have := hOb s0 hf; omega)
     have hz8 := T78.size
     have hnew8 := HN7.out.setO (L := P.O ++ [x.t]) (o := ⟨some ⟨g', 0, none⟩, aq.O.n + 1, c'⟩) T78 (by rw [txs_append, txs_single]; exact ho8) (by rw [List.length_append, HON.out]; rfl) (fun j hj => by
      rcases hl8 with e | e
      ·exact .inl (e.trans hj)
      ·have : g' = j := by simpa [Ad.v, Value.ownBlock] using hj
       subst this
       exact .inr (by rw [e]; exact Nat.le_refl _))
     have hS8 : w8.rangeAt (g + 1) 2 [.int .i64 x.t.s, .int .i64 x.t.q, .string x.t.k, .string x.t.v] := fun j v hv => (World.cell?_of_block (a := ⟨g + 1, 2 + j, none⟩) (T78.block (g + 1) (by omega) (fun hf => by have := hOb _ hf; omega))).trans (hS7 j v hv)
     have k8 : w8.cell? ⟨s0, 3, none⟩ = some (.slice aq.O.A aq.O.n aq.O.c) := (bx8.2 3 _ rfl).1
     have f8 : w8.frozen? ⟨s0, 3, none⟩ = false := (bx8.2 3 _ rfl).2
     obtain ⟨w9, hw9⟩ : ∃ w9, w9 = w8.setCell ⟨s0, 3, none⟩ (.slice (some ⟨g', 0, none⟩) (aq.O.n + 1) c') := ⟨_, rfl⟩
     have t9 : Touch (fun j => j = s0) w8 w9 := by rw [hw9]; exact (Touch.refl (fun j => j = s0) w8).set (.inl rfl) _
     have bx9 : Box w9 s0 (wkC (addW P x.t) { aq with O := ⟨some ⟨g', 0, none⟩, aq.O.n + 1, c'⟩ } ++ [noAd.v]) := by rw [hw9]; exact bx8.set (j := 3) (show 3 < 10 by decide)
     have hn9 : WNew w51.heap.size w9 (addW P x.t) { aq with O := ⟨some ⟨g', 0, none⟩, aq.O.n + 1, c'⟩ } := hnew8.touch t9 (fun j hj ho => by have := (hnew8.core.lt ho).2; omega) (fun j hj ho => by have := (own_lt hnew8.open_ ho).2; omega)
     have hS9 : w9.rangeAt (g + 1) 2 [.int .i64 x.t.s, .int .i64 x.t.q, .string x.t.k, .string x.t.v] := fun j v hv => (World.cell?_of_block (a := ⟨g + 1, 2 + j, none⟩) (t9.block (g + 1) (by omega) (by omega))).trans (hS8 j v hv)
     have hT59 : Touch (fun j => j = s0) w5 w9 := Touch.trim ((((HT56.out.mono fun j hj => .inl hj).on (Touch.of HB7.out)).on (T78.mono fun j hj => .inr (by have := hOb j hj; omega))).on (t9.mono fun j hj => .inl hj))
     have HE9 : Hid (AddMid P x.t s0 w5 w9 0) := ⟨hT59, HEZ.out.symm, fun _ => ⟨_, st_box bx9 hn9 hs51⟩⟩
     have HW9 := Lib.hid hw9
     refine hK.out _ _ hS8 (fun _ => ?_)
     clear hK KQ hw9 bx8 hnew8 ho8 hg8 hl8 bx9 hn9 t9 T78
     try simp only [Act.put, List.setIfInBounds_toArray, List.set_cons_zero, List.set_cons_succ]
     refine ytake_10 (v := ?vv310) (by kernel_rfl) (by kernel_rfl) (by kernel_rfl) (fun _ _ _ h => h) (Or.inl ⟨by rfl, ?hy310⟩) hS8 ?_
     case hy310 =>
      intro wX hSw
      go_simp
      try with_reducible rfl
     try simp only [Act.put, List.setIfInBounds_toArray, List.set_cons_zero, List.set_cons_succ]
     refine ytake_11 (v := ?vv311) (by kernel_rfl) (by kernel_rfl) (by kernel_rfl) (fun _ _ _ h => h) (Or.inl ⟨by rfl, ?hy311⟩) hS8 ?_
     case hy311 =>
      intro wX hSw
      go_simp
      try with_reducible rfl
     try simp only [Act.put, List.setIfInBounds_toArray, List.set_cons_zero, List.set_cons_succ]
     refine ytake_12 (v := ?vv312) (by kernel_rfl) (by kernel_rfl) (by kernel_rfl) (fun _ _ _ h => h) (Or.inl ⟨by rfl, ?hy312⟩) hS8 ?_
     case hy312 =>
      intro wX hSw
      go_simp
      try with_reducible rfl
     try simp only [Act.put, List.setIfInBounds_toArray, List.set_cons_zero, List.set_cons_succ]
     refine yready_13 (by kernel_rfl) ?_
     intro KQ hK
     rw [if_pos (by rfl)]
     unfold Oper.wp execOp
     go_simp
     rw [← HW9.out]
     refine hK.out _ _ hS9 (fun _ => ?_)
     clear hK KQ
     refine wpAnyH_done (by kernel_rfl) ?_ _
     go_wp2_with fail
     go_meet
     exact ⟨0, rfl, HE9⟩
    ·obtain ⟨w7, hw7⟩ : ∃ w7, w7 = (w6.alloc (.cells #[.int .i64 x.t.s, .int .i64 x.t.q, .string x.t.k, .string x.t.v] 40)).drew := ⟨_, rfl⟩
     have hb7 : Below w6.heap.size w6 w7 := by rw [hw7]; exact ((Below.refl _ _).alloc (Nat.le_refl _) _).drew
     obtain ⟨hS7, bx7, hn7⟩ := HKX.out w7 hb7
     have k7 : w7.cell? ⟨s0, 3, none⟩ = some (.slice aq.O.A aq.O.n aq.O.c) := (bx7.2 3 _ rfl).1
     have f7 : w7.frozen? ⟨s0, 3, none⟩ = false := (bx7.2 3 _ rfl).2
     have hnew7 : ∀ i u, x.t.cells[i]? = some u → w7.cell? ⟨w6.heap.size, i, none⟩ = some u := by rw [hw7]; exact cells_new w6 x.t.cells 40
     have HW7 := Lib.hid hw7
     have hz7 := hb7.size
     have HB7 := Lib.hid hb7
     have hrow7 : w7.ownsRow w51.heap.size 40 4 (.slice aq.O.A aq.O.n aq.O.c) aq.O.n (txs P.O) := hn7.open_
     have HN7 := Lib.hid hn7
     have HX7 := Lib.hid bx7
     clear hw7 hb7 hn7 bx7
     intro KQ hK
     rw [if_pos (by rfl)]
     unfold Oper.wp execOp
     go_simp
     rw [← HW7.out]
     refine hK.out _ _ hS7 (fun _ => ?_)
     clear hK KQ
     try simp only [Act.put, List.setIfInBounds_toArray, List.set_cons_zero, List.set_cons_succ]
     refine yready_5 (by kernel_rfl) ?_
     intro KQ hK
     rw [if_pos (by rfl)]
     unfold Oper.wp execOp
     go_simp
     refine hK.out _ _ hS7 (fun _ => ?_)
     clear hK KQ
     try simp only [Act.put, List.setIfInBounds_toArray, List.set_cons_zero, List.set_cons_succ]
     refine yready_9 (by kernel_rfl) ?_
     intro KQ hK
     refine step_app_elemZ _ (by rfl) _ _ _ (by rfl) w51.heap.size 40 _ 4 48 Tryz.underlying22 info_tx rfl (by decide) (by decide) _ aq.O.n (txs P.O) (by rfl) hrow7 w6.heap.size x.t.cells (by rfl) (by rfl) hnew7 (cells_one x.t) (by omega) (by omega) ?_
     intro g' c' w8 ho8 hg8 hl8
     have T78 : Touch (fun j => aq.O.v.ownBlock = some j) w7 w8 := Touch.grown hg8 fun j hj => hj
     have hOb : ∀ j, aq.O.v.ownBlock = some j → w51.heap.size ≤ j := fun j hj => (own_lt HN7.out.open_ hj).2
     have bx8 := HX7.out.touch T78 (fun hf => by have := hOb s0 hf; omega)
     have hz8 := T78.size
     have hnew8 := HN7.out.setO (L := P.O ++ [x.t]) (o := ⟨some ⟨g', 0, none⟩, aq.O.n + 1, c'⟩) T78 (by rw [txs_append, txs_single]; exact ho8) (by rw [List.length_append, HON.out]; rfl) (fun j hj => by
      rcases hl8 with e | e
      ·exact .inl (e.trans hj)
      ·have : g' = j := by simpa [Ad.v, Value.ownBlock] using hj
       subst this
       exact .inr (by rw [e]; exact Nat.le_refl _))
     have hS8 : w8.rangeAt (g + 1) 2 [.int .i64 x.t.s, .int .i64 x.t.q, .string x.t.k, .string x.t.v] := fun j v hv => (World.cell?_of_block (a := ⟨g + 1, 2 + j, none⟩) (T78.block (g + 1) (by omega) (fun hf => by have := hOb _ hf; omega))).trans (hS7 j v hv)
     have k8 : w8.cell? ⟨s0, 3, none⟩ = some (.slice aq.O.A aq.O.n aq.O.c) := (bx8.2 3 _ rfl).1
     have f8 : w8.frozen? ⟨s0, 3, none⟩ = false := (bx8.2 3 _ rfl).2
     obtain ⟨w9, hw9⟩ : ∃ w9, w9 = w8.setCell ⟨s0, 3, none⟩ (.slice (some ⟨g', 0, none⟩) (aq.O.n + 1) c') := ⟨_, rfl⟩
     have t9 : Touch (fun j => j = s0) w8 w9 := by rw [hw9]; exact (Touch.refl (fun j => j = s0) w8).set (.inl rfl) _
     have bx9 : Box w9 s0 (wkC (addW P x.t) { aq with O := ⟨some ⟨g', 0, none⟩, aq.O.n + 1, c'⟩ } ++ [noAd.v]) := by rw [hw9]; exact bx8.set (j := 3) (show 3 < 10 by decide)
     have hn9 : WNew w51.heap.size w9 (addW P x.t) { aq with O := ⟨some ⟨g', 0, none⟩, aq.O.n + 1, c'⟩ } := hnew8.touch t9 (fun j hj ho => by have := (hnew8.core.lt ho).2; omega) (fun j hj ho => by have := (own_lt hnew8.open_ ho).2; omega)
     have hS9 : w9.rangeAt (g + 1) 2 [.int .i64 x.t.s, .int .i64 x.t.q, .string x.t.k, .string x.t.v] := fun j v hv => (World.cell?_of_block (a := ⟨g + 1, 2 + j, none⟩) (t9.block (g + 1) (by omega) (by omega))).trans (hS8 j v hv)
     have hT59 : Touch (fun j => j = s0) w5 w9 := Touch.trim ((((HT56.out.mono fun j hj => .inl hj).on (Touch.of HB7.out)).on (T78.mono fun j hj => .inr (by have := hOb j hj; omega))).on (t9.mono fun j hj => .inl hj))
     have HE9 : Hid (AddMid P x.t s0 w5 w9 0) := ⟨hT59, HEZ.out.symm, fun _ => ⟨_, st_box bx9 hn9 hs51⟩⟩
     have HW9 := Lib.hid hw9
     refine hK.out _ _ hS8 (fun _ => ?_)
     clear hK KQ hw9 bx8 hnew8 ho8 hg8 hl8 bx9 hn9 t9 T78
     try simp only [Act.put, List.setIfInBounds_toArray, List.set_cons_zero, List.set_cons_succ]
     refine ytake_10 (v := ?vv5310) (by kernel_rfl) (by kernel_rfl) (by kernel_rfl) (fun _ _ _ h => h) (Or.inl ⟨by rfl, ?hy5310⟩) hS8 ?_
     case hy5310 =>
      intro wX hSw
      go_simp
      try with_reducible rfl
     try simp only [Act.put, List.setIfInBounds_toArray, List.set_cons_zero, List.set_cons_succ]
     refine ytake_11 (v := ?vv5311) (by kernel_rfl) (by kernel_rfl) (by kernel_rfl) (fun _ _ _ h => h) (Or.inl ⟨by rfl, ?hy5311⟩) hS8 ?_
     case hy5311 =>
      intro wX hSw
      go_simp
      try with_reducible rfl
     try simp only [Act.put, List.setIfInBounds_toArray, List.set_cons_zero, List.set_cons_succ]
     refine ytake_12 (v := ?vv5312) (by kernel_rfl) (by kernel_rfl) (by kernel_rfl) (fun _ _ _ h => h) (Or.inl ⟨by rfl, ?hy5312⟩) hS8 ?_
     case hy5312 =>
      intro wX hSw
      go_simp
      try with_reducible rfl
     try simp only [Act.put, List.setIfInBounds_toArray, List.set_cons_zero, List.set_cons_succ]
     refine yready_13 (by kernel_rfl) ?_
     intro KQ hK
     rw [if_pos (by rfl)]
     unfold Oper.wp execOp
     go_simp
     rw [← HW9.out]
     refine hK.out _ _ hS9 (fun _ => ?_)
     clear hK KQ
     refine wpAnyH_done (by kernel_rfl) ?_ _
     go_wp2_with fail
     go_meet
     exact ⟨0, rfl, HE9⟩
   ·have i1 : ¬ ((a.O.n : Int) < 64) := by omega
    have HE : Hid (AddMid P x.t s0 w5 w51 8) := by
     refine ⟨Touch.of HB51.out, ?_, fun h => absurd h (by decide)⟩
     rw [ifMay_yes HM2.out, addE, if_pos HTX.out, if_neg (by have := HO.out; omega)]
    go_wp2_with fail
    go_meet
    exact ⟨8, rfl, HE⟩
 case rest =>
 obtain ⟨E, rfl, HAM⟩ := hcut
 rename World => w6
 have HB56 : Hid (Touch (fun j => j = s0) w5 w6) := HAM.out.touch
 have hz56 := HB56.out.size
 have HB6 : Hid (Below w3.heap.size w3 w6) := HB5.out.trans (HB56.out.below (fun j hj => by omega) (by have := HB5.out.size; omega))
 have HL6 := Lib.hid (HL.out w6 HB6.out)
 have HKT6 : Hid (w6.rangeAt (g + 1) 2 [.int .i64 x.t.s, .int .i64 x.t.q, .string x.t.k, .string x.t.v]) := act_txZ HL6.out.b1
 have hkt := add_any P a6 x.t w6 HL6.out.in6 (HGR.out.few1 (by omega))
 rw [← HAM.out.err] at hkt
 by_cases hE : E = 0
 ·obtain ⟨Q, hQ⟩ : ∃ Q, Q = addW P x.t := ⟨_, rfl⟩
  obtain ⟨l, hl⟩ : ∃ l : List OtD, l = [] := ⟨_, rfl⟩
  have hst : ∃ (asx : WkA) (os : Ad) (mss : List (OtD × Ad)), StAt s0 s0 w6 Q asx l os mss := by
   obtain ⟨asx, h⟩ := HAM.out.st hE
   exact ⟨asx, noAd, [], by rw [hQ, hl]; exact h⟩
  obtain ⟨asx, os, mss, hst⟩ := hst
  have HST6 : Hid (StAt s0 s0 w6 Q asx l os mss) := hst
  have HGQ : Hid (Grown (k + 1) Q) := by show Grown _ _; rw [hQ]; exact HGR.out.add x.t
  have HSH : Hid (ShortO l) := by show ShortO _; rw [hl]; exact short_none
  have HLZ := Lib.hid hl
  have HSG2 : Hid (¬ s0 = g + 2) := by show ¬ _; omega
  have HSQ : Hid (s0 ≠ s0 + 1) := by show s0 ≠ _; omega
  rw [hE, orW, if_pos rfl, ← hQ] at hkt
  have HKT := Lib.hid hkt
  subst hE
  clear hst hQ hl hkt
  go_upto_region 51 with (first
   | (refine wpList_load_box rfl 27 _ rfl q6 rfl (wkC P a6) (HL6.out.b6) _ Tryz.underlying27 rfl size_wk ?_)
   | (refine wpList_load_mid rfl 40 _ rfl (g + 1) 2 rfl [.int .i64 x.t.s, .int .i64 x.t.q, .string x.t.k, .string x.t.v] _ HKT6.out Tryz.underlying40 rfl size_tx ?_)
   | (go_at_call 66; refine HKT.out.mono ?_; rintro e w7 ⟨ax, rfl, hnx7, hb7⟩)
   | (refine wpList_store_box rfl 27 _ _ rfl (s0 + 1) 0 (wkC Q ax) (zeroC) (wkC Q ax) rfl rfl (((HPS.out.bq.touch HB56.out (by omega)).below hb7 (by omega))) (show 0 + 9 ≤ 9 by decide) rfl size_wk rfl ?_; intro w9 bx9 T9))
  have hnx := hnx7
  have hox : RowOwn KM w6.heap.size w7 noAd [] := rowOwn_none _ _
  have hex : ([] : List (OtD × Ad)).map Prod.fst = l := by rw [HLZ.out]; rfl
  have hap : ∀ y ∈ ([] : List (OtD × Ad)), ∀ j, y.2.v.ownBlock = some j → ax.O.v.ownBlock ≠ some j ∧ ∀ z ∈ ax.hs, z.2.v.ownBlock ≠ some j := fun y hy => by simp at hy
  have t9 := T9 (fun j => j = s0 + 1) rfl
  obtain ⟨C, hC⟩ : ∃ C, C = w6.heap.size := ⟨_, rfl⟩
  rw [← hC] at hnx hox
  have hz7 := hb7.size
  have hz9 := t9.size
  have hz56 := HB56.out.size
  have hC9 : C ≤ w9.heap.size := by omega
  have hCs : s0 + 1 < C := by omega
  have HNX : Hid (WNew C w9 Q ax) := hnx.touch t9 (fun j hj ho => by have := (hnx.core.lt ho).2; omega) (fun j hj ho => by have := (own_lt hnx.open_ ho).2; omega)
  have HOX : Hid (RowOwn KM C w9 noAd ([] : List (OtD × Ad))) := hox.touch t9 (fun j hj hf => by have := (own_lt hox.row hj).2; omega) (fun y hy j hj hf => by have := (own_lt (hox.sub y hy).1 hj).2; omega)
  have HEX : Hid (([] : List (OtD × Ad)).map Prod.fst = l) := hex
  have HAPX : Hid (∀ y ∈ ([] : List (OtD × Ad)), ∀ j, y.2.v.ownBlock = some j → ax.O.v.ownBlock ≠ some j ∧ ∀ z ∈ ax.hs, z.2.v.ownBlock ≠ some j) := by show ∀ y ∈ ([] : List (OtD × Ad)), _; exact hap
  have HBXQ : Hid (Box w9 (s0 + 1) (wkC Q ax)) := bx9
  have hty6 := (HB56.out.block (s0 + 1) (by omega) (by omega)).trans HPS.out.ty
  have HSW : Hid (∀ wX, Below C w9 wX → StAt s0 s0 wX Q asx l os mss) := by
   show ∀ wX, _
   intro wX hX
   refine HST6.out.late2 hty6 HSQ.out ?_
   rw [← hC]
   exact (((Touch.ofB hb7).mono fun j hj => .inr (by omega)).on (t9.mono fun j hj => .inl hj)).on ((Touch.ofB hX).mono fun j hj => .inr hj)
  have HB9 : Hid (Below w3.heap.size w3 w9) := (HB6.out.trans (hb7.mono (by omega))).trans (t9.below (fun j hj => by omega) (by omega))
  have HS9 : Hid (StAt s0 s0 w9 Q asx l os mss) := HSW.out w9 (Below.refl _ _)
  clear hnx hox hex hap hb7 bx9 t9 T9 hty6 hC
  go_upto_region 53 with fail
  have HBX : Hid (∀ wX, Below w9.heap.size w9 wX → Box wX (s0 + 1) (wkC Q ax) ∧ Box wX s0 (wkC Q asx) ∧ Box wX q6 (wkC P a6) ∧ Box wX g (wkC P a) ∧ wX.cell? ⟨s0, 9, none⟩ = some (.slice os.A os.n os.c)) := by
   show ∀ wX, _
   intro wX hX
   have hl := HL.out wX (HB9.out.trans (hX.mono HB9.out.size))
   have hst := HS9.out.below hX
   exact ⟨HBXQ.out.below hX HBXQ.out.1, hst.wk, hl.b6, hl.b0, (hst.box.2 9 _ rfl).1⟩
  have HIQ : Hid (∀ wX, Below w9.heap.size w9 wX → WIn wX Q ax ∧ WIn wX Q asx ∧ WIn wX P a6 ∧ WIn wX P a ∧ RowIn KM wX noAd ([] : List (OtD × Ad)) ∧ RowIn KM wX os mss) := by
   show ∀ wX, _
   intro wX hX
   have hl := HL.out wX (HB9.out.trans (hX.mono HB9.out.size))
   have hst := HS9.out.below hX
   exact ⟨(HNX.out.below hX).in_, hst.pg.in_, hl.in6, hl.inn, (HOX.out.below hX).in_, hst.out.in_⟩
  have hls : ([] : List (OtD × Ad)).length ≤ 1000000 ∧ mss.length ≤ 1000000 := ⟨by rw [← List.length_map (f := Prod.fst), HEX.out]; exact HSH.out.1, by rw [HS9.out.lenOZ]; exact HSH.out.1⟩
  have HLS := Lib.hid hls
  have HLY : Hid (∀ y ∈ ([] : List (OtD × Ad)), KM.len y.1 ≤ 1000000) := by
   show ∀ y ∈ ([] : List (OtD × Ad)), _
   exact fun y hy => Nat.le_trans (HSH.out.2 y.1 (by rw [← HEX.out]; exact List.mem_map_of_mem hy)) (by decide)
  have HLT : Hid (∀ y ∈ mss, KM.len y.1 ≤ 1000000) := by
   show ∀ y ∈ mss, _
   exact fun y hy => Nat.le_trans (HSH.out.2 y.1 (by rw [← HS9.out.eO]; exact List.mem_map_of_mem hy)) (by decide)
  clear hls
  have hS0 : Below w9.heap.size w9 w9.drew := (Below.refl _ _).drew
  refine wp_region_held_drew (S := fun w' => Below w9.heap.size w9 w') (by kernel_rfl) hS0 (fun _ => ?_)
  refine ytake_0 (v := ?vv813) (by kernel_rfl) (by kernel_rfl) (by kernel_rfl) (fun _ _ _ h => h) (Or.inl ⟨by rfl, ?hy813⟩) hS0 ?_
  case hy813 =>
   intro wX hSw
   go_simp
   try with_reducible rfl
  try simp only [Act.put, List.setIfInBounds_toArray, List.set_cons_zero, List.set_cons_succ]
  refine ytake_2 (v := ?vv814) (by kernel_rfl) (by kernel_rfl) (by kernel_rfl) (fun _ _ _ h => h) (Or.inl ⟨by rfl, ?hy814⟩) hS0 ?_
  case hy814 =>
   intro wX hSw
   go_simp
   try with_reducible rfl
  try simp only [Act.put, List.setIfInBounds_toArray, List.set_cons_zero, List.set_cons_succ]
  refine yready_1 (by kernel_rfl) ?_
  intro KQ hK
  rw [if_pos (by rfl)]
  try go_simp
  refine (num13_any _ _).mono ?_
  rintro e w' ⟨rfl, rfl⟩
  refine hK.out _ _ hS0 (fun _ => ?_)
  clear hK KQ
  try simp only [Act.put, List.setIfInBounds_toArray, List.set_cons_zero, List.set_cons_succ]
  refine ytake_3 (v := ?vv815) (by kernel_rfl) (by kernel_rfl) (by kernel_rfl) (fun _ _ _ h => h) (Or.inl ⟨by rfl, ?hy815⟩) hS0 ?_
  case hy815 =>
   intro wX hSw
   go_simp
   try with_reducible rfl
  try simp only [Act.put, List.setIfInBounds_toArray, List.set_cons_zero, List.set_cons_succ]
  refine ytake_4 (v := ?vv816) (by kernel_rfl) (by kernel_rfl) (by kernel_rfl) (fun _ _ _ h => h) (Or.inl ⟨by rfl, ?hy816⟩) hS0 ?_
  case hy816 =>
   intro wX hSw
   go_simp
   try with_reducible rfl
  try simp only [Act.put, List.setIfInBounds_toArray, List.set_cons_zero, List.set_cons_succ]
  refine ytake_5 (by kernel_rfl) (by kernel_rfl) (by kernel_rfl) (fun _ _ _ h => h) (yieldsIf_load_mid (by rfl) 27 _ rfl (s0 + 1) 0 rfl (wkC Q ax) _ (fun w' h => box_rangeZ ((HBX.out w' h).1)) Tryz.underlying27 rfl size_wk) hS0 ?_
  try simp only [Act.put, List.setIfInBounds_toArray, List.set_cons_zero, List.set_cons_succ]
  refine ytake_6 (v := ?vv817) (by kernel_rfl) (by kernel_rfl) (by kernel_rfl) (fun _ _ _ h => h) (Or.inl ⟨by rfl, ?hy817⟩) hS0 ?_
  case hy817 =>
   intro wX hSw
   go_simp
   try with_reducible rfl
  try simp only [Act.put, List.setIfInBounds_toArray, List.set_cons_zero, List.set_cons_succ]
  refine ytake_7 (v := ?vv818) (by kernel_rfl) (by kernel_rfl) (by kernel_rfl) (fun _ _ _ h => h) (Or.inl ⟨by rfl, ?hy818⟩) hS0 ?_
  case hy818 =>
   intro wX hSw
   go_simp
   try with_reducible rfl
  try simp only [Act.put, List.setIfInBounds_toArray, List.set_cons_zero, List.set_cons_succ]
  refine ytake_8 (v := ?vv819) (by kernel_rfl) (by kernel_rfl) (by kernel_rfl) (fun _ _ _ h => h) (Or.inl ⟨by rfl, ?hy819⟩) hS0 ?_
  case hy819 =>
   intro wX hSw
   go_simp
   try with_reducible rfl
  try simp only [Act.put, List.setIfInBounds_toArray, List.set_cons_zero, List.set_cons_succ]
  refine ytake_9 (by kernel_rfl) (by kernel_rfl) (by kernel_rfl) (fun _ _ _ h => h) (yieldsIf_load_mid (by rfl) 27 _ rfl s0 0 rfl (wkC Q asx) _ (fun w' h => box_rangeZ ((HBX.out w' h).2.1)) Tryz.underlying27 rfl size_wk) hS0 ?_
  try simp only [Act.put, List.setIfInBounds_toArray, List.set_cons_zero, List.set_cons_succ]
  refine yready_10 (by kernel_rfl) ?_
  intro KQ hK
  rw [if_pos (by rfl)]
  try go_simp
  refine (reqWk_is true Q Q ax asx _ (by simp) ((HIQ.out _ hS0).1) ((HIQ.out _ hS0).2.1) (HGQ.out.few1 (by omega)) (HGQ.out.few1 (by omega))).mono ?_
  rintro e w10 ⟨rfl, hc10⟩
  have hS10 : Below w9.heap.size w9 w10 := hS0.trans (hc10.mono hS0.size)
  refine hK.out _ _ hS10 (fun _ => ?_)
  clear hK KQ
  try simp only [Act.put, List.setIfInBounds_toArray, List.set_cons_zero, List.set_cons_succ]
  refine ytake_11 (v := ?vv820) (by kernel_rfl) (by kernel_rfl) (by kernel_rfl) (fun _ _ _ h => h) (Or.inl ⟨by rfl, ?hy820⟩) hS10 ?_
  case hy820 =>
   intro wX hSw
   go_simp
   try with_reducible rfl
  try simp only [Act.put, List.setIfInBounds_toArray, List.set_cons_zero, List.set_cons_succ]
  refine ytake_12 (v := ?vv821) (by kernel_rfl) (by kernel_rfl) (by kernel_rfl) (fun _ _ _ h => h) (Or.inl ⟨by rfl, ?hy821⟩) hS10 ?_
  case hy821 =>
   intro wX hSw
   go_simp
   try with_reducible rfl
  try simp only [Act.put, List.setIfInBounds_toArray, List.set_cons_zero, List.set_cons_succ]
  refine ytake_13 (v := ?vv822) (by kernel_rfl) (by kernel_rfl) (by kernel_rfl) (fun _ _ _ h => h) (Or.inl ⟨by rfl, ?hy822⟩) hS10 ?_
  case hy822 =>
   intro wX hSw
   go_simp
   try with_reducible rfl
  try simp only [Act.put, List.setIfInBounds_toArray, List.set_cons_zero, List.set_cons_succ]
  refine ytake_14 (v := ?vv823) (by kernel_rfl) (by kernel_rfl) (by kernel_rfl) (fun _ _ _ h => h) (Or.inl ⟨by rfl, ?hy823⟩) hS10 ?_
  case hy823 =>
   intro wX hSw
   go_simp
   try with_reducible rfl
  try simp only [Act.put, List.setIfInBounds_toArray, List.set_cons_zero, List.set_cons_succ]
  refine ytake_15 (v := ?vv824) (by kernel_rfl) (by kernel_rfl) (by kernel_rfl) (fun _ _ _ h => h) (Or.inl ⟨by rfl, ?hy824⟩) hS10 ?_
  case hy824 =>
   intro wX hSw
   go_simp
   try with_reducible rfl
  try simp only [Act.put, List.setIfInBounds_toArray, List.set_cons_zero, List.set_cons_succ]
  refine ytake_16 (v := ?vv825) (by kernel_rfl) (by kernel_rfl) (by kernel_rfl) (fun _ _ _ h => h) (Or.inl ⟨by rfl, ?hy825⟩) hS10 ?_
  case hy825 =>
   intro wX hSw
   go_simp
   try with_reducible rfl
  try simp only [Act.put, List.setIfInBounds_toArray, List.set_cons_zero, List.set_cons_succ]
  refine ytake_17 (v := ?vv826) (by kernel_rfl) (by kernel_rfl) (by kernel_rfl) (fun _ _ _ h => h) (Or.inl ⟨by rfl, ?hy826⟩) hS10 ?_
  case hy826 =>
   intro wX hSw
   have k9 := (HBX.out _ hSw).2.2.2.2
   go_simp
   try with_reducible rfl
  try simp only [Act.put, List.setIfInBounds_toArray, List.set_cons_zero, List.set_cons_succ]
  refine yready_18 (by kernel_rfl) ?_
  intro KQ hK
  rw [if_pos (by rfl)]
  try go_simp
  refine (reqMessages_is true noAd os ([] : List (OtD × Ad)) mss w10 (by rw [HEX.out, HS9.out.eO]; simp) (HIQ.out _ hS10).2.2.2.2.1 (HIQ.out _ hS10).2.2.2.2.2 HLS.out.1 HLS.out.2 HLY.out HLT.out).mono ?_
  rintro e w11 ⟨rfl, hc18⟩
  have hS11 : Below w9.heap.size w9 w11 := hS10.trans (hc18.mono hS10.size)
  refine hK.out _ _ hS11 (fun _ => ?_)
  clear hK KQ
  try simp only [Act.put, List.setIfInBounds_toArray, List.set_cons_zero, List.set_cons_succ]
  refine ytake_19 (v := ?vv827) (by kernel_rfl) (by kernel_rfl) (by kernel_rfl) (fun _ _ _ h => h) (Or.inl ⟨by rfl, ?hy827⟩) hS11 ?_
  case hy827 =>
   intro wX hSw
   go_simp
   try with_reducible rfl
  try simp only [Act.put, List.setIfInBounds_toArray, List.set_cons_zero, List.set_cons_succ]
  refine ytake_20 (v := ?vv828) (by kernel_rfl) (by kernel_rfl) (by kernel_rfl) (fun _ _ _ h => h) (Or.inl ⟨by rfl, ?hy828⟩) hS11 ?_
  case hy828 =>
   intro wX hSw
   go_simp
   try with_reducible rfl
  try simp only [Act.put, List.setIfInBounds_toArray, List.set_cons_zero, List.set_cons_succ]
  refine ytake_21 (by kernel_rfl) (by kernel_rfl) (by kernel_rfl) (fun _ _ _ h => h) (yieldsIf_load_mid (by rfl) 27 _ rfl q6 0 rfl (wkC P a6) _ (fun w' h => box_rangeZ ((HBX.out w' h).2.2.1)) Tryz.underlying27 rfl size_wk) hS11 ?_
  try simp only [Act.put, List.setIfInBounds_toArray, List.set_cons_zero, List.set_cons_succ]
  refine ytake_22 (by kernel_rfl) (by kernel_rfl) (by kernel_rfl) (fun _ _ _ h => h) (yieldsIf_load_mid (by rfl) 27 _ rfl g 0 rfl (wkC P a) _ (fun w' h => box_rangeZ ((HBX.out w' h).2.2.2.1)) Tryz.underlying27 rfl size_wk) hS11 ?_
  try simp only [Act.put, List.setIfInBounds_toArray, List.set_cons_zero, List.set_cons_succ]
  refine yready_23 (by kernel_rfl) ?_
  intro KQ hK
  rw [if_pos (by rfl)]
  try go_simp
  refine (reqWk_is true P P a6 a _ (by simp) ((HIQ.out _ hS11).2.2.1) ((HIQ.out _ hS11).2.2.2.1) (HGR.out.few1 (by omega)) (HGR.out.few1 (by omega))).mono ?_
  rintro e w12 ⟨rfl, hc23⟩
  have hS12 : Below w9.heap.size w9 w12 := hS11.trans (hc23.mono hS11.size)
  refine hK.out _ _ hS12 (fun _ => ?_)
  clear hK KQ
  try simp only [Act.put, List.setIfInBounds_toArray, List.set_cons_zero, List.set_cons_succ]
  refine ytake_24 (v := ?vv829) (by kernel_rfl) (by kernel_rfl) (by kernel_rfl) (fun _ _ _ h => h) (Or.inl ⟨by rfl, ?hy829⟩) hS12 ?_
  case hy829 =>
   intro wX hSw
   go_simp
   try with_reducible rfl
  try simp only [Act.put, List.setIfInBounds_toArray, List.set_cons_zero, List.set_cons_succ]
  refine ytake_25 (v := ?vv830) (by kernel_rfl) (by kernel_rfl) (by kernel_rfl) (fun _ _ _ h => h) (Or.inl ⟨by rfl, ?hy830⟩) hS12 ?_
  case hy830 =>
   intro wX hSw
   go_simp
   try with_reducible rfl
  try simp only [Act.put, List.setIfInBounds_toArray, List.set_cons_zero, List.set_cons_succ]
  refine wpAnyH_done (by kernel_rfl) ?_ _
  have hb12 : Below w3.heap.size w3 w12 := HB9.out.trans (hS12.mono HB9.out.size)
  have HB12' := Lib.hid hb12
  have HB912 := Lib.hid hS12
  have hz12 := hS12.size
  have HNX12 : Hid (WNew C w12 Q ax) := HNX.out.below hS12
  have HOX12 : Hid (RowOwn KM C w12 noAd ([] : List (OtD × Ad))) := HOX.out.below hS12
  have HSPW := Lib.hid (spoilWk_far C Q ax w12 HNX12.out (HGQ.out.few4 (by omega)))
  have HXB12 := Lib.hid (HBX.out w12 hS12).1
  clear hS0 hS10 hS11 hS12 hb12
  go_upto_region 55 with (first
   | (refine wpList_load_box rfl 27 _ rfl (s0 + 1) rfl (wkC Q ax) (HXB12.out) _ Tryz.underlying27 rfl size_wk ?_)
   | (go_at_call 68; refine HSPW.out.mono ?_; rintro e w13 ⟨rfl, ht13⟩))
  have ht13' : Touch (fun j => ax.owns j ∨ ax.O.v.ownBlock = some j) w12 w13 := ht13
  have hz13 := ht13'.size
  have HB1213 : Hid (Below C w12 w13) := ht13'.below (fun j hj => by
   rcases hj with hj | hj
   ·exact (HNX12.out.core.lt hj).2
   ·exact (own_lt HNX12.out.open_ hj).2) (by omega)
  have hrow13 : RowOwn KM C w13 noAd ([] : List (OtD × Ad)) := spoilt_row HNX12.out HOX12.out HAPX.out ht13'
  have HSPM := Lib.hid (spoilMsgs_any C noAd _ w13 (hrow13.rowM (fun y hy => HLY.out y hy)) (by rw [List.length_map]; exact HLS.out.1) (by omega))
  clear ht13 ht13' hrow13
  unfold Ad.v at HSPM
  go_upto_region 56 with (go_at_call 58; refine HSPM.out.mono ?_; rintro e w14 ⟨rfl, hb14⟩)
  have hz14 := hb14.size
  have hb1214 : Below C w12 w14 := HB1213.out.trans hb14
  have hb9 : Below C w9 w14 := (HB912.out.mono (by omega)).trans hb1214
  have hb314 : Below w3.heap.size w3 w14 := HB9.out.trans (hb9.mono (by omega))
  have HB914 := Lib.hid hb9
  have HB14 := Lib.hid hb314
  clear hb14 hb1214 hb9 hb314 HSPM HSPW
  have HLX : Hid (∀ wX, Below w14.heap.size w14 wX → LateZ w wX P a a6 x g q6) := by
   show ∀ wX, _
   exact fun wX hX => HL.out wX (HB14.out.trans (hX.mono HB14.out.size))
  have hlx := HLX.out w14 (Below.refl _ _)
  have HST14 : Hid (∀ wX, Below w14.heap.size w14 wX → StAt s0 s0 wX Q asx l os mss) := by
   show ∀ wX, _
   exact fun wX hX => (HSW.out w14 HB914.out).below hX
  have hsx := (HST14.out w14 (Below.refl _ _)).wk
  have HBT : Hid (∀ wX, Touch (fun j => j = g + 2) w14 wX → Box wX g (wkC P a) ∧ Box wX q6 (wkC P a6) ∧ Box wX s0 (wkC Q asx)) := by
   show ∀ wX, _
   exact fun wX hX => ⟨hlx.b0.touch hX (by omega), hlx.b6.touch hX (by omega), hsx.touch hX HSG2.out⟩
  clear hsx
  clear hlx
  go_upto_region 58 with fail
  have hB0 : Below w14.heap.size w14 w14.drew := (Below.refl _ _).drew
  have hS0 : Touch (fun j => j = g + 2) w14 w14.drew := Touch.of hB0
  refine wp_region_held_drew (S := fun w' => Touch (fun j => j = g + 2) w14 w') (by kernel_rfl) hS0 (fun _ => ?_)
  refine ytake_0 (v := ?vv831) (by kernel_rfl) (by kernel_rfl) (by kernel_rfl) (fun _ _ _ h => h) (Or.inl ⟨by rfl, ?hy831⟩) hS0 ?_
  case hy831 =>
   intro wX hSw
   go_simp
   try with_reducible rfl
  try simp only [Act.put, List.setIfInBounds_toArray, List.set_cons_zero, List.set_cons_succ]
  refine ytake_1 (v := ?vv832) (by kernel_rfl) (by kernel_rfl) (by kernel_rfl) (fun _ _ _ h => h) (Or.inl ⟨by rfl, ?hy832⟩) hS0 ?_
  case hy832 =>
   intro wX hSw
   go_simp
   try with_reducible rfl
  try simp only [Act.put, List.setIfInBounds_toArray, List.set_cons_zero, List.set_cons_succ]
  refine ytake_2 (v := ?vv833) (by kernel_rfl) (by kernel_rfl) (by kernel_rfl) (fun _ _ _ h => h) (Or.inl ⟨by rfl, ?hy833⟩) hS0 ?_
  case hy833 =>
   intro wX hSw
   go_simp
   try with_reducible rfl
  try simp only [Act.put, List.setIfInBounds_toArray, List.set_cons_zero, List.set_cons_succ]
  refine ytake_3 (by kernel_rfl) (by kernel_rfl) (by kernel_rfl) (fun _ _ _ h => h) (yieldsIf_load_mid (by rfl) 27 _ rfl s0 0 rfl (wkC Q asx) _ (fun w' h => box_rangeZ ((HBT.out w' h).2.2)) Tryz.underlying27 rfl size_wk) hS0 ?_
  try simp only [Act.put, List.setIfInBounds_toArray, List.set_cons_zero, List.set_cons_succ]
  refine ytake_4 (v := ?vv834) (by kernel_rfl) (by kernel_rfl) (by kernel_rfl) (fun _ _ _ h => h) (Or.inl ⟨by rfl, ?hy834⟩) hS0 ?_
  case hy834 =>
   intro wX hSw
   go_simp
   try with_reducible rfl
  try simp only [Act.put, List.setIfInBounds_toArray, List.set_cons_zero, List.set_cons_succ]
  refine ytake_5 (v := ?vv835) (by kernel_rfl) (by kernel_rfl) (by kernel_rfl) (fun _ _ _ h => h) (Or.inl ⟨by rfl, ?hy835⟩) hS0 ?_
  case hy835 =>
   intro wX hSw
   go_simp
   try with_reducible rfl
  try simp only [Act.put, List.setIfInBounds_toArray, List.set_cons_zero, List.set_cons_succ]
  refine ytake_6 (by kernel_rfl) (by kernel_rfl) (by kernel_rfl) (fun _ _ _ h => h) (yieldsIf_load_mid (by rfl) 27 _ rfl q6 0 rfl (wkC P a6) _ (fun w' h => box_rangeZ ((HBT.out w' h).2.1)) Tryz.underlying27 rfl size_wk) hS0 ?_
  try simp only [Act.put, List.setIfInBounds_toArray, List.set_cons_zero, List.set_cons_succ]
  refine ytake_7 (by kernel_rfl) (by kernel_rfl) (by kernel_rfl) (fun _ _ _ h => h) (yieldsIf_load_mid (by rfl) 27 _ rfl g 0 rfl (wkC P a) _ (fun w' h => box_rangeZ ((HBT.out w' h).1)) Tryz.underlying27 rfl size_wk) hS0 ?_
  try simp only [Act.put, List.setIfInBounds_toArray, List.set_cons_zero, List.set_cons_succ]
  refine yready_8 (by kernel_rfl) ?_
  intro KQ hK
  rw [if_pos (by rfl)]
  try go_simp
  refine (reqWk_is true P P a6 a _ (by simp) (HLX.out _ hB0).in6 (HLX.out _ hB0).inn (HGR.out.few1 (by omega)) (HGR.out.few1 (by omega))).mono ?_
  rintro e w15 ⟨rfl, hc15⟩
  have hB15 : Below w14.heap.size w14 w15 := hB0.trans (hc15.mono hB0.size)
  have hS15 : Touch (fun j => j = g + 2) w14 w15 := Touch.of hB15
  refine hK.out _ _ hS15 (fun _ => ?_)
  clear hK KQ
  try simp only [Act.put, List.setIfInBounds_toArray, List.set_cons_zero, List.set_cons_succ]
  refine ytake_9 (v := ?vv836) (by kernel_rfl) (by kernel_rfl) (by kernel_rfl) (fun _ _ _ h => h) (Or.inl ⟨by rfl, ?hy836⟩) hS15 ?_
  case hy836 =>
   intro wX hSw
   go_simp
   try with_reducible rfl
  try simp only [Act.put, List.setIfInBounds_toArray, List.set_cons_zero, List.set_cons_succ]
  have hlz := HLX.out w15 hB15
  refine yready_10 (by kernel_rfl) ?_
  intro KQ hK
  rw [if_pos (by rfl)]
  refine wp_store_boxY 27 _ _ rfl (g + 2) 0 (wkC Q asx) zeroC (wkC Q asx) rfl rfl hlz.b2 (show 0 + 9 ≤ 9 by decide) rfl size_wk rfl ?_
  intro w16 bx16 T16
  have t16 := T16 (fun j => j = g + 2) rfl
  have hS16 : Touch (fun j => j = g + 2) w14 w16 := hS15.on t16
  refine hK.out _ _ hS16 (fun _ => ?_)
  clear hK KQ
  simp only [Act.put]
  refine ytake_11 (v := ?vv837) (by kernel_rfl) (by kernel_rfl) (by kernel_rfl) (fun _ _ _ h => h) (Or.inl ⟨by rfl, ?hy837⟩) hS16 ?_
  case hy837 =>
   intro wX hSw
   go_simp
   try with_reducible rfl
  try simp only [Act.put, List.setIfInBounds_toArray, List.set_cons_zero, List.set_cons_succ]
  refine wpAnyH_done (by kernel_rfl) ?_ _
  have hres : Below w.heap.size w w16 := hlz.bel.trans (t16.below (fun j hj => by have := HG.out; omega) hlz.bel.size)
  have HRES := Lib.hid hres
  have HWI : Hid (WIn w16 Q asx) := by
   show WIn _ _ _
   have hst := HST14.out w15 hB15
   exact (hst.far t16 (fun j hj => by
    subst hj
    exact ⟨fun e => HSG2.out e.symm, hst.other hlz.ty⟩)).pg.in_
  have HBR := Lib.hid bx16
  clear hres hlz t16 T16 bx16 hB0 hS0 hB15 hS15 hS16
  go_wp2_with fail
  refine bodyPost_ret (v := .tuple #[wkV Q asx, .bool true]) (sres _ _ (g + 2) _ _ true rfl rfl HBR.out) rfl ⟨Q, asx, rfl, HWI.out, HGQ.out, HRES.out⟩
 ·have jE : (E == 0) = false := by simp [hE]
  have jE2 : (E != 0) = true := by simp [hE]
  rw [orW_no hE] at hkt
  have HKT := Lib.hid hkt
  clear hkt
  go_upto_region 51 with (first
   | (refine wpList_load_box rfl 27 _ rfl q6 rfl (wkC P a6) (HL6.out.b6) _ Tryz.underlying27 rfl size_wk ?_)
   | (refine wpList_load_mid rfl 40 _ rfl (g + 1) 2 rfl [.int .i64 x.t.s, .int .i64 x.t.q, .string x.t.k, .string x.t.v] _ HKT6.out Tryz.underlying40 rfl size_tx ?_)
   | (go_at_call 66; refine HKT.out.mono ?_; rintro e w7 ⟨ax, rfl, hnx7, hb7⟩)
   | (refine wpList_store_box rfl 27 _ _ rfl (s0 + 1) 0 (wkC zeroW ax) (zeroC) (wkC zeroW ax) rfl rfl (((HPS.out.bq.touch HB56.out (by omega)).below hb7 (by omega))) (show 0 + 9 ≤ 9 by decide) rfl size_wk rfl ?_; intro w8 bx8 T8))
  have hnx := hnx7
  have hox : RowOwn KM w6.heap.size w7 noAd [] := rowOwn_none _ _
  have hex : ([] : List (OtD × Ad)).map Prod.fst = ([] : List OtD) := rfl
  have hap : ∀ y ∈ ([] : List (OtD × Ad)), ∀ j, y.2.v.ownBlock = some j → ax.O.v.ownBlock ≠ some j ∧ ∀ z ∈ ax.hs, z.2.v.ownBlock ≠ some j := fun y hy => by simp at hy
  have t8 := T8 (fun j => j = s0 + 1) rfl
  have hz7 := hb7.size
  have hz8 := t8.size
  have hz56 := HB56.out.size
  have hnx8 := hnx.touch t8 (fun j hj ho => by have := (hnx.core.lt ho).2; omega) (fun j hj ho => by have := (own_lt hnx.open_ ho).2; omega)
  have hox8 := hox.touch t8 (fun j hj hf => by have := (own_lt hox.row hj).2; omega) (fun y hy j hj hf => by have := (own_lt (hox.sub y hy).1 hj).2; omega)
  have hb8 : Below w3.heap.size w3 w8 := (HB6.out.trans (hb7.mono (by omega))).trans (t8.below (fun j hj => by omega) (by omega))
  have HNX8 := Lib.hid hnx8
  have HOX8 := Lib.hid hox8
  have HEX0 : Hid (([] : List (OtD × Ad)).map Prod.fst = []) := hex
  have HAPX : Hid (∀ y ∈ ([] : List (OtD × Ad)), ∀ j, y.2.v.ownBlock = some j → ax.O.v.ownBlock ≠ some j ∧ ∀ z ∈ ax.hs, z.2.v.ownBlock ≠ some j) := by show ∀ y ∈ ([] : List (OtD × Ad)), _; exact hap
  have HBX8 : Hid (Box w8 (s0 + 1) (wkC zeroW ax)) := bx8
  have HB8 := Lib.hid hb8
  have h68 : w6.heap.size ≤ w8.heap.size := by omega
  clear hnx hox hex hap hb7 bx8 t8 T8 hnx8 hox8 hb8
  go_upto_region 53 with fail
  obtain ⟨w9, hw9⟩ : ∃ z, z = w8.alloc (.cells #[.int .i64 0, .int .i64 0, .int .i64 0, .slice none 0 0, .int .i64 0, .int .i64 0, .slice none 0 0, .slice none 0 0, .slice none 0 0, .slice none 0 0] 75) := ⟨_, rfl⟩
  obtain ⟨s, hs⟩ : ∃ z, z = w8.heap.size := ⟨_, rfl⟩
  have hst9 : ∃ (B : Nat) (asx : WkA) (os : Ad) (mss : List (OtD × Ad)), StAt s B w9 zeroW asx [] os mss := ⟨w8.heap.size, zeroWA, noAd, [], by rw [hw9, hs]; exact st_newZ (wNew_zero _ w8) (Nat.le_refl _)⟩
  rw [← hw9, ← hs]
  have hb89 : Below w8.heap.size w8 w9 := by rw [hw9]; exact (Below.refl _ _).alloc (Nat.le_refl _) _
  obtain ⟨B, asx, os, mss, hst9⟩ := hst9
  obtain ⟨C, hC⟩ : ∃ C, C = w6.heap.size := ⟨_, rfl⟩
  obtain ⟨Q, hQ⟩ : ∃ Q, Q = zeroW := ⟨_, rfl⟩
  obtain ⟨l, hl⟩ : ∃ l : List OtD, l = [] := ⟨_, rfl⟩
  have hz9 := hb89.size
  have hC9 : C ≤ w9.heap.size := by omega
  have HS9 : Hid (StAt s B w9 Q asx l os mss) := by show StAt _ _ _ _ _ _ _ _; rw [hQ, hl]; exact hst9
  have HNX : Hid (WNew C w9 Q ax) := by show WNew _ _ _ _; rw [hC, hQ]; exact HNX8.out.below hb89
  have HOX : Hid (RowOwn KM C w9 noAd ([] : List (OtD × Ad))) := by show RowOwn _ _ _ _ _; rw [hC]; exact HOX8.out.below hb89
  have HEX : Hid (([] : List (OtD × Ad)).map Prod.fst = l) := by show _ = _; rw [hl]; exact HEX0.out
  have HBXQ : Hid (Box w9 (s0 + 1) (wkC Q ax)) := by show Box _ _ _; rw [hQ]; exact HBX8.out.below hb89 HBX8.out.1
  have HB9 : Hid (Below w3.heap.size w3 w9) := HB8.out.trans (hb89.mono HB8.out.size)
  have HGQ : Hid (Grown (k + 1) Q) := by show Grown _ _; rw [hQ]; exact grown_zero _
  have HSH : Hid (ShortO l) := by show ShortO _; rw [hl]; exact short_none
  have hCs : s0 + 1 < C := by omega
  clear hw9 hs hst9 hb89 hC hQ hl HNX8 HOX8 HEX0 HBX8
  have HBX : Hid (∀ wX, Below w9.heap.size w9 wX → Box wX (s0 + 1) (wkC Q ax) ∧ Box wX s (wkC Q asx) ∧ Box wX q6 (wkC P a6) ∧ Box wX g (wkC P a) ∧ wX.cell? ⟨s, 9, none⟩ = some (.slice os.A os.n os.c)) := by
   show ∀ wX, _
   intro wX hX
   have hl := HL.out wX (HB9.out.trans (hX.mono HB9.out.size))
   have hst := HS9.out.below hX
   exact ⟨HBXQ.out.below hX HBXQ.out.1, hst.wk, hl.b6, hl.b0, (hst.box.2 9 _ rfl).1⟩
  have HIQ : Hid (∀ wX, Below w9.heap.size w9 wX → WIn wX Q ax ∧ WIn wX Q asx ∧ WIn wX P a6 ∧ WIn wX P a ∧ RowIn KM wX noAd ([] : List (OtD × Ad)) ∧ RowIn KM wX os mss) := by
   show ∀ wX, _
   intro wX hX
   have hl := HL.out wX (HB9.out.trans (hX.mono HB9.out.size))
   have hst := HS9.out.below hX
   exact ⟨(HNX.out.below hX).in_, hst.pg.in_, hl.in6, hl.inn, (HOX.out.below hX).in_, hst.out.in_⟩
  have hls : ([] : List (OtD × Ad)).length ≤ 1000000 ∧ mss.length ≤ 1000000 := ⟨by rw [← List.length_map (f := Prod.fst), HEX.out]; exact HSH.out.1, by rw [HS9.out.lenOZ]; exact HSH.out.1⟩
  have HLS := Lib.hid hls
  have HLY : Hid (∀ y ∈ ([] : List (OtD × Ad)), KM.len y.1 ≤ 1000000) := by
   show ∀ y ∈ ([] : List (OtD × Ad)), _
   exact fun y hy => Nat.le_trans (HSH.out.2 y.1 (by rw [← HEX.out]; exact List.mem_map_of_mem hy)) (by decide)
  have HLT : Hid (∀ y ∈ mss, KM.len y.1 ≤ 1000000) := by
   show ∀ y ∈ mss, _
   exact fun y hy => Nat.le_trans (HSH.out.2 y.1 (by rw [← HS9.out.eO]; exact List.mem_map_of_mem hy)) (by decide)
  clear hls
  have hS0 : Below w9.heap.size w9 w9.drew := (Below.refl _ _).drew
  refine wp_region_held_drew (S := fun w' => Below w9.heap.size w9 w') (by kernel_rfl) hS0 (fun _ => ?_)
  refine ytake_0 (v := ?vv838) (by kernel_rfl) (by kernel_rfl) (by kernel_rfl) (fun _ _ _ h => h) (Or.inl ⟨by rfl, ?hy838⟩) hS0 ?_
  case hy838 =>
   intro wX hSw
   go_simp
   try with_reducible rfl
  try simp only [Act.put, List.setIfInBounds_toArray, List.set_cons_zero, List.set_cons_succ]
  refine ytake_2 (v := ?vv839) (by kernel_rfl) (by kernel_rfl) (by kernel_rfl) (fun _ _ _ h => h) (Or.inl ⟨by rfl, ?hy839⟩) hS0 ?_
  case hy839 =>
   intro wX hSw
   go_simp
   try with_reducible rfl
  try simp only [Act.put, List.setIfInBounds_toArray, List.set_cons_zero, List.set_cons_succ]
  refine yready_1 (by kernel_rfl) ?_
  intro KQ hK
  rw [if_pos (by rfl)]
  try go_simp
  refine (num13_any _ _).mono ?_
  rintro e w' ⟨rfl, rfl⟩
  refine hK.out _ _ hS0 (fun _ => ?_)
  clear hK KQ
  try simp only [Act.put, List.setIfInBounds_toArray, List.set_cons_zero, List.set_cons_succ]
  refine ytake_3 (v := ?vv840) (by kernel_rfl) (by kernel_rfl) (by kernel_rfl) (fun _ _ _ h => h) (Or.inl ⟨by rfl, ?hy840⟩) hS0 ?_
  case hy840 =>
   intro wX hSw
   go_simp
   try with_reducible rfl
  try simp only [Act.put, List.setIfInBounds_toArray, List.set_cons_zero, List.set_cons_succ]
  refine ytake_4 (v := ?vv841) (by kernel_rfl) (by kernel_rfl) (by kernel_rfl) (fun _ _ _ h => h) (Or.inl ⟨by rfl, ?hy841⟩) hS0 ?_
  case hy841 =>
   intro wX hSw
   go_simp
   try with_reducible rfl
  try simp only [Act.put, List.setIfInBounds_toArray, List.set_cons_zero, List.set_cons_succ]
  refine ytake_5 (by kernel_rfl) (by kernel_rfl) (by kernel_rfl) (fun _ _ _ h => h) (yieldsIf_load_mid (by rfl) 27 _ rfl (s0 + 1) 0 rfl (wkC Q ax) _ (fun w' h => box_rangeZ ((HBX.out w' h).1)) Tryz.underlying27 rfl size_wk) hS0 ?_
  try simp only [Act.put, List.setIfInBounds_toArray, List.set_cons_zero, List.set_cons_succ]
  refine ytake_6 (v := ?vv842) (by kernel_rfl) (by kernel_rfl) (by kernel_rfl) (fun _ _ _ h => h) (Or.inl ⟨by rfl, ?hy842⟩) hS0 ?_
  case hy842 =>
   intro wX hSw
   go_simp
   try with_reducible rfl
  try simp only [Act.put, List.setIfInBounds_toArray, List.set_cons_zero, List.set_cons_succ]
  refine ytake_7 (v := ?vv843) (by kernel_rfl) (by kernel_rfl) (by kernel_rfl) (fun _ _ _ h => h) (Or.inl ⟨by rfl, ?hy843⟩) hS0 ?_
  case hy843 =>
   intro wX hSw
   go_simp
   try with_reducible rfl
  try simp only [Act.put, List.setIfInBounds_toArray, List.set_cons_zero, List.set_cons_succ]
  refine ytake_8 (v := ?vv844) (by kernel_rfl) (by kernel_rfl) (by kernel_rfl) (fun _ _ _ h => h) (Or.inl ⟨by rfl, ?hy844⟩) hS0 ?_
  case hy844 =>
   intro wX hSw
   go_simp
   try with_reducible rfl
  try simp only [Act.put, List.setIfInBounds_toArray, List.set_cons_zero, List.set_cons_succ]
  refine ytake_9 (by kernel_rfl) (by kernel_rfl) (by kernel_rfl) (fun _ _ _ h => h) (yieldsIf_load_mid (by rfl) 27 _ rfl s 0 rfl (wkC Q asx) _ (fun w' h => box_rangeZ ((HBX.out w' h).2.1)) Tryz.underlying27 rfl size_wk) hS0 ?_
  try simp only [Act.put, List.setIfInBounds_toArray, List.set_cons_zero, List.set_cons_succ]
  refine yready_10 (by kernel_rfl) ?_
  intro KQ hK
  rw [if_pos (by rfl)]
  try go_simp
  refine (reqWk_is true Q Q ax asx _ (by simp) ((HIQ.out _ hS0).1) ((HIQ.out _ hS0).2.1) (HGQ.out.few1 (by omega)) (HGQ.out.few1 (by omega))).mono ?_
  rintro e w10 ⟨rfl, hc10⟩
  have hS10 : Below w9.heap.size w9 w10 := hS0.trans (hc10.mono hS0.size)
  refine hK.out _ _ hS10 (fun _ => ?_)
  clear hK KQ
  try simp only [Act.put, List.setIfInBounds_toArray, List.set_cons_zero, List.set_cons_succ]
  refine ytake_11 (v := ?vv845) (by kernel_rfl) (by kernel_rfl) (by kernel_rfl) (fun _ _ _ h => h) (Or.inl ⟨by rfl, ?hy845⟩) hS10 ?_
  case hy845 =>
   intro wX hSw
   go_simp
   try with_reducible rfl
  try simp only [Act.put, List.setIfInBounds_toArray, List.set_cons_zero, List.set_cons_succ]
  refine ytake_12 (v := ?vv846) (by kernel_rfl) (by kernel_rfl) (by kernel_rfl) (fun _ _ _ h => h) (Or.inl ⟨by rfl, ?hy846⟩) hS10 ?_
  case hy846 =>
   intro wX hSw
   go_simp
   try with_reducible rfl
  try simp only [Act.put, List.setIfInBounds_toArray, List.set_cons_zero, List.set_cons_succ]
  refine ytake_13 (v := ?vv847) (by kernel_rfl) (by kernel_rfl) (by kernel_rfl) (fun _ _ _ h => h) (Or.inl ⟨by rfl, ?hy847⟩) hS10 ?_
  case hy847 =>
   intro wX hSw
   go_simp
   try with_reducible rfl
  try simp only [Act.put, List.setIfInBounds_toArray, List.set_cons_zero, List.set_cons_succ]
  refine ytake_14 (v := ?vv848) (by kernel_rfl) (by kernel_rfl) (by kernel_rfl) (fun _ _ _ h => h) (Or.inl ⟨by rfl, ?hy848⟩) hS10 ?_
  case hy848 =>
   intro wX hSw
   go_simp
   try with_reducible rfl
  try simp only [Act.put, List.setIfInBounds_toArray, List.set_cons_zero, List.set_cons_succ]
  refine ytake_15 (v := ?vv849) (by kernel_rfl) (by kernel_rfl) (by kernel_rfl) (fun _ _ _ h => h) (Or.inl ⟨by rfl, ?hy849⟩) hS10 ?_
  case hy849 =>
   intro wX hSw
   go_simp
   try with_reducible rfl
  try simp only [Act.put, List.setIfInBounds_toArray, List.set_cons_zero, List.set_cons_succ]
  refine ytake_16 (v := ?vv850) (by kernel_rfl) (by kernel_rfl) (by kernel_rfl) (fun _ _ _ h => h) (Or.inl ⟨by rfl, ?hy850⟩) hS10 ?_
  case hy850 =>
   intro wX hSw
   go_simp
   try with_reducible rfl
  try simp only [Act.put, List.setIfInBounds_toArray, List.set_cons_zero, List.set_cons_succ]
  refine ytake_17 (v := ?vv851) (by kernel_rfl) (by kernel_rfl) (by kernel_rfl) (fun _ _ _ h => h) (Or.inl ⟨by rfl, ?hy851⟩) hS10 ?_
  case hy851 =>
   intro wX hSw
   have k9 := (HBX.out _ hSw).2.2.2.2
   go_simp
   try with_reducible rfl
  try simp only [Act.put, List.setIfInBounds_toArray, List.set_cons_zero, List.set_cons_succ]
  refine yready_18 (by kernel_rfl) ?_
  intro KQ hK
  rw [if_pos (by rfl)]
  try go_simp
  refine (reqMessages_is true noAd os ([] : List (OtD × Ad)) mss w10 (by rw [HEX.out, HS9.out.eO]; simp) (HIQ.out _ hS10).2.2.2.2.1 (HIQ.out _ hS10).2.2.2.2.2 HLS.out.1 HLS.out.2 HLY.out HLT.out).mono ?_
  rintro e w11 ⟨rfl, hc18⟩
  have hS11 : Below w9.heap.size w9 w11 := hS10.trans (hc18.mono hS10.size)
  refine hK.out _ _ hS11 (fun _ => ?_)
  clear hK KQ
  try simp only [Act.put, List.setIfInBounds_toArray, List.set_cons_zero, List.set_cons_succ]
  refine ytake_19 (v := ?vv852) (by kernel_rfl) (by kernel_rfl) (by kernel_rfl) (fun _ _ _ h => h) (Or.inl ⟨by rfl, ?hy852⟩) hS11 ?_
  case hy852 =>
   intro wX hSw
   go_simp
   try with_reducible rfl
  try simp only [Act.put, List.setIfInBounds_toArray, List.set_cons_zero, List.set_cons_succ]
  refine ytake_20 (v := ?vv853) (by kernel_rfl) (by kernel_rfl) (by kernel_rfl) (fun _ _ _ h => h) (Or.inl ⟨by rfl, ?hy853⟩) hS11 ?_
  case hy853 =>
   intro wX hSw
   go_simp
   try with_reducible rfl
  try simp only [Act.put, List.setIfInBounds_toArray, List.set_cons_zero, List.set_cons_succ]
  refine ytake_21 (by kernel_rfl) (by kernel_rfl) (by kernel_rfl) (fun _ _ _ h => h) (yieldsIf_load_mid (by rfl) 27 _ rfl q6 0 rfl (wkC P a6) _ (fun w' h => box_rangeZ ((HBX.out w' h).2.2.1)) Tryz.underlying27 rfl size_wk) hS11 ?_
  try simp only [Act.put, List.setIfInBounds_toArray, List.set_cons_zero, List.set_cons_succ]
  refine ytake_22 (by kernel_rfl) (by kernel_rfl) (by kernel_rfl) (fun _ _ _ h => h) (yieldsIf_load_mid (by rfl) 27 _ rfl g 0 rfl (wkC P a) _ (fun w' h => box_rangeZ ((HBX.out w' h).2.2.2.1)) Tryz.underlying27 rfl size_wk) hS11 ?_
  try simp only [Act.put, List.setIfInBounds_toArray, List.set_cons_zero, List.set_cons_succ]
  refine yready_23 (by kernel_rfl) ?_
  intro KQ hK
  rw [if_pos (by rfl)]
  try go_simp
  refine (reqWk_is true P P a6 a _ (by simp) ((HIQ.out _ hS11).2.2.1) ((HIQ.out _ hS11).2.2.2.1) (HGR.out.few1 (by omega)) (HGR.out.few1 (by omega))).mono ?_
  rintro e w12 ⟨rfl, hc23⟩
  have hS12 : Below w9.heap.size w9 w12 := hS11.trans (hc23.mono hS11.size)
  refine hK.out _ _ hS12 (fun _ => ?_)
  clear hK KQ
  try simp only [Act.put, List.setIfInBounds_toArray, List.set_cons_zero, List.set_cons_succ]
  refine ytake_24 (v := ?vv854) (by kernel_rfl) (by kernel_rfl) (by kernel_rfl) (fun _ _ _ h => h) (Or.inl ⟨by rfl, ?hy854⟩) hS12 ?_
  case hy854 =>
   intro wX hSw
   go_simp
   try with_reducible rfl
  try simp only [Act.put, List.setIfInBounds_toArray, List.set_cons_zero, List.set_cons_succ]
  refine ytake_25 (v := ?vv855) (by kernel_rfl) (by kernel_rfl) (by kernel_rfl) (fun _ _ _ h => h) (Or.inl ⟨by rfl, ?hy855⟩) hS12 ?_
  case hy855 =>
   intro wX hSw
   go_simp
   try with_reducible rfl
  try simp only [Act.put, List.setIfInBounds_toArray, List.set_cons_zero, List.set_cons_succ]
  refine wpAnyH_done (by kernel_rfl) ?_ _
  have hb12 : Below w3.heap.size w3 w12 := HB9.out.trans (hS12.mono HB9.out.size)
  have HB12' := Lib.hid hb12
  have HB912 := Lib.hid hS12
  have hz12 := hS12.size
  have HNX12 : Hid (WNew C w12 Q ax) := HNX.out.below hS12
  have HOX12 : Hid (RowOwn KM C w12 noAd ([] : List (OtD × Ad))) := HOX.out.below hS12
  have HSPW := Lib.hid (spoilWk_far C Q ax w12 HNX12.out (HGQ.out.few4 (by omega)))
  have HXB12 := Lib.hid (HBX.out w12 hS12).1
  clear hS0 hS10 hS11 hS12 hb12
  go_upto_region 55 with (first
   | (refine wpList_load_box rfl 27 _ rfl (s0 + 1) rfl (wkC Q ax) (HXB12.out) _ Tryz.underlying27 rfl size_wk ?_)
   | (go_at_call 68; refine HSPW.out.mono ?_; rintro e w13 ⟨rfl, ht13⟩))
  have ht13' : Touch (fun j => ax.owns j ∨ ax.O.v.ownBlock = some j) w12 w13 := ht13
  have hz13 := ht13'.size
  have HB1213 : Hid (Below C w12 w13) := ht13'.below (fun j hj => by
   rcases hj with hj | hj
   ·exact (HNX12.out.core.lt hj).2
   ·exact (own_lt HNX12.out.open_ hj).2) (by omega)
  have hrow13 : RowOwn KM C w13 noAd ([] : List (OtD × Ad)) := spoilt_row HNX12.out HOX12.out HAPX.out ht13'
  have HSPM := Lib.hid (spoilMsgs_any C noAd _ w13 (hrow13.rowM (fun y hy => HLY.out y hy)) (by rw [List.length_map]; exact HLS.out.1) (by omega))
  clear ht13 ht13' hrow13
  unfold Ad.v at HSPM
  go_upto_region 56 with (go_at_call 58; refine HSPM.out.mono ?_; rintro e w14 ⟨rfl, hb14⟩)
  have hz14 := hb14.size
  have hb1214 : Below C w12 w14 := HB1213.out.trans hb14
  have hb9 : Below C w9 w14 := (HB912.out.mono (by omega)).trans hb1214
  have hb314 : Below w3.heap.size w3 w14 := HB9.out.trans (hb9.mono (by omega))
  have HB914 := Lib.hid hb9
  have HB14 := Lib.hid hb314
  clear hb14 hb1214 hb9 hb314 HSPM HSPW
  have HLX : Hid (∀ wX, Below w14.heap.size w14 wX → LateZ w wX P a a6 x g q6) := by
   show ∀ wX, _
   exact fun wX hX => HL.out wX (HB14.out.trans (hX.mono HB14.out.size))
  have hlx := HLX.out w14 (Below.refl _ _)
  have HBT : Hid (∀ wX, Touch (fun j => j = g + 2) w14 wX → Box wX g (wkC P a) ∧ Box wX q6 (wkC P a6)) := by
   show ∀ wX, _
   exact fun wX hX => ⟨hlx.b0.touch hX (by omega), hlx.b6.touch hX (by omega)⟩
  clear hlx
  go_upto_region 57 with fail
  have hB0 : Below w14.heap.size w14 w14.drew := (Below.refl _ _).drew
  have hS0 : Touch (fun j => j = g + 2) w14 w14.drew := Touch.of hB0
  refine wp_region_held_drew (S := fun w' => Touch (fun j => j = g + 2) w14 w') (by kernel_rfl) hS0 (fun _ => ?_)
  refine ytake_0 (by kernel_rfl) (by kernel_rfl) (by kernel_rfl) (fun _ _ _ h => h) (yieldsIf_load_mid (by rfl) 27 _ rfl g 0 rfl (wkC P a) _ (fun w' h => box_rangeZ ((HBT.out w' h).1)) Tryz.underlying27 rfl size_wk) hS0 ?_
  try simp only [Act.put, List.setIfInBounds_toArray, List.set_cons_zero, List.set_cons_succ]
  refine ytake_1 (v := ?vv856) (by kernel_rfl) (by kernel_rfl) (by kernel_rfl) (fun _ _ _ h => h) (Or.inl ⟨by rfl, ?hy856⟩) hS0 ?_
  case hy856 =>
   intro wX hSw
   go_simp
   try with_reducible rfl
  try simp only [Act.put, List.setIfInBounds_toArray, List.set_cons_zero, List.set_cons_succ]
  refine ytake_2 (v := ?vv857) (by kernel_rfl) (by kernel_rfl) (by kernel_rfl) (fun _ _ _ h => h) (Or.inl ⟨by rfl, ?hy857⟩) hS0 ?_
  case hy857 =>
   intro wX hSw
   go_simp
   try with_reducible rfl
  try simp only [Act.put, List.setIfInBounds_toArray, List.set_cons_zero, List.set_cons_succ]
  refine ytake_3 (by kernel_rfl) (by kernel_rfl) (by kernel_rfl) (fun _ _ _ h => h) (yieldsIf_load_mid (by rfl) 27 _ rfl q6 0 rfl (wkC P a6) _ (fun w' h => box_rangeZ ((HBT.out w' h).2)) Tryz.underlying27 rfl size_wk) hS0 ?_
  try simp only [Act.put, List.setIfInBounds_toArray, List.set_cons_zero, List.set_cons_succ]
  refine ytake_4 (by kernel_rfl) (by kernel_rfl) (by kernel_rfl) (fun _ _ _ h => h) (yieldsIf_load_mid (by rfl) 27 _ rfl g 0 rfl (wkC P a) _ (fun w' h => box_rangeZ ((HBT.out w' h).1)) Tryz.underlying27 rfl size_wk) hS0 ?_
  try simp only [Act.put, List.setIfInBounds_toArray, List.set_cons_zero, List.set_cons_succ]
  refine yready_5 (by kernel_rfl) ?_
  intro KQ hK
  rw [if_pos (by rfl)]
  try go_simp
  refine (reqWk_is true P P a6 a _ (by simp) (HLX.out _ hB0).in6 (HLX.out _ hB0).inn (HGR.out.few1 (by omega)) (HGR.out.few1 (by omega))).mono ?_
  rintro e w15 ⟨rfl, hc15⟩
  have hB15 : Below w14.heap.size w14 w15 := hB0.trans (hc15.mono hB0.size)
  have hS15 : Touch (fun j => j = g + 2) w14 w15 := Touch.of hB15
  refine hK.out _ _ hS15 (fun _ => ?_)
  clear hK KQ
  try simp only [Act.put, List.setIfInBounds_toArray, List.set_cons_zero, List.set_cons_succ]
  refine ytake_6 (v := ?vv858) (by kernel_rfl) (by kernel_rfl) (by kernel_rfl) (fun _ _ _ h => h) (Or.inl ⟨by rfl, ?hy858⟩) hS15 ?_
  case hy858 =>
   intro wX hSw
   go_simp
   try with_reducible rfl
  try simp only [Act.put, List.setIfInBounds_toArray, List.set_cons_zero, List.set_cons_succ]
  have hlz := HLX.out w15 hB15
  refine yready_7 (by kernel_rfl) ?_
  intro KQ hK
  rw [if_pos (by rfl)]
  refine wp_store_boxY 27 _ _ rfl (g + 2) 0 (wkC P a) zeroC (wkC P a) rfl rfl hlz.b2 (show 0 + 9 ≤ 9 by decide) rfl size_wk rfl ?_
  intro w16 bx16 T16
  have t16 := T16 (fun j => j = g + 2) rfl
  have hS16 : Touch (fun j => j = g + 2) w14 w16 := hS15.on t16
  refine hK.out _ _ hS16 (fun _ => ?_)
  clear hK KQ
  simp only [Act.put]
  refine ytake_8 (v := ?vv859) (by kernel_rfl) (by kernel_rfl) (by kernel_rfl) (fun _ _ _ h => h) (Or.inl ⟨by rfl, ?hy859⟩) hS16 ?_
  case hy859 =>
   intro wX hSw
   go_simp
   try with_reducible rfl
  try simp only [Act.put, List.setIfInBounds_toArray, List.set_cons_zero, List.set_cons_succ]
  refine wpAnyH_done (by kernel_rfl) ?_ _
  have hres : Below w.heap.size w w16 := hlz.bel.trans (t16.below (fun j hj => by have := HG.out; omega) hlz.bel.size)
  have HRES := Lib.hid hres
  have HWI : Hid (WIn w16 P a) := by
   show WIn _ _ _
   exact HINW.out.below hres
  have HBR := Lib.hid bx16
  clear hres hlz t16 T16 bx16 hB0 hS0 hB15 hS15 hS16
  go_wp2_with fail
  refine bodyPost_ret (v := .tuple #[wkV P a, .bool true]) (sres _ _ (g + 2) _ _ true rfl rfl HBR.out) rfl ⟨P, a, rfl, HWI.out, HGR.out.more (Nat.le_succ k), HRES.out⟩

end Go.Proofs.YteepobghdpnabaaGreat
