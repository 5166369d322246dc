/-
 Package worker's Took.
-/
import Derived.WalkKit
import Derived.Below
import Derived.Deep.Draws
import Derived.Deep.AppendLies
import Derived.Lib.AppendStr
import Derived.Lib.ConvBytes
import Derived.Lib.Hide
import Derived.Test.YteepobghdpnabaaGreatRows
import Derived.WalkSpells
import Derived.WalkLawsBesides
import Derived.Deep.QuietTactic
import Derived.BigQuiet
import Derived.LoopTactic
import Derived.Outline
import Derived.Laws.StructEq
import Derived.Deep.RegionHeld3
import Derived.OneCell
import Derived.IntWalk
import Derived.ProofKit
import Derived.OpenShut
import Derived.SliceStrings
import Derived.ChangeSlices
import Derived.Deep.Slices
import Derived.Deep.Fields
import Derived.ChangeOld
import Derived.Carry
import Derived.SizedLaws
import Derived.ScopeJumps
import Derived.Deep.MidRow
import Derived.Deep.DeepCutAuto
import Derived.Deep.CutRange
import Derived.Deep.RegionLaw
import Derived.BigRegion
import Derived.Maps.OwnSet
import Derived.Laws.Rows
import Derived.Laws.CopyRow
import Derived.Lib.AppendZerosOnto
import Derived.Lib.Overlaps
import Derived.StillTailTactics
import Derived.Laws.Externs
import Derived.Deep.CutBlock
import Derived.Deep.Heap
import Derived.Test.YteepobghdpnabaaGreatKWorkerTicksa
import Derived.Test.YteepobghdpnabaaGreatKWorkerTicksb
import Derived.Test.YteepobghdpnabaaGreatKWorkerTicksc
import Derived.Test.YteepobghdpnabaaGreatKWorkerTicksd
import Derived.Test.YteepobghdpnabaaGreatKWorkerTickse
import Derived.Test.YteepobghdpnabaaGreatKWorkerTicksf
import Derived.Test.YteepobghdpnabaaGreatKWorkerTicksg
import Derived.Test.YteepobghdpnabaaGreatKWorkerTicksh
import Derived.Test.YteepobghdpnabaaGreatKWorkerTicksi
import Derived.Test.YteepobghdpnabaaGreatKWorkerTicksj
import Derived.Test.YteepobghdpnabaaGreatKWorkerTicksk
import Derived.Test.YteepobghdpnabaaGreatKWorkerTicksl
import Derived.Test.YteepobghdpnabaaGreatKWorkerTicksm
import Derived.Test.YteepobghdpnabaaGreatKWorkerTicksn
import Derived.Test.YteepobghdpnabaaGreatKWorkerTickso
import Derived.Test.YteepobghdpnabaaGreatKWorkerTicksp
import Derived.Test.YteepobghdpnabaaGreatKWorkerTicksq
import Derived.Test.YteepobghdpnabaaGreatKWorkerTicksr
import Derived.Test.YteepobghdpnabaaGreatKWorkerTickss
import Derived.Test.YteepobghdpnabaaGreatKWorkerTickst
import Derived.Test.YteepobghdpnabaaGreatKWorkerTicksu
import Derived.Test.YteepobghdpnabaaGreatKWorkerTicksv
import Derived.Test.YteepobghdpnabaaGreatKWorkerTicksw
import Derived.Test.YteepobghdpnabaaGreatKWorkerTicksx
import Derived.Test.YteepobghdpnabaaGreatKWorkerTicksy
import Derived.Test.YteepobghdpnabaaGreatKWorkerTicksz
import Derived.Test.YteepobghdpnabaaGreatKWorkerTicksaa
import Derived.Test.YteepobghdpnabaaGreatKWorkerTicksab
import Derived.Test.YteepobghdpnabaaGreatKWorkerTicksac
import Derived.Test.YteepobghdpnabaaGreatKWorkerTicksad
import Derived.Test.YteepobghdpnabaaGreatKWorkerTicksae
import Derived.Test.YteepobghdpnabaaGreatKWorkerTicksaf
import Derived.Test.YteepobghdpnabaaGreatKWorkerTicksag
import Derived.Test.YteepobghdpnabaaGreatKWorkerTicksah
import Derived.Test.YteepobghdpnabaaGreatKWorkerTicksai
import Derived.Test.YteepobghdpnabaaGreatKWorkerTicksaj
import Derived.Test.YteepobghdpnabaaGreatKWorkerTicksak
import Derived.Test.YteepobghdpnabaaGreatKWorkerTicksal
import Derived.Test.YteepobghdpnabaaGreatKWorkerTicksam
import Derived.Test.YteepobghdpnabaaGreatKWorkerTicksan
import Derived.Test.YteepobghdpnabaaGreatKWorkerTicksao
import Derived.Test.YteepobghdpnabaaGreatKWorkerTicksap
import Derived.Test.YteepobghdpnabaaGreatKWorkerTicksaq
import Derived.Test.YteepobghdpnabaaGreatKWorkerTicksar
import Derived.Test.YteepobghdpnabaaGreatHWorkerTooksa
namespace Go.Proofs.YteepobghdpnabaaGreat
open Go.RowKit

theorem digB_of_bet {l : List Int} (h : betB 1 65536 l = true) {j : Nat} {y : Int} (hj : l[j]? = some y) : digB y = true := by
 have := betB_iff.1 h
 exact decide_eq_true (this y (List.mem_of_getElem? hj))
set_option maxRecDepth 100000 in
set_option maxHeartbeats 16000000 in
theorem took_no (P : WkD) (a : WkA) (AL : Option Addr) (nL cL : Nat) (l : List Int) (w : World) (h : WIn w P a) (hl : SlIn w ⟨AL, nL, cL⟩ l.length (i64s l)) (hf : WFew P 300000) (hmay : mayW P = false) : Calls Tryz.prog 62 #[wkV P a, .slice AL nL cL] w (Ret2 (orW (ifMay P 0) (tookW P l)) (ifMay P 0) w) := by
 obtain ⟨g, hg⟩ : ∃ g, g = w.heap.size := ⟨_, rfl⟩
 obtain ⟨wa0, hwa0⟩ : ∃ wa0, wa0 = w.alloc (.cells #[.int .i64 P.i, .int .i64 P.N, .int .i64 P.x, .slice a.O.A a.O.n a.O.c, .int .i64 P.g, .int .i64 P.c, .slice a.W.A a.W.n a.W.c, .slice a.H.A a.H.n a.H.c, .slice a.R.A a.R.n a.R.c] 27) := ⟨_, rfl⟩
 have hs0 : wa0.heap.size = g + 1 := by rw [hwa0]; simp; omega
 have bn0 : Box wa0 (g) (wkC P a) := by rw [hwa0, hg]; exact box_new w (wkC P a) 27
 have hb0 : Below g w wa0 := by rw [hwa0]; exact (Below.refl _ _).alloc (by omega) _
 obtain ⟨wa1, hwa1⟩ : ∃ wa1, wa1 = wa0.alloc (.cells #[.int .i64 0, .int .i64 0, .int .i64 0, .slice none 0 0, .int .i64 0, .int .i64 0, .slice none 0 0, .slice none 0 0, .slice none 0 0] 27) := ⟨_, rfl⟩
 have hs1 : wa1.heap.size = g + 2 := by rw [hwa1]; simp; omega
 have bn1 : Box wa1 (g + 1) (zeroC) := by rw [hwa1, ← hs0]; exact box_new wa0 (zeroC) 27
 have hb1 : Below g w wa1 := by rw [hwa1]; exact hb0.alloc (by omega) _
 have HX0 : Hid (Box wa1 (g) (wkC P a)) := (bn0.below (show Below wa0.heap.size wa0 wa1 by rw [hwa1]; exact (Below.refl _ _).alloc (Nat.le_refl _) _) (by omega))
 have HX1 : Hid (Box wa1 (g + 1) (zeroC)) := bn1
 obtain ⟨w0, hw0⟩ : ∃ w0, w0 = wa1 := ⟨_, rfl⟩
 rw [← hw0] at HX0
 rw [← hw0] at HX1
 have hsz0 : w0.heap.size = g + 2 := by rw [hw0]; exact hs1
 have hb0w : Below g w w0 := by rw [hw0]; exact hb1
 have HW0 : Hid ((w.alloc (.cells #[.int .i64 P.i, .int .i64 P.N, .int .i64 P.x, .slice a.O.A a.O.n a.O.c, .int .i64 P.g, .int .i64 P.c, .slice a.W.A a.W.n a.W.c, .slice a.H.A a.H.n a.H.c, .slice a.R.A a.R.n a.R.c] 27)).alloc (.cells #[.int .i64 0, .int .i64 0, .int .i64 0, .slice none 0 0, .int .i64 0, .int .i64 0, .slice none 0 0, .slice none 0 0, .slice none 0 0] 27) = w0) := by show (w.alloc (.cells #[.int .i64 P.i, .int .i64 P.N, .int .i64 P.x, .slice a.O.A a.O.n a.O.c, .int .i64 P.g, .int .i64 P.c, .slice a.W.A a.W.n a.W.c, .slice a.H.A a.H.n a.H.c, .slice a.R.A a.R.n a.R.c] 27)).alloc (.cells #[.int .i64 0, .int .i64 0, .int .i64 0, .slice none 0 0, .int .i64 0, .int .i64 0, .slice none 0 0, .slice none 0 0, .slice none 0 0] 27) = w0; rw [hw0, hwa1, hwa0]
 have HG : Hid (w.heap.size = g) := hg.symm
 have HS0 := Lib.hid hsz0
 have HB0 := Lib.hid hb0w
 have hl0 : g < w0.heap.size := by omega
 have hl1 : g + 1 < w0.heap.size := by omega
 have hgw : g ≤ w0.heap.size := by omega
 have hin0 := h.below' HB0.out HG.out
 have HIN : Hid (∀ wX, Below w0.heap.size w0 wX → WIn wX P a) := by show ∀ wX, _; exact fun wX hX => hin0.below hX
 have HLR : Hid (∀ wX, Below g w wX → SlIn wX ⟨AL, nL, cL⟩ l.length (i64s l)) := by show ∀ wX, _; exact fun wX hX => hl.below (by rw [HG.out]; exact hX)
 have HLL : Hid (l.length = nL) := hl.len
 have HF := Lib.hid hf
 have hcheck := check_is (mayW P) P a w0 rfl hin0 (hf.more (by decide))
 rw [hmay] at hcheck
 have HCK := Lib.hid hcheck
 have HE : Hid (ifMay P 0 = 1) := ifMay_no hmay 0
 clear hg hsz0 hb0w hw0 hwa0 hs0 bn0 hb0 hwa1 hs1 bn1 hb1
 clear hcheck hin0 h hf hl
 unfold wkV Ad.v
 go_enter Tryz.func62, Tryz.ntmps62
 go_upto_region 1 with fail
 rw [HG.out, HW0.out]
 go_wp2_with (first
  | (refine wpList_load_box rfl 27 _ rfl g rfl (wkC P a) (HX0.out) _ Tryz.underlying27 rfl size_wk ?_)
  | (go_at_call 18; refine HCK.out.mono ?_; rintro e w1 ⟨rfl, hb1⟩)
  | (refine wpList_store_box rfl 27 _ _ rfl (g + 1) 0 zeroC zeroC zeroC rfl rfl (HX1.out.below hb1 hl1) (show 0 + 9 ≤ 9 by decide) rfl size_wk rfl ?_; intro w9 bx9 T9))
 obtain ⟨r0, r1, r2, r3, r4, r5, r6, r7, r8⟩ := zero_cells bx9
 have t9 := T9 (fun k => k = g + 1) rfl
 refine bodyPost_ret (v := .tuple #[wkV zeroW zeroWA, .int .i64 1]) (by simp [results, Tryz.results62, go_sem, r0, r1, r2, r3, r4, r5, r6, r7, r8, wkV, Ad.v, zeroW, zeroWA, noAd, okV]) rfl ⟨zeroWA, by rw [HE.out]; rfl, by rw [HE.out]; exact wNew_zero _ _, ?_⟩
 have hz9 := hb1.size
 rw [HG.out]
 exact (HB0.out.trans (hb1.mono hgw)).trans (t9.below (fun k hk => by omega) (by omega))
set_option maxRecDepth 100000 in
set_option maxHeartbeats 16000000 in
theorem took_yes (P : WkD) (a : WkA) (AL : Option Addr) (nL cL : Nat) (l : List Int) (w : World) (h : WIn w P a) (hl : SlIn w ⟨AL, nL, cL⟩ l.length (i64s l)) (hL : l.length ≤ 300000) (hf : WFew P 300000) (hmay : mayW P = true) : Calls Tryz.prog 62 #[wkV P a, .slice AL nL cL] w (Ret2 (orW (ifMay P 0) (tookW P l)) (ifMay P 0) w) := by
  obtain ⟨g, hg⟩ : ∃ g, g = w.heap.size := ⟨_, rfl⟩
  obtain ⟨wa0, hwa0⟩ : ∃ wa0, wa0 = w.alloc (.cells #[.int .i64 P.i, .int .i64 P.N, .int .i64 P.x, .slice a.O.A a.O.n a.O.c, .int .i64 P.g, .int .i64 P.c, .slice a.W.A a.W.n a.W.c, .slice a.H.A a.H.n a.H.c, .slice a.R.A a.R.n a.R.c] 27) := ⟨_, rfl⟩
  have hs0 : wa0.heap.size = g + 1 := by rw [hwa0]; simp; omega
  have bn0 : Box wa0 (g) (wkC P a) := by rw [hwa0, hg]; exact box_new w (wkC P a) 27
  have hb0 : Below g w wa0 := by rw [hwa0]; exact (Below.refl _ _).alloc (by omega) _
  obtain ⟨wa1, hwa1⟩ : ∃ wa1, wa1 = wa0.alloc (.cells #[.int .i64 0, .int .i64 0, .int .i64 0, .slice none 0 0, .int .i64 0, .int .i64 0, .slice none 0 0, .slice none 0 0, .slice none 0 0] 27) := ⟨_, rfl⟩
  have hs1 : wa1.heap.size = g + 2 := by rw [hwa1]; simp; omega
  have bn1 : Box wa1 (g + 1) (zeroC) := by rw [hwa1, ← hs0]; exact box_new wa0 (zeroC) 27
  have hb1 : Below g w wa1 := by rw [hwa1]; exact hb0.alloc (by omega) _
  have HX0 : Hid (Box wa1 (g) (wkC P a)) := (bn0.below (show Below wa0.heap.size wa0 wa1 by rw [hwa1]; exact (Below.refl _ _).alloc (Nat.le_refl _) _) (by omega))
  have HX1 : Hid (Box wa1 (g + 1) (zeroC)) := bn1
  obtain ⟨w0, hw0⟩ : ∃ w0, w0 = wa1 := ⟨_, rfl⟩
  rw [← hw0] at HX0
  rw [← hw0] at HX1
  have hsz0 : w0.heap.size = g + 2 := by rw [hw0]; exact hs1
  have hb0w : Below g w w0 := by rw [hw0]; exact hb1
  have HW0 : Hid ((w.alloc (.cells #[.int .i64 P.i, .int .i64 P.N, .int .i64 P.x, .slice a.O.A a.O.n a.O.c, .int .i64 P.g, .int .i64 P.c, .slice a.W.A a.W.n a.W.c, .slice a.H.A a.H.n a.H.c, .slice a.R.A a.R.n a.R.c] 27)).alloc (.cells #[.int .i64 0, .int .i64 0, .int .i64 0, .slice none 0 0, .int .i64 0, .int .i64 0, .slice none 0 0, .slice none 0 0, .slice none 0 0] 27) = w0) := by show (w.alloc (.cells #[.int .i64 P.i, .int .i64 P.N, .int .i64 P.x, .slice a.O.A a.O.n a.O.c, .int .i64 P.g, .int .i64 P.c, .slice a.W.A a.W.n a.W.c, .slice a.H.A a.H.n a.H.c, .slice a.R.A a.R.n a.R.c] 27)).alloc (.cells #[.int .i64 0, .int .i64 0, .int .i64 0, .slice none 0 0, .int .i64 0, .int .i64 0, .slice none 0 0, .slice none 0 0, .slice none 0 0] 27) = w0; rw [hw0, hwa1, hwa0]
  have HG : Hid (w.heap.size = g) := hg.symm
  have HS0 := Lib.hid hsz0
  have HB0 := Lib.hid hb0w
  have hl0 : g < w0.heap.size := by omega
  have hl1 : g + 1 < w0.heap.size := by omega
  have hgw : g ≤ w0.heap.size := by omega
  have hin0 := h.below' HB0.out HG.out
  have HIN : Hid (∀ wX, Below w0.heap.size w0 wX → WIn wX P a) := by show ∀ wX, _; exact fun wX hX => hin0.below hX
  have HLR : Hid (∀ wX, Below g w wX → SlIn wX ⟨AL, nL, cL⟩ l.length (i64s l)) := by show ∀ wX, _; exact fun wX hX => hl.below (by rw [HG.out]; exact hX)
  have HLL : Hid (l.length = nL) := hl.len
  have HF := Lib.hid hf
  have hcheck := check_is (mayW P) P a w0 rfl hin0 (hf.more (by decide))
  rw [hmay] at hcheck
  have HCK := Lib.hid hcheck
  have HE : Hid (ifMay P 0 = 0) := ifMay_yes hmay 0
  have HMW := Lib.hid (mayW_iff.1 hmay)
  have hLn : nL ≤ 300000 := by have := HLL.out; omega
  clear hg hsz0 hb0w hw0 hwa0 hs0 bn0 hb0 hwa1 hs1 bn1 hb1
  clear hcheck hin0 h hf hl hmay
  unfold wkV Ad.v
  go_enter Tryz.func62, Tryz.ntmps62
  go_upto_region 1 with fail
  rw [HG.out, HW0.out]
  go_upto_region 5 with (first
    | (refine wpList_load_box rfl 27 _ rfl g rfl (wkC P a) (HX0.out) _ Tryz.underlying27 rfl size_wk ?_)
    | (go_at_call 18; refine HCK.out.mono ?_; rintro e w1 ⟨rfl, hb1⟩)
    | (refine wpList_load_box rfl 27 _ rfl g rfl (wkC P a) (HX0.out.below hb1 hl0) _ Tryz.underlying27 rfl size_wk ?_)
    | (go_at_call 90; refine (clone_any P a w1 (HIN.out _ hb1) (HF.out.more (by decide))).mono ?_; rintro e w4 ⟨a4, rfl, hn4, hb4⟩)
    | (refine wpList_store_box rfl 27 _ _ rfl g 0 (wkC P a4) (wkC P a) (wkC P a4) rfl rfl ((HX0.out.below hb1 hl0).below hb4 (by have := hb1.size; omega)) (show 0 + 9 ≤ 9 by decide) rfl size_wk rfl ?_; intro w5 bx5 T5))
  have t5 := T5 (fun k => k = g) rfl
  have hAT5 : WAt w1.heap.size g w5 P a4 := ⟨bx5, hn4.touch t5 (fun k hk ho => by have := (hn4.core.lt ho).2; have := hb1.size; omega) (fun k hk ho => by have := (own_lt hn4.open_ ho).2; have := hb1.size; omega), by have := hb1.size; omega, by have := hb4.size; have := t5.size; omega⟩
  have hres5 : Box w5 (g + 1) zeroC := ((HX1.out.below hb1 hl1).below hb4 (by have := hb1.size; omega)).touch t5 (by omega)
  have hbel5 : Below g w w5 := ((HB0.out.trans (hb1.mono hgw)).trans (hb4.mono (by have := hb1.size; omega))).trans (t5.below (fun k hk => by omega) (by have := hb1.size; have := hb4.size; omega))
  obtain ⟨B, hB⟩ : ∃ B, B = w1.heap.size := ⟨_, rfl⟩
  rw [← hB] at hAT5
  have hgB : g + 1 < B := by have := hb1.size; have := HS0.out; omega
  have HAT5 := Lib.hid hAT5
  have HRES5 := Lib.hid hres5
  have HBEL5 := Lib.hid hbel5
  have hB5 := hAT5.le
  clear hB bx5 t5 T5 hb1 hb4 hn4 hAT5 hres5 hbel5
  obtain ⟨aZ, haZ⟩ : ∃ aZ, aZ = a4 := ⟨_, rfl⟩
  rw [← haZ] at HAT5
  clear haZ
  have k8 : w5.cell? ⟨g, 8, none⟩ = some (.slice aZ.R.A aZ.R.n aZ.R.c) := (HAT5.out.box.2 8 _ rfl).1
  have hgl5 : g < w5.heap.size := HAT5.out.box.1
  have hmf : ∀ (fn : Fn) (first cap : Array Value) (w : World), (Instr.makeFunc fn first cap).run Tryz.prog w = .ok (.func fn first cap) w := fun _ _ _ _ => rfl
  go_upto_region 6 with (go_at_call 109; refine (setOf_any AL cL nL l w5 HLL.out (HLR.out _ HBEL5.out).rd (by omega)).mono ?_; rintro e w6 ⟨b, mS, rfl, hset, hmS, hbb, hb6⟩)
  have hAT6 := HAT5.out.below hb6
  have k86 : w6.cell? ⟨g, 8, none⟩ = some (.slice aZ.R.A aZ.R.n aZ.R.c) := (hb6.cell (p := ⟨g, 8, none⟩) hgl5).trans k8
  have HAT6 := Lib.hid hAT6
  have HSET := Lib.hid hset
  have hres6 : Box w6 (g + 1) zeroC := HRES5.out.below hb6 HRES5.out.1
  have hbel6 : Below g w w6 := HBEL5.out.trans (hb6.mono (by omega))
  have hRn : aZ.R.n ≤ 300000 := by have := hAT6.new.core.rL; have := HF.out.r; omega
  have hRow : w6.ownsRow B 3 1 (.slice aZ.R.A aZ.R.n aZ.R.c) aZ.R.n (i64s P.R) := hAT6.new.core.ready
  have HRD : Hid (∀ (j : Nat) (y : Int), P.R[j]? = some y → digB y = true) := by
    show ∀ j y, _
    intro j y hj
    exact digB_of_bet HMW.out.digs hj
  have HDEL := Lib.hid (deleteF_any B aZ.R.A aZ.R.c aZ.R.n b mS P.R (digsOf l) w6 hRow (by omega) HRD.out hset)
  have HEQ : Hid (outOf (digsOf l) P.R = (tookW P l).R) := by
    show outOf (digsOf l) P.R = P.R.filter fun d => decide (d ∉ l)
    unfold outOf
    apply List.filter_congr
    intro y hy
    obtain ⟨j, hj⟩ := List.mem_iff_getElem?.1 hy
    rw [decide_eq_decide]
    exact not_congr ⟨fun h => (List.mem_filter.1 h).1, fun h => List.mem_filter.2 ⟨h, HRD.out j y hj⟩⟩
  have HRES6 := Lib.hid hres6
  have HBEL6 := Lib.hid hbel6
  clear k8 hset hbb hb6 hAT6 hRow hres6 hbel6
  go_wp2_with (first
    | (go_at_call 110; refine HDEL.out.mono ?_; rintro e w7 ⟨⟨oA, oN, oC⟩, rfl, ho7, hl7, hb7, T7⟩
       have hbx7 : Box w7 g (wkC P aZ) := HAT6.out.box.touch T7 (fun hf => by have := (own_lt HAT6.out.new.core.ready hf).2; omega)
       dsimp only [Ad.v])
    | (refine wpList_store_cell rfl 25 _ _ rfl g 8 (.slice oA oN oC) (wkC P aZ) rfl rfl rfl rfl hbx7 (show 8 < 9 by decide) size_sInt ?_; intro w8 bx8 T8; have t8 := T8 (fun k => k = g) rfl; have hres8 : Box w8 (g + 1) zeroC := (HRES6.out.touch T7 (fun hf => by have := (own_lt HAT6.out.new.core.ready hf).2; omega)).touch t8 (by omega))
    | (refine wpList_load_box rfl 27 _ rfl g rfl (wkC (tookW P l) { aZ with R := ⟨oA, oN, oC⟩ }) bx8 _ Tryz.underlying27 rfl size_wk ?_)
    | (refine wpList_store_box rfl 27 _ _ rfl (g + 1) 0 (wkC (tookW P l) { aZ with R := ⟨oA, oN, oC⟩ }) zeroC (wkC (tookW P l) { aZ with R := ⟨oA, oN, oC⟩ }) rfl rfl hres8 (show 0 + 9 ≤ 9 by decide) rfl size_wk rfl ?_; intro wE bxE TE))
  obtain ⟨oR, hoR⟩ : ∃ oR : Ad, oR = ⟨oA, oN, oC⟩ := ⟨_, rfl⟩
  rw [← hoR] at bxE ho7 hb7
  have hl7' : (outOf (digsOf l) P.R).length = oR.n := by rw [hoR]; exact hl7
  have hnew7 : WNew B w7 (tookW P l) { aZ with R := oR } := by
    have := HAT6.out.new.setR (L := outOf (digsOf l) P.R) (o := oR) T7 (by rw [hoR] at ho7 ⊢; exact ho7) hl7' (fun k hk => .inl (by rw [hoR] at hk; exact hb7.symm.trans (by rw [hoR]; exact hk)))
    rw [HEQ.out] at this
    exact this
  have hnewZ : WNew B w8 (tookW P l) { aZ with R := oR } := hnew7.touch t8 (fun k hk ho => by have := (hnew7.core.lt ho).2; omega) (fun k hk ho => by have := (own_lt hnew7.open_ ho).2; omega)
  have hresZ := hres8
  have hbelZ : Below g w w8 := (HBEL6.out.trans (T7.below (fun k hk => by have := (own_lt HAT6.out.new.core.ready hk).2; omega) (by have := HAT6.out.le; omega))).trans (t8.below (fun k hk => by omega) (by have := hbx7.1; omega))
  have tE := TE (fun k => k = g + 1) rfl
  have hbel : Below g w wE := hbelZ.trans (tE.below (fun k hk => by omega) (by have := hresZ.1; omega))
  obtain ⟨r0, r1, r2, r3, r4, r5, r6, r7, r8⟩ := wk_cells bxE
  refine bodyPost_ret (v := .tuple #[wkV (tookW P l) { aZ with R := oR }, .int .i64 0]) (by simp [results, Tryz.results62, go_sem, r0, r1, r2, r3, r4, r5, r6, r7, r8, wkV, Ad.v]) rfl ⟨{ aZ with R := oR }, by rw [HE.out]; rfl, ?_, by rw [HG.out]; exact hbel⟩
  rw [HE.out, HG.out]
  show WNew g wE (tookW P l) { aZ with R := oR }
  exact (hnewZ.touch tE (fun k hk ho => by have := (hnewZ.core.lt ho).2; omega) (fun k hk ho => by have := (own_lt hnewZ.open_ ho).2; omega)).more (by omega)
theorem took_any (P : WkD) (a : WkA) (AL : Option Addr) (nL cL : Nat) (l : List Int) (w : World) (h : WIn w P a) (hl : SlIn w ⟨AL, nL, cL⟩ l.length (i64s l)) (hL : l.length ≤ 300000) (hf : WFew P 300000) : Calls Tryz.prog 62 #[wkV P a, .slice AL nL cL] w (Ret2 (orW (ifMay P 0) (tookW P l)) (ifMay P 0) w) := by
 cases hm : mayW P with
 | false => exact took_no P a AL nL cL l w h hl hf hm
 | true => exact took_yes P a AL nL cL l w h hl hL hf hm

end Go.Proofs.YteepobghdpnabaaGreat
