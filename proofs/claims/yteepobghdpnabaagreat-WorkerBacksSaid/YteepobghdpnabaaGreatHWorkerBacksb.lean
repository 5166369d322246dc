/-
 The page's Back.
-/
import Derived.WalkKit
import Derived.Below
import Derived.Deep.Draws
import Derived.Deep.AppendLies
import Derived.Lib.AppendStr
import Derived.Lib.ConvBytes
import Derived.Lib.Hide
import Derived.Test.YteepobghdpnabaaGreatRows
import Derived.WalkSpells
import Derived.WalkLawsBesides
import Derived.Deep.QuietTactic
import Derived.BigQuiet
import Derived.LoopTactic
import Derived.Outline
import Derived.Laws.StructEq
import Derived.Deep.RegionHeld3
import Derived.OneCell
import Derived.IntWalk
import Derived.ProofKit
import Derived.OpenShut
import Derived.SliceStrings
import Derived.ChangeSlices
import Derived.Deep.Slices
import Derived.Deep.Fields
import Derived.ChangeOld
import Derived.Carry
import Derived.SizedLaws
import Derived.ScopeJumps
import Derived.Deep.MidRow
import Derived.Deep.DeepCutAuto
import Derived.Deep.CutRange
import Derived.Deep.RegionLaw
import Derived.BigRegion
import Derived.Laws.Rows
import Derived.Laws.CopyRow
import Derived.Lib.AppendZerosOnto
import Derived.Lib.Overlaps
import Derived.StillTailTactics
import Derived.Laws.Externs
import Derived.Deep.CutBlock
import Derived.Maps.OwnSet
import Derived.Great.BuildSlice
import Derived.Lib.MinMax
import Derived.Deep.Heap
import Derived.Maps.AppendAt
import Derived.Test.YteepobghdpnabaaGreatKWorkerTicksa
import Derived.Test.YteepobghdpnabaaGreatKWorkerTicksb
import Derived.Test.YteepobghdpnabaaGreatKWorkerTicksc
import Derived.Test.YteepobghdpnabaaGreatKWorkerTicksd
import Derived.Test.YteepobghdpnabaaGreatKWorkerTickse
import Derived.Test.YteepobghdpnabaaGreatKWorkerTicksf
import Derived.Test.YteepobghdpnabaaGreatKWorkerTicksg
import Derived.Test.YteepobghdpnabaaGreatKWorkerTicksh
import Derived.Test.YteepobghdpnabaaGreatKWorkerTicksi
import Derived.Test.YteepobghdpnabaaGreatKWorkerTicksj
import Derived.Test.YteepobghdpnabaaGreatKWorkerTicksk
import Derived.Test.YteepobghdpnabaaGreatKWorkerTicksl
import Derived.Test.YteepobghdpnabaaGreatKWorkerTicksm
import Derived.Test.YteepobghdpnabaaGreatKWorkerTicksn
import Derived.Test.YteepobghdpnabaaGreatKWorkerTickso
import Derived.Test.YteepobghdpnabaaGreatKWorkerTicksp
import Derived.Test.YteepobghdpnabaaGreatKWorkerTicksq
import Derived.Test.YteepobghdpnabaaGreatKWorkerTicksr
import Derived.Test.YteepobghdpnabaaGreatKWorkerTickss
import Derived.Test.YteepobghdpnabaaGreatKWorkerTickst
import Derived.Test.YteepobghdpnabaaGreatKWorkerTicksu
import Derived.Test.YteepobghdpnabaaGreatKWorkerTicksv
import Derived.Test.YteepobghdpnabaaGreatKWorkerTicksw
import Derived.Test.YteepobghdpnabaaGreatKWorkerTicksx
import Derived.Test.YteepobghdpnabaaGreatKWorkerTicksy
import Derived.Test.YteepobghdpnabaaGreatKWorkerTicksz
import Derived.Test.YteepobghdpnabaaGreatKWorkerTicksaa
import Derived.Test.YteepobghdpnabaaGreatKWorkerTicksab
import Derived.Test.YteepobghdpnabaaGreatKWorkerTicksac
import Derived.Test.YteepobghdpnabaaGreatKWorkerTicksad
import Derived.Test.YteepobghdpnabaaGreatKWorkerTicksae
import Derived.Test.YteepobghdpnabaaGreatKWorkerTicksaf
import Derived.Test.YteepobghdpnabaaGreatKWorkerTicksag
import Derived.Test.YteepobghdpnabaaGreatKWorkerTicksah
import Derived.Test.YteepobghdpnabaaGreatKWorkerTicksai
import Derived.Test.YteepobghdpnabaaGreatKWorkerTicksaj
import Derived.Test.YteepobghdpnabaaGreatKWorkerTicksak
import Derived.Test.YteepobghdpnabaaGreatKWorkerTicksal
import Derived.Test.YteepobghdpnabaaGreatKWorkerTicksam
import Derived.Test.YteepobghdpnabaaGreatKWorkerTicksan
import Derived.Test.YteepobghdpnabaaGreatKWorkerTicksao
import Derived.Test.YteepobghdpnabaaGreatKWorkerTicksap
import Derived.Test.YteepobghdpnabaaGreatKWorkerTicksaq
import Derived.Test.YteepobghdpnabaaGreatKWorkerTicksar
import Derived.Test.YteepobghdpnabaaGreatHWorkerBacksa
namespace Go.Proofs.YteepobghdpnabaaGreat
open Go.RowKit

set_option maxRecDepth 100000 in
set_option maxHeartbeats 16000000 in
theorem rback_any (P : WkD) (a : WkA) (AL : Option Addr) (nL cL : Nat) (l : List Int) (w : World) (h : WIn w P a) (hl : SlIn w ⟨AL, nL, cL⟩ l.length (i64s l)) (hL : l.length ≤ 300000) (hf : WFew P 300000) : Calls Tryz.prog 63 #[wkV P a, .slice AL nL cL] w (Cloned9 (backW P l) w) := by
  obtain ⟨g, hg⟩ : ∃ g, g = w.heap.size := ⟨_, rfl⟩
  obtain ⟨wa0, hwa0⟩ : ∃ wa0, wa0 = w.alloc (.cells #[.int .i64 P.i, .int .i64 P.N, .int .i64 P.x, .slice a.O.A a.O.n a.O.c, .int .i64 P.g, .int .i64 P.c, .slice a.W.A a.W.n a.W.c, .slice a.H.A a.H.n a.H.c, .slice a.R.A a.R.n a.R.c] 27) := ⟨_, rfl⟩
  have hs0 : wa0.heap.size = g + 1 := by rw [hwa0]; simp; omega
  have bn0 : Box wa0 (g) (wkC P a) := by rw [hwa0, hg]; exact box_new w (wkC P a) 27
  have hb0 : Below g w wa0 := by rw [hwa0]; exact (Below.refl _ _).alloc (by omega) _
  obtain ⟨wa1, hwa1⟩ : ∃ wa1, wa1 = wa0.alloc (.cells #[.int .i64 0, .int .i64 0, .int .i64 0, .slice none 0 0, .int .i64 0, .int .i64 0, .slice none 0 0, .slice none 0 0, .slice none 0 0] 27) := ⟨_, rfl⟩
  have hs1 : wa1.heap.size = g + 2 := by rw [hwa1]; simp; omega
  have bn1 : Box wa1 (g + 1) (zeroC) := by rw [hwa1, ← hs0]; exact box_new wa0 (zeroC) 27
  have hb1 : Below g w wa1 := by rw [hwa1]; exact hb0.alloc (by omega) _
  have HX0 : Hid (Box wa1 (g) (wkC P a)) := (bn0.below (show Below wa0.heap.size wa0 wa1 by rw [hwa1]; exact (Below.refl _ _).alloc (Nat.le_refl _) _) (by omega))
  have HX1 : Hid (Box wa1 (g + 1) (zeroC)) := bn1
  obtain ⟨w0, hw0⟩ : ∃ w0, w0 = wa1 := ⟨_, rfl⟩
  rw [← hw0] at HX0
  rw [← hw0] at HX1
  have hsz0 : w0.heap.size = g + 2 := by rw [hw0]; exact hs1
  have hb0w : Below g w w0 := by rw [hw0]; exact hb1
  have HW0 : Hid ((w.alloc (.cells #[.int .i64 P.i, .int .i64 P.N, .int .i64 P.x, .slice a.O.A a.O.n a.O.c, .int .i64 P.g, .int .i64 P.c, .slice a.W.A a.W.n a.W.c, .slice a.H.A a.H.n a.H.c, .slice a.R.A a.R.n a.R.c] 27)).alloc (.cells #[.int .i64 0, .int .i64 0, .int .i64 0, .slice none 0 0, .int .i64 0, .int .i64 0, .slice none 0 0, .slice none 0 0, .slice none 0 0] 27) = w0) := by show (w.alloc (.cells #[.int .i64 P.i, .int .i64 P.N, .int .i64 P.x, .slice a.O.A a.O.n a.O.c, .int .i64 P.g, .int .i64 P.c, .slice a.W.A a.W.n a.W.c, .slice a.H.A a.H.n a.H.c, .slice a.R.A a.R.n a.R.c] 27)).alloc (.cells #[.int .i64 0, .int .i64 0, .int .i64 0, .slice none 0 0, .int .i64 0, .int .i64 0, .slice none 0 0, .slice none 0 0, .slice none 0 0] 27) = w0; rw [hw0, hwa1, hwa0]
  have HG : Hid (w.heap.size = g) := hg.symm
  have HS0 := Lib.hid hsz0
  have HB0 := Lib.hid hb0w
  have hl0 : g < w0.heap.size := by omega
  have hl1 : g + 1 < w0.heap.size := by omega
  have hgw : g ≤ w0.heap.size := by omega
  have hin0 := h.below' HB0.out HG.out
  have HIN : Hid (∀ wX, Below w0.heap.size w0 wX → WIn wX P a) := by show ∀ wX, _; exact fun wX hX => hin0.below hX
  have HLR : Hid (∀ wX, Below w0.heap.size w0 wX → SlIn wX ⟨AL, nL, cL⟩ l.length (i64s l)) := by show ∀ wX, _; exact fun wX hX => hl.below (by rw [HG.out]; exact HB0.out.trans (hX.mono hgw))
  have HLL : Hid (l.length = nL) := hl.len
  have HF := Lib.hid hf
  have hLn : nL ≤ 300000 := by have := HLL.out; omega
  have bz := box_new w0 zeroC 27
  have HBZ := Lib.hid bz
  obtain ⟨q, hq⟩ : ∃ q, q = w0.heap.size := ⟨_, rfl⟩
  have HQ := Lib.hid hq
  clear hg hsz0 hb0w hw0 hwa0 hs0 bn0 hb0 hwa1 hs1 bn1 hb1
  clear hin0 h hf hl bz
  unfold wkV Ad.v
  go_enter Tryz.func63, Tryz.ntmps63
  go_upto_region 1 with fail
  rw [HG.out, HW0.out]
  go_upto_region 2 with (first
    | (refine wpList_load_box rfl 27 _ rfl g rfl (wkC P a) (HX0.out) _ Tryz.underlying27 rfl size_wk ?_)
    | (go_at_call 15; refine (rcopyWk_any P a w0 (HIN.out _ (Below.refl _ _)) (HF.out.more (by decide))).mono ?_; rintro e w4 ⟨a4, rfl, hn4, hb4⟩; have HBZ4 := Lib.hid (box_new w4 zeroC 27))
    | (refine wpList_store_box rfl 27 _ _ rfl w4.heap.size 0 (wkC P a4) zeroC (wkC P a4) rfl rfl HBZ4.out (show 0 + 9 ≤ 9 by decide) rfl size_wk rfl ?_; intro w5 bx5 T5)
    | (refine wpList_run_to rfl 27 rfl (.pointer (some ⟨w4.heap.size, 0, none⟩)) (w4.alloc (.cells #[.int .i64 0, .int .i64 0, .int .i64 0, .slice none 0 0, .int .i64 0, .int .i64 0, .slice none 0 0, .slice none 0 0, .slice none 0 0] 27)) (by unfold execOp; go_simp; done) ?_))
  obtain ⟨x, hx⟩ : ∃ x, x = w4.heap.size := ⟨_, rfl⟩
  rw [← hx] at bx5 T5 ⊢
  have t5 := T5 (fun k => k = x) rfl
  have hba : Below w4.heap.size w4 (w4.alloc (.cells #[.int .i64 0, .int .i64 0, .int .i64 0, .slice none 0 0, .int .i64 0, .int .i64 0, .slice none 0 0, .slice none 0 0, .slice none 0 0] 27)) := (Below.refl _ _).alloc (Nat.le_refl _) _
  have hb04 : Below w0.heap.size w0 w4 := hb4
  have hxl : w0.heap.size ≤ x := by have := hb4.size; omega
  have hb05 : Below w0.heap.size w0 w5 := (hb04.trans (hba.mono hb04.size)).trans (t5.below (fun k hk => by omega) (by have := hba.size; have := hb04.size; omega))
  have hn5 : WNew w0.heap.size w5 P a4 := (hn4.below hba).touch t5 (fun k hk ho => by have := (hn4.core.lt ho).1; omega) (fun k hk ho => by have := (own_lt hn4.open_ ho).1; omega)
  have hfx : ∀ k, a4.owns k ∨ a4.O.v.ownBlock = some k → k < x := fun k hk => by
    rcases hk with hk | hk
    · have := (hn4.core.lt hk).1; omega
    · have := (own_lt hn4.open_ hk).1; omega
  have HN5 := Lib.hid hn5
  have HB5 := Lib.hid hb05
  have HFX := Lib.hid hfx
  have hx5 : x < w5.heap.size := bx5.1
  clear T5 t5 hba hb04 hb4 hn4 hn5 hb05 hfx hx HBZ4
  have HRL : Hid (P.R.length = a.R.n) := (HIN.out _ (Below.refl _ _)).ready.len
  have hRn : a.R.n ≤ 300000 := by have := HRL.out; have := HF.out.r; omega
  have HBX5 := Lib.hid bx5
  have HT0 : Hid (w5.ownsRow w5.heap.size 3 1 noAd.v noAd.n (i64s (backL P.R (l.take 0) [])) ∧ (backL P.R (l.take 0) []).length = noAd.n ∧ Below w5.heap.size w5 w5) := by show _ ∧ _ ∧ _; rw [List.take_zero]; exact ⟨World.ownsRow_nil _ _ _ _, rfl, Below.refl _ _⟩
  clear bx5
  go_wp2_with fail
  go_loopw [6, 7] (fun v i wr => ∃ (k : Nat) (o : Ad), i = .int .i64 k ∧ v = .slice o.A o.n o.c ∧ k ≤ nL ∧ Hid (wr.ownsRow w5.heap.size 3 1 o.v o.n (i64s (backL P.R (l.take k) [])) ∧ (backL P.R (l.take k) []).length = o.n ∧ Below w5.heap.size w5 wr)) (fun _ i _ => nL - (intOf i).toNat)
  case atStart => exact ⟨0, noAd, rfl, rfl, Nat.zero_le _, HT0⟩
  case round =>
    clear HT0
    obtain ⟨k, o, rfl, rfl, hk, HS⟩ := hrel
    have i0 : (0 : Int) ≤ (k : Int) := by omega
    have hszr := HS.out.2.2.size
    have hbr : Below w0.heap.size w0 wr := HB5.out.trans (HS.out.2.2.mono HB5.out.size)
    have HBR := Lib.hid hbr
    have hon : o.n ≤ 300000 := by have h0 := backL_len P.R (l.take k) []; have h1 := HS.out.2.1; have h3 : (l.take k).length ≤ k := (by rw [List.length_take]; exact Nat.min_le_left _ _); simp only [List.length_nil] at h0; omega
    by_cases hlt : k < nL
    · have hrl := HLR.out wr hbr
      obtain ⟨bl, off, hAL, hbl, hcell⟩ := hrl.rd.open_ (by rw [i64s_length, HLL.out]; omega)
      simp only at hAL
      subst hAL
      have hc1 := hcell k _ (i64s_at (by rw [HLL.out]; exact hlt))
      have hy : l[k]? = some (l[k]?.getD 0) := at_some (by rw [HLL.out]; exact hlt)
      obtain ⟨y, hye⟩ : ∃ y, y = l[k]?.getD 0 := ⟨_, rfl⟩
      rw [← hye] at hc1 hy
      have HY := Lib.hid hy
      have i1 : (k : Int) < (nL : Int) := by omega
      have hgr : g < wr.heap.size := by have := hbr.size; omega
      have k8 : wr.cell? ⟨g, 8, none⟩ = some (.slice a.R.A a.R.n a.R.c) := ((HX0.out.below hbr hl0).2 8 _ rfl).1
      have y1 : ∀ z : Calm wr, z.val.cell? ⟨bl, off + k, none⟩ = some (.int .i64 y) := fun z => (z.ok.cell (p := ⟨bl, off + k, none⟩) hbl).trans hc1
      have y8 : ∀ z : Calm wr, z.val.cell? ⟨g, 8, none⟩ = some (.slice a.R.A a.R.n a.R.c) := fun z => (z.ok.cell (p := ⟨g, 8, none⟩) hgr).trans k8
      have hR := (HIN.out wr hbr).ready
      have HDG : Hid (∀ (b : Bool), digB y = b → ∀ z : Calm wr, Calls Tryz.prog 36 #[.int .i64 y] z.val fun e w' => e = .returned (.bool b) ∧ z.val = w') := fun b hb z => rdigest_is b y hb z.val
      have hci : ∀ z : Calm wr, Calls Tryz.prog 75 #[.slice a.R.A a.R.n a.R.c, .int .i64 y] z.val fun e w' => e = .returned (.int .i64 (idxI P.R y)) ∧ z.val = w' := fun z => rin_is a.R.A a.R.n a.R.c P.R y z.val hR.len (hR.rd.below z.ok) (by omega)
      have hrs := slIn_own (a := o) HS.out.1 HS.out.2.1
      have hcb : ∀ z : Calm wr, Calls Tryz.prog 75 #[.slice o.A o.n o.c, .int .i64 y] z.val fun e w' => e = .returned (.int .i64 (idxI (backL P.R (l.take k) []) y)) ∧ z.val = w' := fun z => rin_is o.A o.n o.c (backL P.R (l.take k) []) y z.val hrs.len (hrs.rd.below z.ok) (by omega)
      obtain ⟨r1, hr1⟩ : ∃ r, r = idxI P.R y := ⟨_, rfl⟩
      obtain ⟨r2, hr2⟩ : ∃ r, r = idxI (backL P.R (l.take k) []) y := ⟨_, rfl⟩
      rw [← hr1] at hci
      rw [← hr2] at hcb
      have HCI := Lib.hid hci
      have HCB := Lib.hid hcb
      have HR1 : Hid (0 ≤ r1 ↔ y ∈ P.R) := by show _ ↔ _; rw [hr1]; exact idxI_ge
      have HR2 : Hid (0 ≤ r2 ↔ y ∈ backL P.R (l.take k) []) := by show _ ↔ _; rw [hr2]; exact idxI_ge
      clear hrl hcell hye hy hR hci hcb hrs hr1 hr2 hc1 k8 hbr
      cases hdy : digB y with
      | false =>
        have HD : Hid (digB y = false) := hdy
        clear hdy
        go_upto_region 6 with fail
        refine wp_region_calm (by kernel_rfl) (by kernel_rfl) ?_
        repeat (go_big_quiet_step (first
          | (go_at_call 36; exact calm_same (HDG.out _ HD.out _))))
        refine wpQuiet_nil ?_
        rintro _ ⟨z, rfl⟩
        have hz := z.ok
        clear y1 y8
        have HNX := Lib.hid (backL_next (R := P.R) HY.out)
        rw [if_neg (by rw [HD.out]; simp)] at HNX
        go_wp2_with fail
        go_roundw
        case rel => exact ⟨k + 1, o, by go_num, rfl, by omega, by show _ ∧ _ ∧ _; rw [HNX.out]; exact ⟨ownS_below HS.out.1 hz, HS.out.2.1, HS.out.2.2.trans (hz.mono hszr)⟩⟩
        case measure => simp [intOf]; omega
      | true =>
        have HD : Hid (digB y = true) := hdy
        clear hdy
        by_cases h1 : r1 < 0
        · have q1 : decide (r1 < 0) = true := decide_eq_true h1
          by_cases h2 : r2 < 0
          · have q2 : decide (r2 < 0) = true := decide_eq_true h2
            have HN : Hid (digB y = true ∧ y ∉ P.R ∧ y ∉ backL P.R (l.take k) []) := ⟨HD.out, fun h => by have := HR1.out.2 h; omega, fun h => by have := HR2.out.2 h; omega⟩
            have HNX := Lib.hid (backL_next (R := P.R) HY.out)
            rw [if_pos HN.out] at HNX
            go_upto_region 6 with fail
            refine wp_region_calm (by kernel_rfl) (by kernel_rfl) ?_
            repeat (go_big_quiet_step (first
              | (go_at_call 36; exact calm_same (HDG.out _ HD.out _))
              | (go_at_call 75; first | (with_reducible exact calm_same (HCI.out _)) | (with_reducible exact calm_same (HCB.out _)))))
            refine wpQuiet_nil ?_
            rintro _ ⟨z, rfl⟩
            have hz := z.ok
            have y1z := y1
            clear y1 y8
            have hSz := ownS_below HS.out.1 hz
            have HSZ : Hid (z.val.ownsRow w5.heap.size 3 1 (.slice o.A o.n o.c) o.n (i64s (backL P.R (l.take k) []))) := hSz
            have HBZ : Hid (Below w5.heap.size w5 z.val) := HS.out.2.2.trans (hz.mono hszr)
            have hc1 : z.val.cell? ⟨bl, off + k, none⟩ = some (.int .i64 y) := y1z z
            have hszz := HBZ.out.size
            obtain ⟨w7, hw7⟩ : ∃ w7, w7 = z.val := ⟨_, rfl⟩
            rw [← hw7] at hc1 HSZ HBZ hszz ⊢
            clear hSz hz hw7 z y1z
            go_wp2_with (at_builtin; refine wpList_app_lies _ rfl _ _ 25 rfl w5.heap.size 3 (.int .i64 0) 8 Tryz.underlying25 info_zint rfl (by decide) (.slice o.A o.n o.c) o.n (i64s (backL P.R (l.take k) [])) rfl (HSZ.out.alloc _) w7.heap.size (.int .i64 y) rfl (cell_new _ _ _) rfl (by omega) (by simp; omega) ?_)
            intro g' c' w9 ho9 hg9 hl9
            have HS9 : Hid (w9.ownsRow w5.heap.size 3 1 (Ad.v ⟨some ⟨g', 0, none⟩, o.n + 1, c'⟩) (o.n + 1) (i64s (backL P.R (l.take (k + 1)) [])) ∧ (backL P.R (l.take (k + 1)) []).length = o.n + 1 ∧ Below w5.heap.size w5 w9) := by
              show _ ∧ _ ∧ _
              rw [HNX.out]
              refine ⟨by rw [i64s_append]; exact ho9, by rw [List.length_append, HS.out.2.1]; rfl, HBZ.out.trans ((((Touch.refl (fun j => (Value.slice o.A o.n o.c).ownBlock = some j) w7).alloc _).on (Touch.grown hg9 fun j hj => hj)).below (fun j hj => (own_lt HSZ.out hj).2) hszz)⟩
            clear ho9 hg9 hl9
            go_wp2_with fail
            go_roundw
            case rel => exact ⟨k + 1, ⟨some ⟨g', 0, none⟩, o.n + 1, c'⟩, by go_num, rfl, by omega, HS9⟩
            case measure => simp [intOf]; omega
          · have q2 : decide (r2 < 0) = false := decide_eq_false h2
            go_upto_region 6 with fail
            refine wp_region_calm (by kernel_rfl) (by kernel_rfl) ?_
            repeat (go_big_quiet_step (first
              | (go_at_call 36; exact calm_same (HDG.out _ HD.out _))
              | (go_at_call 75; first | (with_reducible exact calm_same (HCI.out _)) | (with_reducible exact calm_same (HCB.out _)))))
            refine wpQuiet_nil ?_
            rintro _ ⟨z, rfl⟩
            have hz := z.ok
            clear y1 y8
            have HNX := Lib.hid (backL_next (R := P.R) HY.out)
            rw [if_neg (fun h => h.2.2 (HR2.out.1 (by omega)))] at HNX
            go_wp2_with fail
            go_roundw
            case rel => exact ⟨k + 1, o, by go_num, rfl, by omega, by show _ ∧ _ ∧ _; rw [HNX.out]; exact ⟨ownS_below HS.out.1 hz, HS.out.2.1, HS.out.2.2.trans (hz.mono hszr)⟩⟩
            case measure => simp [intOf]; omega
        · have q1 : decide (r1 < 0) = false := decide_eq_false h1
          go_upto_region 6 with fail
          refine wp_region_calm (by kernel_rfl) (by kernel_rfl) ?_
          repeat (go_big_quiet_step (first
            | (go_at_call 36; exact calm_same (HDG.out _ HD.out _))
            | (go_at_call 75; first | (with_reducible exact calm_same (HCI.out _)) | (with_reducible exact calm_same (HCB.out _)))))
          refine wpQuiet_nil ?_
          rintro _ ⟨z, rfl⟩
          have hz := z.ok
          clear y1 y8
          have HNX := Lib.hid (backL_next (R := P.R) HY.out)
          rw [if_neg (fun h => h.2.1 (HR1.out.1 (by omega)))] at HNX
          go_wp2_with fail
          go_roundw
          case rel => exact ⟨k + 1, o, by go_num, rfl, by omega, by show _ ∧ _ ∧ _; rw [HNX.out]; exact ⟨ownS_below HS.out.1 hz, HS.out.2.1, HS.out.2.2.trans (hz.mono hszr)⟩⟩
          case measure => simp [intOf]; omega
    · have i1 : ¬ ((k : Int) < (nL : Int)) := by omega
      obtain rfl : k = nL := by omega
      have hS := HS.out
      rw [List.take_of_length_le (by rw [HLL.out]; exact Nat.le_refl _)] at hS
      obtain ⟨hrow, hlen, hbw⟩ := hS
      have HBW := Lib.hid hbw
      have hboxr : Box wr x (wkC P a4) := HBX5.out.below hbw hx5
      have k8 : wr.cell? ⟨x, 8, none⟩ = some (.slice a4.R.A a4.R.n a4.R.c) := (hboxr.2 8 _ rfl).1
      have hR := (slIn_own HN5.out.core.ready HN5.out.core.rL).below hbw
      have hR4 : a4.R.n ≤ 300000 := by have := hR.len; have := HF.out.r; omega
      obtain ⟨A9, c9, w9, hr9, ho9, hg9, hl9⟩ := run_app_rowsZ (P := Tryz.prog) wr 25 25 w5.heap.size 3 zint 1 8 Tryz.underlying25 info_zint rfl (by decide) (by decide) (.slice o.A o.n o.c) o.n (i64s (backL P.R l [])) hrow a4.R.A a4.R.n a4.R.c (i64s P.R) (by rw [i64s_length, hR.len, Nat.mul_one]) hR.rd (i64s_one _) (by omega) hszr
      have HRUN := Lib.hid hr9
      have hb9 : Below w5.heap.size w5 w9 := hbw.trans ((Touch.grown (F := fun j => (Value.slice o.A o.n o.c).ownBlock = some j) hg9 fun j hj => hj).below (fun j hj => (own_lt hrow hj).2) hszr)
      have hbx9 : Box w9 x (wkC P a4) := HBX5.out.below hb9 hx5
      have hb09 : Below w0.heap.size w0 w9 := HB5.out.trans (hb9.mono HB5.out.size)
      have HB09 := Lib.hid hb09
      have hres9 : Box w9 (g + 1) zeroC := HX1.out.below hb09 hl1
      obtain ⟨aF, haF⟩ : ∃ aF, aF = ({ a4 with R := ⟨A9, o.n + a4.R.n, c9⟩ } : WkA) := ⟨_, rfl⟩
      have hnew9 : WNew w0.heap.size w9 (backW P l) aF := by
        rw [haF]
        exact HN5.out.setR (L := backL P.R l [] ++ P.R) (o := ⟨A9, o.n + a4.R.n, c9⟩) (Touch.of hb9) (ownS_more (by rw [i64s_append]; exact ho9) HB5.out.size) (by rw [List.length_append, hlen, hR.len]) (fun j hj => .inr (own_lt ho9 hj).2)
      have HN9 := Lib.hid hnew9
      have hr9l := hr9
      have HRO : Hid (∀ j, (Ad.v ⟨A9, o.n + a4.R.n, c9⟩).ownBlock = some j → w5.heap.size ≤ j) := by show ∀ j, _; exact fun j hj => (own_lt ho9 hj).2
      clear hr9 ho9 hg9 hl9 hb9 hR hrow hlen hbw hboxr hr9l hnew9
      go_wp2_with (first
        | (at_builtin; refine wpList_app_run (v := .slice o.A o.n o.c) (u := .slice a4.R.A a4.R.n a4.R.c) _ rfl _ _ 25 25 rfl rfl rfl HRUN.out ?_)
        | (refine wpList_store_cell rfl 25 _ _ rfl x 8 (.slice A9 (o.n + a4.R.n) c9) (wkC P a4) rfl rfl rfl rfl hbx9 (show 8 < 9 by decide) size_sInt ?_; intro w8 bx8 T8; have t8 := T8 (fun k => k = x) rfl; have bx8' : Box w8 x (wkC (backW P l) aF) := (by rw [haF]; exact bx8); have hres8 : Box w8 (g + 1) zeroC := hres9.touch t8 (by omega))
        | (refine wpList_load_box rfl 27 _ rfl x rfl (wkC (backW P l) aF) bx8' _ Tryz.underlying27 rfl size_wk ?_)
        | (refine wpList_store_box rfl 27 _ _ rfl (g + 1) 0 (wkC (backW P l) aF) zeroC (wkC (backW P l) aF) rfl rfl hres8 (show 0 + 9 ≤ 9 by decide) rfl size_wk rfl ?_; intro wE bxE TE))
      have HBF : Hid (Below w0.heap.size w0 w8) := HB09.out.trans (t8.below (fun k hk => by omega) (by have := HB09.out.size; omega))
      have HNF : Hid (WNew w0.heap.size w8 (backW P l) aF) := HN9.out.touch t8 (fun k hk ho => by
        rw [hk, haF] at ho
        rcases ho with ho | ho | ho | ho | ho
        · have := HFX.out x (.inl (.inl ho)); omega
        · have := HFX.out x (.inl (.inr (.inl ho))); omega
        · have := (HN9.out.core.lt (by rw [haF]; exact .inr (.inr (.inl ho)))).2; have := HRO.out x ho; omega
        · have := HFX.out x (.inl (.inr (.inr (.inr (.inl ho))))); omega
        · have := HFX.out x (.inl (.inr (.inr (.inr (.inr ho))))); omega) (fun k hk ho => by rw [hk, haF] at ho; have := HFX.out x (.inr ho); omega)
      have tE := TE (fun k => k = g + 1) rfl
      obtain ⟨r0, r1, r2, r3, r4, r5, r6, r7, r8⟩ := wk_cells bxE
      refine bodyPost_ret (v := wkV (backW P l) aF) (by simp [results, Tryz.results63, go_sem, r0, r1, r2, r3, r4, r5, r6, r7, r8, wkV, Ad.v]) rfl ⟨aF, rfl, ?_, ?_⟩
      · rw [HG.out]
        exact (HNF.out.touch tE (fun k hk ho => by have := (HNF.out.core.lt ho).2; omega) (fun k hk ho => by have := (own_lt HNF.out.open_ ho).2; omega)).more (by omega)
      · rw [HG.out]
        exact (HB0.out.trans (HBF.out.mono hgw)).trans (tE.below (fun k hk => by omega) (by have := HBF.out.size; omega))

end Go.Proofs.YteepobghdpnabaaGreat
