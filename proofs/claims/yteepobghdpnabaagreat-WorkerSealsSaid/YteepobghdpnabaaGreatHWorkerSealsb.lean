/-
 The page's step: what is kept by enough.
-/
import Derived.WalkKit
import Derived.Below
import Derived.Deep.Draws
import Derived.Deep.AppendLies
import Derived.Lib.AppendStr
import Derived.Lib.ConvBytes
import Derived.Lib.Hide
import Derived.Test.YteepobghdpnabaaGreatRows
import Derived.WalkSpells
import Derived.WalkLawsBesides
import Derived.Deep.QuietTactic
import Derived.BigQuiet
import Derived.LoopTactic
import Derived.Outline
import Derived.Laws.StructEq
import Derived.Deep.RegionHeld3
import Derived.OneCell
import Derived.IntWalk
import Derived.ProofKit
import Derived.OpenShut
import Derived.SliceStrings
import Derived.ChangeSlices
import Derived.Deep.Slices
import Derived.Deep.Fields
import Derived.ChangeOld
import Derived.Carry
import Derived.SizedLaws
import Derived.ScopeJumps
import Derived.Deep.MidRow
import Derived.Deep.DeepCutAuto
import Derived.Deep.CutRange
import Derived.Deep.RegionLaw
import Derived.BigRegion
import Derived.Laws.Rows
import Derived.Laws.CopyRow
import Derived.Lib.AppendZerosOnto
import Derived.Lib.Overlaps
import Derived.StillTailTactics
import Derived.Laws.Externs
import Derived.Deep.CutBlock
import Derived.Maps.OwnSet
import Derived.Great.BuildSlice
import Derived.Maps.AppendAt
import Derived.Lib.MinMax
import Derived.Test.YteepobghdpnabaaGreatKWorkerTicksa
import Derived.Test.YteepobghdpnabaaGreatKWorkerTicksb
import Derived.Test.YteepobghdpnabaaGreatKWorkerTicksc
import Derived.Test.YteepobghdpnabaaGreatKWorkerTicksd
import Derived.Test.YteepobghdpnabaaGreatKWorkerTickse
import Derived.Test.YteepobghdpnabaaGreatKWorkerTicksf
import Derived.Test.YteepobghdpnabaaGreatKWorkerTicksg
import Derived.Test.YteepobghdpnabaaGreatKWorkerTicksh
import Derived.Test.YteepobghdpnabaaGreatKWorkerTicksi
import Derived.Test.YteepobghdpnabaaGreatKWorkerTicksj
import Derived.Test.YteepobghdpnabaaGreatKWorkerTicksk
import Derived.Test.YteepobghdpnabaaGreatKWorkerTicksl
import Derived.Test.YteepobghdpnabaaGreatKWorkerTicksm
import Derived.Test.YteepobghdpnabaaGreatKWorkerTicksn
import Derived.Test.YteepobghdpnabaaGreatKWorkerTickso
import Derived.Test.YteepobghdpnabaaGreatKWorkerTicksp
import Derived.Test.YteepobghdpnabaaGreatKWorkerTicksq
import Derived.Test.YteepobghdpnabaaGreatKWorkerTicksr
import Derived.Test.YteepobghdpnabaaGreatKWorkerTickss
import Derived.Test.YteepobghdpnabaaGreatKWorkerTickst
import Derived.Test.YteepobghdpnabaaGreatKWorkerTicksu
import Derived.Test.YteepobghdpnabaaGreatKWorkerTicksv
import Derived.Test.YteepobghdpnabaaGreatKWorkerTicksw
import Derived.Test.YteepobghdpnabaaGreatKWorkerTicksx
import Derived.Test.YteepobghdpnabaaGreatKWorkerTicksy
import Derived.Test.YteepobghdpnabaaGreatKWorkerTicksz
import Derived.Test.YteepobghdpnabaaGreatKWorkerTicksaa
import Derived.Test.YteepobghdpnabaaGreatKWorkerTicksab
import Derived.Test.YteepobghdpnabaaGreatKWorkerTicksac
import Derived.Test.YteepobghdpnabaaGreatKWorkerTicksad
import Derived.Test.YteepobghdpnabaaGreatKWorkerTicksae
import Derived.Test.YteepobghdpnabaaGreatKWorkerTicksaf
import Derived.Test.YteepobghdpnabaaGreatKWorkerTicksag
import Derived.Test.YteepobghdpnabaaGreatKWorkerTicksah
import Derived.Test.YteepobghdpnabaaGreatKWorkerTicksai
import Derived.Test.YteepobghdpnabaaGreatKWorkerTicksaj
import Derived.Test.YteepobghdpnabaaGreatKWorkerTicksak
import Derived.Test.YteepobghdpnabaaGreatKWorkerTicksal
import Derived.Test.YteepobghdpnabaaGreatKWorkerTicksam
import Derived.Test.YteepobghdpnabaaGreatKWorkerTicksan
import Derived.Test.YteepobghdpnabaaGreatKWorkerTicksao
import Derived.Test.YteepobghdpnabaaGreatKWorkerTicksap
import Derived.Test.YteepobghdpnabaaGreatKWorkerTicksaq
import Derived.Test.YteepobghdpnabaaGreatKWorkerTicksar
import Derived.Test.YteepobghdpnabaaGreatHWorkerSealsa
namespace Go.Proofs.YteepobghdpnabaaGreat
open Go.RowKit

section
variable {g B : Nat} {w w2 : World} {P : WkD} {a : WkA} {l : List OtD} {o ho o8 : Ad} {ms : List (OtD × Ad)} {ws : List (WtD × Ad)} {L : List WtD}
end

section
variable {g B C k : Nat} {P : WkD} {a : WkA} {l : List OtD} {o : Ad} {ms : List (OtD × Ad)} {w wr w1 w2 : World} {oL oL' o8 o8' : Ad} {x : WtD × Ad}
end

def KeptTo (g B : Nat) (P : WkD) (a : WkA) (l : List OtD) (o : Ad) (ms : List (OtD × Ad)) (w : World) (e : Ending) (w' : World) : Prop := ∃ a', e = .returned (.tuple #[]) ∧ StAt g B w' (settleW P) a' l o ms ∧ Touch (fun k => k = g ∨ a.R.v.ownBlock = some k) w w'
set_option maxRecDepth 100000 in
set_option maxHeartbeats 16000000 in
theorem kept_any (g B : Nat) (P : WkD) (a : WkA) (l : List OtD) (o : Ad) (ms : List (OtD × Ad)) (w : World) (h : StAt g B w P a l o ms) (hm : may P.N = true) (hr : RiseI P.ds) (hf : WFew P 400000) :
    Calls Tryz.prog 88 #[.pointer (some ⟨g, 0, none⟩)] w (KeptTo g B P a l o ms w) := by
  obtain ⟨i0, hi0, hz0, hz1, hz2⟩ := info_parts info_zwait
  have HI0 := Lib.hid hi0
  have HZ0 := Lib.hid hz0
  have HZ1 := Lib.hid hz1
  have HZ2 := Lib.hid hz2
  have HM := Lib.hid hm
  have HF := Lib.hid hf
  have HR := Lib.hid hr
  have HEW := Lib.hid h.pg.core.eW
  have HA := Lib.hid h
  have hgl : g < w.heap.size := h.box.1
  have hnW : a.ms.length = a.W.n := h.pg.core.waits.len
  have hnl : a.ms.length ≤ 400000 := by rw [len_fst h.pg.core.eW]; exact hf.w
  obtain ⟨AW, nW, cW, hoW⟩ : ∃ A n c, a.W = ⟨A, n, c⟩ := ⟨_, _, _, rfl⟩
  have HOW := Lib.hid hoW
  rw [hoW] at hnW
  have HNW : Hid (a.ms.length = nW) := hnW
  have hnW2 : nW ≤ 400000 := by have := HNW.out; omega
  have HSL : Hid (KL g B w.heap.size P a l o ms w ⟨none, 0, 0⟩ a.R 0 w) := by
    have e1 : goneI P.N (a.ms.take 0) P.R = [] := rfl
    have e2 : leftK P.N (a.ms.take 0) = [] := rfl
    exact ⟨by rw [e1, List.append_nil]; exact h, by rw [e2]; exact World.ownsRow_nil _ _ _ _, by rw [e2]; rfl, Nat.le_refl _, h.le, hgl, fun j hj => (own_lt h.pg.core.waits.row hj).1, Touch.refl _ _, fun j hj => .inl hj, Nat.le_refl _⟩
  obtain ⟨C, hC⟩ : ∃ C, C = w.heap.size := ⟨_, rfl⟩
  rw [← hC] at HSL
  clear hC hi0 hz0 hz1 hz2 hm hf hr hoW hnW hnl h
  go_enter Tryz.func88, Tryz.ntmps88
  go_wp2_with fail
  go_loopw [2, 3] (fun v i wr => ∃ (k : Nat) (oL o8 : Ad), i = .int .i64 k ∧ v = .slice oL.A oL.n oL.c ∧ k ≤ nW ∧ Hid (KL g B C P a l o ms w oL o8 k wr)) (fun _ i _ => nW - (intOf i).toNat)
  case atStart => exact ⟨0, ⟨none, 0, 0⟩, a.R, rfl, rfl, Nat.zero_le _, HSL.out⟩
  case round =>
    obtain ⟨k, oL, o8, rfl, rfl, hk, HS⟩ := hrel
    have hc := HS.out.at_.cells
    rw [HOW.out] at hc
    obtain ⟨k0, k1, k2, k3, k4, k5, k6, k7, k8, k9⟩ := hc
    have hgw : g < wr.heap.size := HS.out.at_.box.1
    have i0' : (0 : Int) ≤ (k : Int) := by omega
    by_cases hlt2 : k < nW
    · obtain ⟨x, hx⟩ : ∃ x, a.ms[k]? = some x := ⟨_, List.getElem?_eq_getElem (by rw [HNW.out]; exact hlt2)⟩
      have HX := Lib.hid hx
      obtain ⟨gr, cr, hA, hcr, hBg, hgrl, -, hcell, -⟩ := HS.out.at_.pg.core.waits.cells hx
      rw [HOW.out] at hA
      simp only at hA
      subst hA
      have c0 : wr.cell? ⟨gr, k * 2, none⟩ = some (.int .i64 x.1.d) := hcell 0 _ rfl
      have c1 : wr.cell? ⟨gr, k * 2 + 1, none⟩ = some (.slice x.2.A x.2.n x.2.c) := hcell 1 _ rfl
      have hsub := slIn_own (HS.out.at_.pg.core.waits.sub x (List.mem_of_getElem? hx)).1 (HS.out.at_.pg.core.waits.sub x (List.mem_of_getElem? hx)).2
      have HFX : Hid (x.1.S.length ≤ 400000) := HF.out.s _ (mem_fst HEW.out (List.mem_of_getElem? hx))
      have HCUR : Hid (x.1.d ∈ P.R ++ goneI P.N (a.ms.take k) P.R ↔ x.1.d ∈ P.R) := by
        show _ ↔ _
        rw [List.mem_append]
        refine ⟨fun h => h.elim id fun h => ?_, .inl⟩
        unfold goneI at h
        obtain ⟨y, hy, hyd⟩ := List.mem_map.1 (List.mem_filter.1 h).1
        obtain ⟨j, hj⟩ := List.mem_iff_getElem?.1 (List.mem_filter.1 hy).1
        rw [List.getElem?_take] at hj
        split at hj
        · rename_i hjk
          have e1 : P.ds[j]? = some y.1.d := by rw [WkD.ds, ← HEW.out, List.map_map, List.getElem?_map, hj]; rfl
          have e2 : P.ds[k]? = some x.1.d := by rw [WkD.ds, ← HEW.out, List.map_map, List.getElem?_map, HX.out]; rfl
          have := HR.out j k _ _ hjk e1 e2
          omega
        · cases hj
      clear hx hcell hcr k0 k2 k3 k4 k5 k7 k9
      have i1 : (k : Int) < (nW : Int) := by omega
      go_upto_region 5 with fail
      obtain ⟨w2, hw2⟩ : ∃ w2, w2 = wr.alloc (.cells #[.int .i64 x.1.d, .slice x.2.A x.2.n x.2.c] 56) := ⟨_, rfl⟩
      rw [← hw2]
      have hb2 : Below wr.heap.size wr w2 := by rw [hw2]; exact (Below.refl _ _).alloc (Nat.le_refl _) _
      have bx2 : Box w2 wr.heap.size [.int .i64 x.1.d, .slice x.2.A x.2.n x.2.c] := by rw [hw2]; exact box_new wr _ _
      have HS2 := Lib.hid (HS.out.skip hb2)
      have hsub2 : SlIn w2 x.2 x.1.S.length (i64s x.1.S) := hsub.below hb2
      have HSUB := Lib.hid hsub2
      have y0 : ∀ z : Calm w2, z.val.cell? ⟨wr.heap.size, 0, none⟩ = some (.int .i64 x.1.d) := fun z => (z.ok.cell (p := ⟨wr.heap.size, 0, none⟩) bx2.1).trans (bx2.2 0 _ rfl).1
      have y1 : ∀ z : Calm w2, z.val.cell? ⟨wr.heap.size, 1, none⟩ = some (.slice x.2.A x.2.n x.2.c) := fun z => (z.ok.cell (p := ⟨wr.heap.size, 1, none⟩) bx2.1).trans (bx2.2 1 _ rfl).1
      have yN : ∀ z : Calm w2, z.val.cell? ⟨g, 1, none⟩ = some (.int .i64 P.N) := fun z => (z.ok.cell (p := ⟨g, 1, none⟩) HS2.out.at_.box.1).trans (HS2.out.at_.box.2 1 _ rfl).1
      have HCT : Hid (∀ z : Calm w2, Calls Tryz.prog 118 #[.int .i64 P.N, .slice x.2.A x.2.n x.2.c] z.val fun e w' => e = .returned (.int .i64 (tal P.N x.1.S : Int)) ∧ z.val = w') := fun z => count_any P.N x.2.A x.2.c x.2.n x.1.S z.val (may_yes HM.out).1 (may_yes HM.out).2.1 HSUB.out.len (HSUB.out.rd.below z.ok) (by have := HFX.out; have := HSUB.out.len; omega)
      have HQU : Hid (∀ z : Calm w2, Calls Tryz.prog 119 #[.int .i64 P.N] z.val fun e w' => e = .returned (.int .i64 (2 * (P.N / 3) + 1)) ∧ z.val = w') := fun z => rquorum_yes P.N HM.out z.val
      have HBX := Lib.hid bx2
      have hwl := bx2.1
      clear hw2 bx2 c0 c1 hsub k1 hb2 hsub2 k6 k8
      obtain ⟨T, hT⟩ : ∃ T : Int, T = (tal P.N x.1.S : Int) := ⟨_, rfl⟩
      obtain ⟨Q, hQ⟩ : ∃ Q : Int, Q = 2 * (P.N / 3) + 1 := ⟨_, rfl⟩
      rw [← hT] at HCT
      rw [← hQ] at HQU
      have HEN : Hid (enough P.N x.1.S = decide (Q ≤ T)) := by show _ = _; rw [hT, hQ]; rfl
      clear hT hQ
      refine wp_region_calm (by kernel_rfl) (by kernel_rfl) ?_
      repeat (go_big_quiet_step (first
        | (go_at_call 118; exact calm_same (HCT.out _))
        | (go_at_call 119; exact calm_same (HQU.out _))))
      refine wpQuiet_nil ?_
      rintro _ ⟨z, rfl⟩
      have hz := z.ok
      have HS3 := Lib.hid (HS2.out.skip hz)
      have d0 := y0 z
      have d1 := y1 z
      have hzl : wr.heap.size < z.val.heap.size := by have := hz.size; omega
      have HBZ := Lib.hid (HBX.out.below hz hwl)
      obtain ⟨w3, hw3⟩ : ∃ w3, w3 = z.val := ⟨_, rfl⟩
      rw [← hw3] at d0 d1 HS3 hzl HBZ ⊢
      clear hz y0 y1 yN hw3 z HS2 hwl HBX HCT HQU
      have hRl := HF.out.r
      have hlens : oL.n ≤ k ∧ o8.n ≤ P.R.length + k := by
        have h1 := HS3.out.lenL
        have h2 := HS3.out.at_.pg.core.rL
        have h3 := leftK_len P.N (a.ms.take k)
        have h4 := goneI_len P.N (a.ms.take k) P.R
        have h5 : (a.ms.take k).length ≤ k := by rw [List.length_take]; exact Nat.min_le_left _ _
        simp only [List.length_append] at h2
        omega
      by_cases hQT : Q ≤ T
      · have he : enough P.N x.1.S = true := by rw [HEN.out]; exact decide_eq_true hQT
        have HE := Lib.hid he
        have jq : ¬ (T < Q) := by omega
        clear he hQT HEN
        have k83 : w3.cell? ⟨g, 8, none⟩ = some (.slice o8.A o8.n o8.c) := HS3.out.at_.cells.2.2.2.2.2.2.2.2.1
        have hRin := slIn_own HS3.out.at_.pg.core.ready HS3.out.at_.pg.core.rL
        have HIN : Hid (∀ z : Calm w3, Calls Tryz.prog 75 #[.slice o8.A o8.n o8.c, .int .i64 x.1.d] z.val fun e w' => e = .returned (.int .i64 (idxI (P.R ++ goneI P.N (a.ms.take k) P.R) x.1.d)) ∧ z.val = w') := fun z => rin_is _ _ _ _ _ z.val hRin.len (hRin.rd.below z.ok) (by omega)
        have hg3 : g < w3.heap.size := HS3.out.at_.box.1
        have y8 : ∀ z : Calm w3, z.val.cell? ⟨g, 8, none⟩ = some (.slice o8.A o8.n o8.c) := fun z => (z.ok.cell (p := ⟨g, 8, none⟩) hg3).trans k83
        have y0 : ∀ z : Calm w3, z.val.cell? ⟨wr.heap.size, 0, none⟩ = some (.int .i64 x.1.d) := fun z => (z.ok.cell (p := ⟨wr.heap.size, 0, none⟩) hzl).trans d0
        obtain ⟨r, hr⟩ : ∃ r, r = idxI (P.R ++ goneI P.N (a.ms.take k) P.R) x.1.d := ⟨_, rfl⟩
        rw [← hr] at HIN
        have HRI : Hid (0 ≤ r ↔ x.1.d ∈ P.R) := by show _ ↔ _; rw [hr]; exact idxI_ge.trans HCUR.out
        clear hr k83 hRin
        go_upto_region 7 with fail
        refine wp_region_calm (by kernel_rfl) (by kernel_rfl) ?_
        repeat (go_big_quiet_step (first
          | (go_at_call 75; exact calm_same (HIN.out _))))
        refine wpQuiet_nil ?_
        rintro _ ⟨z, rfl⟩
        have hz := z.ok
        have HS4 := Lib.hid (HS3.out.skip hz)
        have e0 := y0 z
        have hzl4 : wr.heap.size < z.val.heap.size := by have := hz.size; omega
        obtain ⟨w4, hw4⟩ : ∃ w4, w4 = z.val := ⟨_, rfl⟩
        rw [← hw4] at e0 HS4 hzl4 ⊢
        clear hz y0 y8 hw4 z HIN HS3 d0 d1 hzl HBZ
        by_cases hr0 : 0 ≤ r
        · have HDR : Hid (x.1.d ∈ P.R) := HRI.out.1 hr0
          have jr : ¬ (r < 0) := by omega
          clear hr0
          go_wp2_with fail
          go_roundw
          case rel => exact ⟨k + 1, oL, o8, by go_num, rfl, by omega, HS4.out.gone HX.out HE.out HDR.out⟩
          case measure => simp [intOf]; omega
        · have HDR : Hid (x.1.d ∉ P.R) := fun h => hr0 (HRI.out.2 h)
          have jr : r < 0 := by omega
          clear hr0
          go_upto_region 8 with fail
          have hg4 : g < w4.heap.size := HS4.out.at_.box.1
          have b8 : w4.cell? ⟨g, 8, none⟩ = some (.slice o8.A o8.n o8.c) := HS4.out.at_.cells.2.2.2.2.2.2.2.2.1
          have f8 : w4.frozen? ⟨g, 8, none⟩ = false := (HS4.out.at_.box.2 8 _ rfl).2
          have HROW : Hid (w4.ownsRow B 3 1 (.slice o8.A o8.n o8.c) o8.n (i64s (P.R ++ goneI P.N (a.ms.take k) P.R))) := HS4.out.at_.pg.core.ready
          have HOB : Hid (∀ j, (Value.slice o8.A o8.n o8.c).ownBlock = some j → j ≠ g) := by show ∀ j, _; exact fun j hj => HS4.out.at_.far0 j (.inl (.inr (.inr (.inl hj))))
          have hB4 : B ≤ w4.heap.size := HS4.out.at_.le
          go_region_law (first
            | (refine step_app_lies _ (by rfl) _ _ _ (by rfl) B 3 (.int .i64 0) 8 Tryz.underlying25 info_zint rfl (by decide) _ o8.n (i64s (P.R ++ goneI P.N (a.ms.take k) P.R)) (by rfl) (HROW.out.alloc _) w4.heap.size (.int .i64 x.1.d) (by rfl) (cell_new _ _ _) (by rfl) (by omega) (by simp; omega) ?_
               intro g' c' w7 ho7 hg7 hl7
               have hba : Below w4.heap.size w4 (w4.drew.alloc (.cells #[.int .i64 x.1.d] 3)) := ((Below.refl _ _).drew).alloc (Nat.le_refl _) _
               have hmore := (HS4.out.skip hba).more (o8' := ⟨some ⟨g', 0, none⟩, o8.n + 1, c'⟩) HX.out HE.out HDR.out hg7 ho7 rfl (by rcases hl7 with hl7 | hl7; exact .inl hl7; exact .inr (by rw [hl7]; rfl))
               have hgl7 : some g ≠ (Value.slice o8.A o8.n o8.c).ownBlock := fun hq => HOB.out g hq.symm rfl
               have f7 : w7.frozen? ⟨g, 8, none⟩ = false := ((World.frozen?_of_block (a := ⟨g, 8, none⟩) (hg7.block g (show g < (w4.alloc (.cells #[.int .i64 x.1.d] 3)).heap.size by simp; omega) hgl7)).trans (hba.frozen (p := ⟨g, 8, none⟩) hg4)).trans f8
               have j7 : w7.cell? ⟨g, 8, none⟩ = some (.slice o8.A o8.n o8.c) := ((World.cell?_of_block (a := ⟨g, 8, none⟩) (hg7.block g (show g < (w4.alloc (.cells #[.int .i64 x.1.d] 3)).heap.size by simp; omega) hgl7)).trans (hba.cell (p := ⟨g, 8, none⟩) hg4)).trans b8))
          all_goals
            have HMORE := Lib.hid hmore
            clear hmore ho7 hg7 hl7
            go_wp2_with fail
            go_roundw
            case rel => exact ⟨k + 1, oL, ⟨some ⟨g', 0, none⟩, o8.n + 1, c'⟩, by go_num, rfl, by omega, HMORE.out⟩
            case measure => simp [intOf]; omega
      · have he : enough P.N x.1.S = false := by rw [HEN.out]; exact decide_eq_false hQT
        have HE := Lib.hid he
        have jq : T < Q := by omega
        have HB4 : Hid (Below w3.heap.size w3 (w3.alloc (.cells #[.int .i64 x.1.d, .slice x.2.A x.2.n x.2.c] 56))) := (Below.refl _ _).alloc (Nat.le_refl _) _
        clear he hQT HEN
        go_wp2_with (at_builtin; refine wpList_append_lies _ rfl _ _ 23 rfl C 56 i0 zwait 2 32 Tryz.underlying23 HI0.out HZ0.out HZ1.out HZ2.out rfl (by decide) (.slice oL.A oL.n oL.c) oL.n (cellsK KW (leftK P.N (a.ms.take k))) rfl (ownS_below HS3.out.left HB4.out) ⟨w3.heap.size, 0, none⟩ 1 1 (KW.cells x.1 x.2.v) rfl rfl (fun j y hj => by rw [Addr.add_lit, Nat.zero_add]; exact cells_new w3 (KW.cells x.1 x.2.v) 56 j y hj) (KW.one x.1 x.2.v rfl) (by decide) (by unfold maxLen; omega) (by omega) (by have := HS3.out.c; have := HB4.out.size; omega) _ rfl ?_)
        intro g' c' w5 q1 q2 q3 q4
        have hkeep := (HS3.out.skip HB4.out).keep (oL' := ⟨some ⟨g', 0, none⟩, oL.n + 1, c'⟩) HX.out HE.out q2 q1 rfl
        have HKEEP := Lib.hid hkeep
        clear q1 q2 q3 q4 hkeep d0 d1
        go_wp2_with fail
        go_roundw
        case rel => exact ⟨k + 1, ⟨some ⟨g', 0, none⟩, oL.n + 1, c'⟩, o8, by go_num, rfl, by omega, HKEEP.out⟩
        case measure => simp [intOf]; omega
    · have i1 : ¬ ((k : Int) < (nW : Int)) := by omega
      have f6 : wr.frozen? ⟨g, 6, none⟩ = false := (HS.out.at_.box.2 6 _ rfl).2
      have hend := HS.out.end_ (by rw [HNW.out]; omega) HEW.out
      have HEND := Lib.hid hend
      clear hend
      go_wp2_with fail
      go_end0
      exact ⟨_, rfl, HEND.out.1, HEND.out.2⟩

end Go.Proofs.YteepobghdpnabaaGreat
namespace Go.Proofs.YteepobghdpnabaaGreat
open Go.RowKit

theorem txs_take : ∀ (L : List TxD) (k : Nat), (txs L).take (k * 4) = txs (L.take k)
 | [], k => by simp [txs]
 | t :: r, 0 => by simp [txs]
 | t :: r, k + 1 => by
  have e : txs (t :: r) = t.cells ++ txs r := rfl
  have e2 : txs ((t :: r).take (k + 1)) = t.cells ++ txs (r.take k) := rfl
  rw [e, e2, List.take_append, List.take_of_length_le (by show 4 ≤ (k + 1) * 4; omega), show (k + 1) * 4 - t.cells.length = k * 4 by show (k + 1) * 4 - 4 = k * 4; omega, txs_take r k]

theorem wp_store_boxZ {op : Oper} {a : Act} {w : World} {K : Act → World → Prop} {Q : Exit → Act → World → Prop} (ty : TypeId) (x y : Operand) (ho : op.op = .store ty x y)
    (g j : Nat) (cs vs us : List Value) (hx : a.eval x = .pointer (some ⟨g, j, none⟩)) (hy : a.eval y = .agg cs.toArray) (hb : Box w g vs) (hl : j + cs.length ≤ vs.length) (hus : us = vs.take j ++ cs ++ vs.drop (j + cs.length))
    (hi : (Tryz.prog.info? ty).map (·.size) = some cs.length) (h1 : cs.all (·.oneCell') = true)
    (h : ∀ w', Box w' g us → (∀ F : Nat → Prop, F g → Touch F w w') → K (a.put op.dst undef) w') : op.wp Tryz.prog a w K Q :=
  wp_store_mid ty x y ho g j cs.toArray hx hy (by rw [List.size_toArray]; exact there_box hb hl) (by rw [List.size_toArray]; exact hi) (all_oneCell_toArray fun v hv => List.all_eq_true.1 h1 v hv)
    (h _ (by rw [hus]; exact box_setCells cs j vs w hb hl) (fun F hF => touch_setCells hF cs j w w (Touch.refl F w)))
set_option maxRecDepth 100000 in
set_option maxHeartbeats 16000000 in
theorem rmake_any (P : WkD) (a : WkA) (w : World) (h : WIn w P a) (hf : WFew P 1000000) : Calls Tryz.prog 46 #[wkV P a] w (RetB P.i P.x (makeL P) (makeE P) w) := by
  obtain ⟨g, hg⟩ : ∃ g, g = w.heap.size := ⟨_, rfl⟩
  obtain ⟨wa0, hwa0⟩ : ∃ wa0, wa0 = w.alloc (.cells #[.int .i64 P.i, .int .i64 P.N, .int .i64 P.x, .slice a.O.A a.O.n a.O.c, .int .i64 P.g, .int .i64 P.c, .slice a.W.A a.W.n a.W.c, .slice a.H.A a.H.n a.H.c, .slice a.R.A a.R.n a.R.c] 27) := ⟨_, rfl⟩
  have hs0 : wa0.heap.size = g + 1 := by rw [hwa0]; simp; omega
  have bn0 : Box wa0 (g) (wkC P a) := by rw [hwa0, hg]; exact box_new w (wkC P a) 27
  have hb0 : Below g w wa0 := by rw [hwa0]; exact (Below.refl _ _).alloc (by omega) _
  obtain ⟨wa1, hwa1⟩ : ∃ wa1, wa1 = wa0.alloc (.cells #[.int .i64 0, .int .i64 0, .slice none 0 0] 42) := ⟨_, rfl⟩
  have hs1 : wa1.heap.size = g + 2 := by rw [hwa1]; simp; omega
  have bn1 : Box wa1 (g + 1) (zeroBC) := by rw [hwa1, ← hs0]; exact box_new wa0 (zeroBC) 42
  have hb1 : Below g w wa1 := by rw [hwa1]; exact hb0.alloc (by omega) _
  have HX0 : Hid (Box wa1 (g) (wkC P a)) := (bn0.below (show Below wa0.heap.size wa0 wa1 by rw [hwa1]; exact (Below.refl _ _).alloc (Nat.le_refl _) _) (by omega))
  have HX1 : Hid (Box wa1 (g + 1) (zeroBC)) := bn1
  obtain ⟨w0, hw0⟩ : ∃ w0, w0 = wa1 := ⟨_, rfl⟩
  rw [← hw0] at HX0
  rw [← hw0] at HX1
  have hsz0 : w0.heap.size = g + 2 := by rw [hw0]; exact hs1
  have hb0w : Below g w w0 := by rw [hw0]; exact hb1
  have HW0 : Hid ((w.alloc (.cells #[.int .i64 P.i, .int .i64 P.N, .int .i64 P.x, .slice a.O.A a.O.n a.O.c, .int .i64 P.g, .int .i64 P.c, .slice a.W.A a.W.n a.W.c, .slice a.H.A a.H.n a.H.c, .slice a.R.A a.R.n a.R.c] 27)).alloc (.cells #[.int .i64 0, .int .i64 0, .slice none 0 0] 42) = w0) := by show (w.alloc (.cells #[.int .i64 P.i, .int .i64 P.N, .int .i64 P.x, .slice a.O.A a.O.n a.O.c, .int .i64 P.g, .int .i64 P.c, .slice a.W.A a.W.n a.W.c, .slice a.H.A a.H.n a.H.c, .slice a.R.A a.R.n a.R.c] 27)).alloc (.cells #[.int .i64 0, .int .i64 0, .slice none 0 0] 42) = w0; rw [hw0, hwa1, hwa0]
  have HG : Hid (w.heap.size = g) := hg.symm
  have HS0 := Lib.hid hsz0
  have HB0 := Lib.hid hb0w
  have hl0 : g < w0.heap.size := by omega
  have hl1 : g + 1 < w0.heap.size := by omega
  have hgw : g ≤ w0.heap.size := by omega
  obtain ⟨E, hE⟩ : ∃ E, E = makeE P := ⟨_, rfl⟩
  rw [← hE]
  have hlen : P.O.length = a.O.n := h.open_.len
  have hcapO := h.open_.cap
  have hlenH : P.H.length = a.H.n := by rw [← h.eH, List.length_map]; exact h.held.row.len
  have hin0 := h.below' HB0.out HG.out
  have HIN : Hid (∀ wX, Below w0.heap.size w0 wX → WIn wX P a) := by show ∀ wX, _; exact fun wX hX => hin0.below hX
  have hO6 := hf.o
  obtain ⟨k0, k1, k2, k3, k4, k5, k6, k7, k8⟩ := wk_cells HX0.out
  clear h hf hin0
  clear hg hsz0 hb0w hw0 hwa0 hs0 bn0 hb0 hwa1 hs1 bn1 hb1
  unfold wkV Ad.v
  by_cases h0 : (a.O.n : Int) < 8
  · by_cases h1 : (0 : Int) < (a.O.n : Int)
    · by_cases h2 : (4 : Int) ≤ P.g
      · by_cases h3 : (1099511627776 : Int) ≤ P.x
        · have q1 : decide ((a.O.n : Int) < 8) = true := decide_eq_true (by omega)
          have l1 : (a.O.n : Int) < 8 := by omega
          have q2 : decide ((0 : Int) < (a.O.n : Int)) = true := decide_eq_true (by omega)
          have l2 : (0 : Int) < (a.O.n : Int) := by omega
          have q3 : decide ((4 : Int) ≤ P.g) = true := decide_eq_true (by omega)
          have l3 : (4 : Int) ≤ P.g := by omega
          have q4 : decide ((1099511627776 : Int) ≤ P.x) = true := decide_eq_true (by omega)
          have l4 : (1099511627776 : Int) ≤ P.x := by omega
          have HE : Hid (E = 10) := by show E = 10; rw [hE, makeE, if_neg (by rw [dueW, decide_eq_true_eq]; rintro ⟨h1, h2⟩; omega)]
          clear hE hlenH hlen
          go_enter Tryz.func46, Tryz.ntmps46
          go_upto_region 1 with fail
          rw [HG.out, HW0.out]
          go_wp2_with (first
            | (refine wpList_store_box rfl 42 _ _ rfl (g + 1) 0 zeroBC zeroBC zeroBC rfl rfl HX1.out (show 0 + 3 ≤ 3 by decide) rfl size_batch rfl ?_; intro w9 bx9 T9))
          obtain ⟨r0, r1, r2⟩ := bat_cells bx9
          have t9 := T9 (fun k => k = g + 1) rfl
          refine bodyPost_ret (v := .tuple #[.agg #[.int .i64 0, .int .i64 0, noAd.v], .int .i64 10]) (by simp [results, Tryz.results46, go_sem, r0, r1, r2, Ad.v, noAd]) rfl ⟨noAd, by rw [HE.out]; rfl, by rw [HE.out]; exact World.ownsRow_nil _ _ _ _, by rw [HE.out]; rfl, ?_⟩
          rw [HG.out]
          exact HB0.out.trans (t9.below (fun k hk => by omega) (by omega))
        · by_cases h4 : 1024 ≤ a.H.n
          · have q1 : decide ((a.O.n : Int) < 8) = true := decide_eq_true (by omega)
            have l1 : (a.O.n : Int) < 8 := by omega
            have q2 : decide ((0 : Int) < (a.O.n : Int)) = true := decide_eq_true (by omega)
            have l2 : (0 : Int) < (a.O.n : Int) := by omega
            have q3 : decide ((4 : Int) ≤ P.g) = true := decide_eq_true (by omega)
            have l3 : (4 : Int) ≤ P.g := by omega
            have q4 : decide ((1099511627776 : Int) ≤ P.x) = false := decide_eq_false (by omega)
            have l4 : ¬ ((1099511627776 : Int) ≤ P.x) := by omega
            have HE : Hid (E = 8) := by show E = 8; rw [hE, makeE, if_pos (by rw [dueW, decide_eq_true_eq]; omega), if_pos (by omega)]
            have l9 : (1024 : Int) ≤ (a.H.n : Int) := by omega
            have q9 : decide ((1024 : Int) ≤ (a.H.n : Int)) = true := decide_eq_true l9
            clear hE hlenH hlen
            go_enter Tryz.func46, Tryz.ntmps46
            go_upto_region 1 with fail
            rw [HG.out, HW0.out]
            go_wp2_with (first
              | (refine wpList_store_box rfl 42 _ _ rfl (g + 1) 0 zeroBC zeroBC zeroBC rfl rfl HX1.out (show 0 + 3 ≤ 3 by decide) rfl size_batch rfl ?_; intro w9 bx9 T9))
            obtain ⟨r0, r1, r2⟩ := bat_cells bx9
            have t9 := T9 (fun k => k = g + 1) rfl
            refine bodyPost_ret (v := .tuple #[.agg #[.int .i64 0, .int .i64 0, noAd.v], .int .i64 8]) (by simp [results, Tryz.results46, go_sem, r0, r1, r2, Ad.v, noAd]) rfl ⟨noAd, by rw [HE.out]; rfl, by rw [HE.out]; exact World.ownsRow_nil _ _ _ _, by rw [HE.out]; rfl, ?_⟩
            rw [HG.out]
            exact HB0.out.trans (t9.below (fun k hk => by omega) (by omega))
          · have q1 : decide ((a.O.n : Int) < 8) = true := decide_eq_true (by omega)
            have l1 : (a.O.n : Int) < 8 := by omega
            have q2 : decide ((0 : Int) < (a.O.n : Int)) = true := decide_eq_true (by omega)
            have l2 : (0 : Int) < (a.O.n : Int) := by omega
            have q3 : decide ((4 : Int) ≤ P.g) = true := decide_eq_true (by omega)
            have l3 : (4 : Int) ≤ P.g := by omega
            have q4 : decide ((1099511627776 : Int) ≤ P.x) = false := decide_eq_false (by omega)
            have l4 : ¬ ((1099511627776 : Int) ≤ P.x) := by omega
            have HE : Hid (E = 0) := by show E = 0; rw [hE, makeE, if_pos (by rw [dueW, decide_eq_true_eq]; omega), if_neg (by omega)]
            have l9 : ¬ ((1024 : Int) ≤ (a.H.n : Int)) := by omega
            have q9 : decide ((1024 : Int) ≤ (a.H.n : Int)) = false := decide_eq_false l9
            obtain ⟨m, hm⟩ : ∃ m : Nat, m = min a.O.n 8 := ⟨_, rfl⟩
            have hmi : min (a.O.n : Int) 8 = (m : Int) := by omega
            have hmn : m ≤ a.O.n := by omega
            have hmc : m ≤ a.O.c := by omega
            have hi1 : (0 : Int) ≤ (m : Int) := by omega
            have hi2 : (m : Int) ≤ (a.O.n : Int) := by omega
            have hi3 : (m : Int) ≤ (a.O.c : Int) := by omega
            have HTL : Hid ((P.O.take 8).length = m) := by show _ = m; rw [List.length_take]; omega
            have HTR : Hid (∀ wX, Below w0.heap.size w0 wX → Rd wX a.O.A (txs (P.O.take 8))) := by
              show ∀ wX, _
              intro wX hX
              have h1 := rd_takeZ (HIN.out wX hX).open_.rd (8 * 4)
              have e : (txs P.O).take (8 * 4) = txs (P.O.take 8) := txs_take P.O 8
              rw [e] at h1
              exact h1
            have hm6 : m ≤ 1000000 := by omega
            clear hE hlenH hlen hm
            go_enter Tryz.func46, Tryz.ntmps46
            go_upto_region 1 with fail
            rw [HG.out, HW0.out]
            go_upto_region 6 with fail
            have hSS : Box w0.drew g (wkC P a) := HX0.out
            refine wp_region_held_drew (S := fun w' => Box w' g (wkC P a)) (by kernel_rfl) hSS (fun _ => ?_)
            refine ytake_0 (v := ?vv1) (by kernel_rfl) (by kernel_rfl) (by kernel_rfl) (fun _ _ _ h => h) (Or.inl ⟨by rfl, ?hy1⟩) hSS ?_
            case hy1 =>
              intro wX hSw
              go_simp
              try with_reducible rfl
            try simp only [Act.put, List.setIfInBounds_toArray, List.set_cons_zero, List.set_cons_succ]
            refine ytake_1 (v := ?vv2) (by kernel_rfl) (by kernel_rfl) (by kernel_rfl) (fun _ _ _ h => h) (Or.inl ⟨by rfl, ?hy2⟩) hSS ?_
            case hy2 =>
              intro wX hSw
              have c0 := (hSw.2 0 _ rfl).1
              go_simp
              try with_reducible rfl
            try simp only [Act.put, List.setIfInBounds_toArray, List.set_cons_zero, List.set_cons_succ]
            refine ytake_2 (v := ?vv3) (by kernel_rfl) (by kernel_rfl) (by kernel_rfl) (fun _ _ _ h => h) (Or.inl ⟨by rfl, ?hy3⟩) hSS ?_
            case hy3 =>
              intro wX hSw
              go_simp
              try with_reducible rfl
            try simp only [Act.put, List.setIfInBounds_toArray, List.set_cons_zero, List.set_cons_succ]
            refine ytake_3 (v := ?vv4) (by kernel_rfl) (by kernel_rfl) (by kernel_rfl) (fun _ _ _ h => h) (Or.inl ⟨by rfl, ?hy4⟩) hSS ?_
            case hy4 =>
              intro wX hSw
              have c2 := (hSw.2 2 _ rfl).1
              go_simp
              try with_reducible rfl
            try simp only [Act.put, List.setIfInBounds_toArray, List.set_cons_zero, List.set_cons_succ]
            refine ytake_4 (v := ?vv5) (by kernel_rfl) (by kernel_rfl) (by kernel_rfl) (fun _ _ _ h => h) (Or.inl ⟨by rfl, ?hy5⟩) hSS ?_
            case hy5 =>
              intro wX hSw
              go_simp
              try with_reducible rfl
            try simp only [Act.put, List.setIfInBounds_toArray, List.set_cons_zero, List.set_cons_succ]
            refine ytake_5 (v := ?vv6) (by kernel_rfl) (by kernel_rfl) (by kernel_rfl) (fun _ _ _ h => h) (Or.inl ⟨by rfl, ?hy6⟩) hSS ?_
            case hy6 =>
              intro wX hSw
              have c3 : wX.cell? ⟨g, 3, none⟩ = some (.slice a.O.A a.O.n a.O.c) := (hSw.2 3 _ rfl).1
              go_simp
              try with_reducible rfl
            try simp only [Act.put, List.setIfInBounds_toArray, List.set_cons_zero, List.set_cons_succ]
            refine ytake_6 (v := ?vv7) (by kernel_rfl) (by kernel_rfl) (by kernel_rfl) (fun _ _ _ h => h) (Or.inl ⟨by rfl, ?hy7⟩) hSS ?_
            case hy7 =>
              intro wX hSw
              go_simp
              try with_reducible rfl
            try simp only [Act.put, List.setIfInBounds_toArray, List.set_cons_zero, List.set_cons_succ]
            refine ytake_7 (v := ?vv8) (by kernel_rfl) (by kernel_rfl) (by kernel_rfl) (fun _ _ _ h => h) (Or.inl ⟨by rfl, ?hy8⟩) hSS ?_
            case hy8 =>
              intro wX hSw
              go_simp
              try with_reducible rfl
            try simp only [Act.put, List.setIfInBounds_toArray, List.set_cons_zero, List.set_cons_succ]
            refine ytake_8 (v := ?vv9) (by kernel_rfl) (by kernel_rfl) (by kernel_rfl) (fun _ _ _ h => h) (Or.inl ⟨by rfl, ?hy9⟩) hSS ?_
            case hy9 =>
              intro wX hSw
              go_simp
              try with_reducible rfl
            try simp only [Act.put, List.setIfInBounds_toArray, List.set_cons_zero, List.set_cons_succ]
            refine yready_9 (by kernel_rfl) ?_
            intro KQ hK
            rw [if_pos (by rfl)]
            try go_simp
            refine (copyTxs_any a.O.A a.O.c m (P.O.take 8) _ HTL.out (HTR.out _ ((Below.refl _ _).drew)) (by omega) (by omega)).mono ?_
            rintro e w5 ⟨v, rfl, hoO, hbv⟩
            obtain ⟨AO, cO, rfl, _, _, _, _, _⟩ := ownS_slice hoO
            have hb5 : Below w0.heap.size w0 w5 := ((Below.refl _ _).drew).trans hbv
            have hS5 : Box w5 g (wkC P a) := HX0.out.below hb5 hl0
            have HR5 : Hid (Box w5 (g + 1) zeroBC) := HX1.out.below hb5 hl1
            have HO5 : Hid (w5.ownsRow w0.heap.size 40 4 (.slice AO m cO) m (txs (P.O.take 8))) := hoO
            have HB5 := Lib.hid hb5
            clear hoO hbv hb5
            refine hK.out _ _ hS5 (fun _ => ?_)
            clear hK KQ
            try simp only [Act.put, List.setIfInBounds_toArray, List.set_cons_zero, List.set_cons_succ]
            refine ytake_10 (v := ?vv10) (by kernel_rfl) (by kernel_rfl) (by kernel_rfl) (fun _ _ _ h => h) (Or.inl ⟨by rfl, ?hy10⟩) hS5 ?_
            case hy10 =>
              intro wX hSw
              go_simp
              try with_reducible rfl
            try simp only [Act.put, List.setIfInBounds_toArray, List.set_cons_zero, List.set_cons_succ]
            refine yready_11 (by kernel_rfl) ?_
            intro KQ hK
            rw [if_pos (by rfl)]
            refine wp_store_boxZ 42 _ _ rfl (g + 1) 0 [.int .i64 P.i, .int .i64 P.x, .slice AO m cO] zeroBC [.int .i64 P.i, .int .i64 P.x, .slice AO m cO] rfl rfl HR5.out (show 0 + 3 ≤ 3 by decide) rfl size_batch rfl ?_
            intro w6 bx6 T6
            have t6 := T6 (fun k => k = g + 1) rfl
            have hS6 : Box w6 g (wkC P a) := hS5.touch t6 (by omega)
            refine hK.out _ _ hS6 (fun _ => ?_)
            clear hK KQ
            try simp only [Act.put]
            refine ytake_12 (v := ?vv11) (by kernel_rfl) (by kernel_rfl) (by kernel_rfl) (fun _ _ _ h => h) (Or.inl ⟨by rfl, ?hy11⟩) hS6 ?_
            case hy11 =>
              intro wX hSw
              go_simp
              try with_reducible rfl
            try simp only [Act.put, List.setIfInBounds_toArray, List.set_cons_zero, List.set_cons_succ]
            refine wpAnyH_done (by kernel_rfl) ?_ _
            have r0 := (bx6.2 0 _ rfl).1
            have r1 := (bx6.2 1 _ rfl).1
            have r2 := (bx6.2 2 _ rfl).1
            have hs6 := t6.size
            have hs5 := HB5.out.size
            go_wp2_with fail
            refine bodyPost_ret (v := .tuple #[.agg #[.int .i64 P.i, .int .i64 P.x, .slice AO m cO], .int .i64 0]) (by simp [results, Tryz.results46, go_sem, r0, r1, r2]) rfl ⟨⟨AO, m, cO⟩, by rw [HE.out]; rfl, ?_, by rw [HE.out]; exact HTL.out, ?_⟩
            · rw [HE.out, HG.out]
              exact ownS_more (own_kept HO5.out fun k hk hl => t6.block k hl (by have := (own_lt HO5.out hk).2; omega)) (by omega)
            · rw [HG.out]
              exact (HB0.out.trans (HB5.out.mono hgw)).trans (t6.below (fun k hk => by omega) (by omega))
      · have q1 : decide ((a.O.n : Int) < 8) = true := decide_eq_true (by omega)
        have l1 : (a.O.n : Int) < 8 := by omega
        have q2 : decide ((0 : Int) < (a.O.n : Int)) = true := decide_eq_true (by omega)
        have l2 : (0 : Int) < (a.O.n : Int) := by omega
        have q3 : decide ((4 : Int) ≤ P.g) = false := decide_eq_false (by omega)
        have l3 : ¬ ((4 : Int) ≤ P.g) := by omega
        have HE : Hid (E = 10) := by show E = 10; rw [hE, makeE, if_neg (by rw [dueW, decide_eq_true_eq]; rintro ⟨h1, h2⟩; omega)]
        clear hE hlenH hlen
        go_enter Tryz.func46, Tryz.ntmps46
        go_upto_region 1 with fail
        rw [HG.out, HW0.out]
        go_wp2_with (first
          | (refine wpList_store_box rfl 42 _ _ rfl (g + 1) 0 zeroBC zeroBC zeroBC rfl rfl HX1.out (show 0 + 3 ≤ 3 by decide) rfl size_batch rfl ?_; intro w9 bx9 T9))
        obtain ⟨r0, r1, r2⟩ := bat_cells bx9
        have t9 := T9 (fun k => k = g + 1) rfl
        refine bodyPost_ret (v := .tuple #[.agg #[.int .i64 0, .int .i64 0, noAd.v], .int .i64 10]) (by simp [results, Tryz.results46, go_sem, r0, r1, r2, Ad.v, noAd]) rfl ⟨noAd, by rw [HE.out]; rfl, by rw [HE.out]; exact World.ownsRow_nil _ _ _ _, by rw [HE.out]; rfl, ?_⟩
        rw [HG.out]
        exact HB0.out.trans (t9.below (fun k hk => by omega) (by omega))
    · have q1 : decide ((a.O.n : Int) < 8) = true := decide_eq_true (by omega)
      have l1 : (a.O.n : Int) < 8 := by omega
      have q2 : decide ((0 : Int) < (a.O.n : Int)) = false := decide_eq_false (by omega)
      have l2 : ¬ ((0 : Int) < (a.O.n : Int)) := by omega
      have HE : Hid (E = 10) := by show E = 10; rw [hE, makeE, if_neg (by rw [dueW, decide_eq_true_eq]; rintro ⟨h1, h2⟩; omega)]
      clear hE hlenH hlen
      go_enter Tryz.func46, Tryz.ntmps46
      go_upto_region 1 with fail
      rw [HG.out, HW0.out]
      go_wp2_with (first
        | (refine wpList_store_box rfl 42 _ _ rfl (g + 1) 0 zeroBC zeroBC zeroBC rfl rfl HX1.out (show 0 + 3 ≤ 3 by decide) rfl size_batch rfl ?_; intro w9 bx9 T9))
      obtain ⟨r0, r1, r2⟩ := bat_cells bx9
      have t9 := T9 (fun k => k = g + 1) rfl
      refine bodyPost_ret (v := .tuple #[.agg #[.int .i64 0, .int .i64 0, noAd.v], .int .i64 10]) (by simp [results, Tryz.results46, go_sem, r0, r1, r2, Ad.v, noAd]) rfl ⟨noAd, by rw [HE.out]; rfl, by rw [HE.out]; exact World.ownsRow_nil _ _ _ _, by rw [HE.out]; rfl, ?_⟩
      rw [HG.out]
      exact HB0.out.trans (t9.below (fun k hk => by omega) (by omega))
  · by_cases h3 : (1099511627776 : Int) ≤ P.x
    · have q1 : decide ((a.O.n : Int) < 8) = false := decide_eq_false (by omega)
      have l1 : ¬ ((a.O.n : Int) < 8) := by omega
      have q4 : decide ((1099511627776 : Int) ≤ P.x) = true := decide_eq_true (by omega)
      have l4 : (1099511627776 : Int) ≤ P.x := by omega
      have HE : Hid (E = 10) := by show E = 10; rw [hE, makeE, if_neg (by rw [dueW, decide_eq_true_eq]; rintro ⟨h1, h2⟩; omega)]
      clear hE hlenH hlen
      go_enter Tryz.func46, Tryz.ntmps46
      go_upto_region 1 with fail
      rw [HG.out, HW0.out]
      go_wp2_with (first
        | (refine wpList_store_box rfl 42 _ _ rfl (g + 1) 0 zeroBC zeroBC zeroBC rfl rfl HX1.out (show 0 + 3 ≤ 3 by decide) rfl size_batch rfl ?_; intro w9 bx9 T9))
      obtain ⟨r0, r1, r2⟩ := bat_cells bx9
      have t9 := T9 (fun k => k = g + 1) rfl
      refine bodyPost_ret (v := .tuple #[.agg #[.int .i64 0, .int .i64 0, noAd.v], .int .i64 10]) (by simp [results, Tryz.results46, go_sem, r0, r1, r2, Ad.v, noAd]) rfl ⟨noAd, by rw [HE.out]; rfl, by rw [HE.out]; exact World.ownsRow_nil _ _ _ _, by rw [HE.out]; rfl, ?_⟩
      rw [HG.out]
      exact HB0.out.trans (t9.below (fun k hk => by omega) (by omega))
    · by_cases h4 : 1024 ≤ a.H.n
      · have q1 : decide ((a.O.n : Int) < 8) = false := decide_eq_false (by omega)
        have l1 : ¬ ((a.O.n : Int) < 8) := by omega
        have q4 : decide ((1099511627776 : Int) ≤ P.x) = false := decide_eq_false (by omega)
        have l4 : ¬ ((1099511627776 : Int) ≤ P.x) := by omega
        have HE : Hid (E = 8) := by show E = 8; rw [hE, makeE, if_pos (by rw [dueW, decide_eq_true_eq]; omega), if_pos (by omega)]
        have l9 : (1024 : Int) ≤ (a.H.n : Int) := by omega
        have q9 : decide ((1024 : Int) ≤ (a.H.n : Int)) = true := decide_eq_true l9
        clear hE hlenH hlen
        go_enter Tryz.func46, Tryz.ntmps46
        go_upto_region 1 with fail
        rw [HG.out, HW0.out]
        go_wp2_with (first
          | (refine wpList_store_box rfl 42 _ _ rfl (g + 1) 0 zeroBC zeroBC zeroBC rfl rfl HX1.out (show 0 + 3 ≤ 3 by decide) rfl size_batch rfl ?_; intro w9 bx9 T9))
        obtain ⟨r0, r1, r2⟩ := bat_cells bx9
        have t9 := T9 (fun k => k = g + 1) rfl
        refine bodyPost_ret (v := .tuple #[.agg #[.int .i64 0, .int .i64 0, noAd.v], .int .i64 8]) (by simp [results, Tryz.results46, go_sem, r0, r1, r2, Ad.v, noAd]) rfl ⟨noAd, by rw [HE.out]; rfl, by rw [HE.out]; exact World.ownsRow_nil _ _ _ _, by rw [HE.out]; rfl, ?_⟩
        rw [HG.out]
        exact HB0.out.trans (t9.below (fun k hk => by omega) (by omega))
      · have q1 : decide ((a.O.n : Int) < 8) = false := decide_eq_false (by omega)
        have l1 : ¬ ((a.O.n : Int) < 8) := by omega
        have q4 : decide ((1099511627776 : Int) ≤ P.x) = false := decide_eq_false (by omega)
        have l4 : ¬ ((1099511627776 : Int) ≤ P.x) := by omega
        have HE : Hid (E = 0) := by show E = 0; rw [hE, makeE, if_pos (by rw [dueW, decide_eq_true_eq]; omega), if_neg (by omega)]
        have l9 : ¬ ((1024 : Int) ≤ (a.H.n : Int)) := by omega
        have q9 : decide ((1024 : Int) ≤ (a.H.n : Int)) = false := decide_eq_false l9
        obtain ⟨m, hm⟩ : ∃ m : Nat, m = min a.O.n 8 := ⟨_, rfl⟩
        have hmi : min (a.O.n : Int) 8 = (m : Int) := by omega
        have hmn : m ≤ a.O.n := by omega
        have hmc : m ≤ a.O.c := by omega
        have hi1 : (0 : Int) ≤ (m : Int) := by omega
        have hi2 : (m : Int) ≤ (a.O.n : Int) := by omega
        have hi3 : (m : Int) ≤ (a.O.c : Int) := by omega
        have HTL : Hid ((P.O.take 8).length = m) := by show _ = m; rw [List.length_take]; omega
        have HTR : Hid (∀ wX, Below w0.heap.size w0 wX → Rd wX a.O.A (txs (P.O.take 8))) := by
          show ∀ wX, _
          intro wX hX
          have h1 := rd_takeZ (HIN.out wX hX).open_.rd (8 * 4)
          have e : (txs P.O).take (8 * 4) = txs (P.O.take 8) := txs_take P.O 8
          rw [e] at h1
          exact h1
        have hm6 : m ≤ 1000000 := by omega
        clear hE hlenH hlen hm
        go_enter Tryz.func46, Tryz.ntmps46
        go_upto_region 1 with fail
        rw [HG.out, HW0.out]
        go_upto_region 6 with fail
        have hSS : Box w0.drew g (wkC P a) := HX0.out
        refine wp_region_held_drew (S := fun w' => Box w' g (wkC P a)) (by kernel_rfl) hSS (fun _ => ?_)
        refine ytake_0 (v := ?vv12) (by kernel_rfl) (by kernel_rfl) (by kernel_rfl) (fun _ _ _ h => h) (Or.inl ⟨by rfl, ?hy12⟩) hSS ?_
        case hy12 =>
          intro wX hSw
          go_simp
          try with_reducible rfl
        try simp only [Act.put, List.setIfInBounds_toArray, List.set_cons_zero, List.set_cons_succ]
        refine ytake_1 (v := ?vv13) (by kernel_rfl) (by kernel_rfl) (by kernel_rfl) (fun _ _ _ h => h) (Or.inl ⟨by rfl, ?hy13⟩) hSS ?_
        case hy13 =>
          intro wX hSw
          have c0 := (hSw.2 0 _ rfl).1
          go_simp
          try with_reducible rfl
        try simp only [Act.put, List.setIfInBounds_toArray, List.set_cons_zero, List.set_cons_succ]
        refine ytake_2 (v := ?vv14) (by kernel_rfl) (by kernel_rfl) (by kernel_rfl) (fun _ _ _ h => h) (Or.inl ⟨by rfl, ?hy14⟩) hSS ?_
        case hy14 =>
          intro wX hSw
          go_simp
          try with_reducible rfl
        try simp only [Act.put, List.setIfInBounds_toArray, List.set_cons_zero, List.set_cons_succ]
        refine ytake_3 (v := ?vv15) (by kernel_rfl) (by kernel_rfl) (by kernel_rfl) (fun _ _ _ h => h) (Or.inl ⟨by rfl, ?hy15⟩) hSS ?_
        case hy15 =>
          intro wX hSw
          have c2 := (hSw.2 2 _ rfl).1
          go_simp
          try with_reducible rfl
        try simp only [Act.put, List.setIfInBounds_toArray, List.set_cons_zero, List.set_cons_succ]
        refine ytake_4 (v := ?vv16) (by kernel_rfl) (by kernel_rfl) (by kernel_rfl) (fun _ _ _ h => h) (Or.inl ⟨by rfl, ?hy16⟩) hSS ?_
        case hy16 =>
          intro wX hSw
          go_simp
          try with_reducible rfl
        try simp only [Act.put, List.setIfInBounds_toArray, List.set_cons_zero, List.set_cons_succ]
        refine ytake_5 (v := ?vv17) (by kernel_rfl) (by kernel_rfl) (by kernel_rfl) (fun _ _ _ h => h) (Or.inl ⟨by rfl, ?hy17⟩) hSS ?_
        case hy17 =>
          intro wX hSw
          have c3 : wX.cell? ⟨g, 3, none⟩ = some (.slice a.O.A a.O.n a.O.c) := (hSw.2 3 _ rfl).1
          go_simp
          try with_reducible rfl
        try simp only [Act.put, List.setIfInBounds_toArray, List.set_cons_zero, List.set_cons_succ]
        refine ytake_6 (v := ?vv18) (by kernel_rfl) (by kernel_rfl) (by kernel_rfl) (fun _ _ _ h => h) (Or.inl ⟨by rfl, ?hy18⟩) hSS ?_
        case hy18 =>
          intro wX hSw
          go_simp
          try with_reducible rfl
        try simp only [Act.put, List.setIfInBounds_toArray, List.set_cons_zero, List.set_cons_succ]
        refine ytake_7 (v := ?vv19) (by kernel_rfl) (by kernel_rfl) (by kernel_rfl) (fun _ _ _ h => h) (Or.inl ⟨by rfl, ?hy19⟩) hSS ?_
        case hy19 =>
          intro wX hSw
          go_simp
          try with_reducible rfl
        try simp only [Act.put, List.setIfInBounds_toArray, List.set_cons_zero, List.set_cons_succ]
        refine ytake_8 (v := ?vv20) (by kernel_rfl) (by kernel_rfl) (by kernel_rfl) (fun _ _ _ h => h) (Or.inl ⟨by rfl, ?hy20⟩) hSS ?_
        case hy20 =>
          intro wX hSw
          go_simp
          try with_reducible rfl
        try simp only [Act.put, List.setIfInBounds_toArray, List.set_cons_zero, List.set_cons_succ]
        refine yready_9 (by kernel_rfl) ?_
        intro KQ hK
        rw [if_pos (by rfl)]
        try go_simp
        refine (copyTxs_any a.O.A a.O.c m (P.O.take 8) _ HTL.out (HTR.out _ ((Below.refl _ _).drew)) (by omega) (by omega)).mono ?_
        rintro e w5 ⟨v, rfl, hoO, hbv⟩
        obtain ⟨AO, cO, rfl, _, _, _, _, _⟩ := ownS_slice hoO
        have hb5 : Below w0.heap.size w0 w5 := ((Below.refl _ _).drew).trans hbv
        have hS5 : Box w5 g (wkC P a) := HX0.out.below hb5 hl0
        have HR5 : Hid (Box w5 (g + 1) zeroBC) := HX1.out.below hb5 hl1
        have HO5 : Hid (w5.ownsRow w0.heap.size 40 4 (.slice AO m cO) m (txs (P.O.take 8))) := hoO
        have HB5 := Lib.hid hb5
        clear hoO hbv hb5
        refine hK.out _ _ hS5 (fun _ => ?_)
        clear hK KQ
        try simp only [Act.put, List.setIfInBounds_toArray, List.set_cons_zero, List.set_cons_succ]
        refine ytake_10 (v := ?vv21) (by kernel_rfl) (by kernel_rfl) (by kernel_rfl) (fun _ _ _ h => h) (Or.inl ⟨by rfl, ?hy21⟩) hS5 ?_
        case hy21 =>
          intro wX hSw
          go_simp
          try with_reducible rfl
        try simp only [Act.put, List.setIfInBounds_toArray, List.set_cons_zero, List.set_cons_succ]
        refine yready_11 (by kernel_rfl) ?_
        intro KQ hK
        rw [if_pos (by rfl)]
        refine wp_store_boxZ 42 _ _ rfl (g + 1) 0 [.int .i64 P.i, .int .i64 P.x, .slice AO m cO] zeroBC [.int .i64 P.i, .int .i64 P.x, .slice AO m cO] rfl rfl HR5.out (show 0 + 3 ≤ 3 by decide) rfl size_batch rfl ?_
        intro w6 bx6 T6
        have t6 := T6 (fun k => k = g + 1) rfl
        have hS6 : Box w6 g (wkC P a) := hS5.touch t6 (by omega)
        refine hK.out _ _ hS6 (fun _ => ?_)
        clear hK KQ
        try simp only [Act.put]
        refine ytake_12 (v := ?vv22) (by kernel_rfl) (by kernel_rfl) (by kernel_rfl) (fun _ _ _ h => h) (Or.inl ⟨by rfl, ?hy22⟩) hS6 ?_
        case hy22 =>
          intro wX hSw
          go_simp
          try with_reducible rfl
        try simp only [Act.put, List.setIfInBounds_toArray, List.set_cons_zero, List.set_cons_succ]
        refine wpAnyH_done (by kernel_rfl) ?_ _
        have r0 := (bx6.2 0 _ rfl).1
        have r1 := (bx6.2 1 _ rfl).1
        have r2 := (bx6.2 2 _ rfl).1
        have hs6 := t6.size
        have hs5 := HB5.out.size
        go_wp2_with fail
        refine bodyPost_ret (v := .tuple #[.agg #[.int .i64 P.i, .int .i64 P.x, .slice AO m cO], .int .i64 0]) (by simp [results, Tryz.results46, go_sem, r0, r1, r2]) rfl ⟨⟨AO, m, cO⟩, by rw [HE.out]; rfl, ?_, by rw [HE.out]; exact HTL.out, ?_⟩
        · rw [HE.out, HG.out]
          exact ownS_more (own_kept HO5.out fun k hk hl => t6.block k hl (by have := (own_lt HO5.out hk).2; omega)) (by omega)
        · rw [HG.out]
          exact (HB0.out.trans (HB5.out.mono hgw)).trans (t6.below (fun k hk => by omega) (by omega))

end Go.Proofs.YteepobghdpnabaaGreat
