/-
 The page's Sealed: what is done.
-/
import Derived.WalkKit
import Derived.Below
import Derived.Deep.Draws
import Derived.Deep.AppendLies
import Derived.Lib.AppendStr
import Derived.Lib.ConvBytes
import Derived.Lib.Hide
import Derived.Test.YteepobghdpnabaaGreatRows
import Derived.WalkSpells
import Derived.WalkLawsBesides
import Derived.Deep.QuietTactic
import Derived.BigQuiet
import Derived.LoopTactic
import Derived.Outline
import Derived.Laws.StructEq
import Derived.Deep.RegionHeld3
import Derived.OneCell
import Derived.IntWalk
import Derived.ProofKit
import Derived.OpenShut
import Derived.SliceStrings
import Derived.ChangeSlices
import Derived.Deep.Slices
import Derived.Deep.Fields
import Derived.ChangeOld
import Derived.Carry
import Derived.SizedLaws
import Derived.ScopeJumps
import Derived.Deep.MidRow
import Derived.Deep.DeepCutAuto
import Derived.Deep.CutRange
import Derived.Deep.RegionLaw
import Derived.BigRegion
import Derived.Laws.Rows
import Derived.Laws.CopyRow
import Derived.Lib.AppendZerosOnto
import Derived.Lib.Overlaps
import Derived.StillTailTactics
import Derived.Laws.Externs
import Derived.Deep.CutBlock
import Derived.Maps.OwnSet
import Derived.Great.BuildSlice
import Derived.Maps.AppendAt
import Derived.Lib.MinMax
import Derived.Test.YteepobghdpnabaaGreatKWorkerTicksa
import Derived.Test.YteepobghdpnabaaGreatKWorkerTicksb
import Derived.Test.YteepobghdpnabaaGreatKWorkerTicksc
import Derived.Test.YteepobghdpnabaaGreatKWorkerTicksd
import Derived.Test.YteepobghdpnabaaGreatKWorkerTickse
import Derived.Test.YteepobghdpnabaaGreatKWorkerTicksf
import Derived.Test.YteepobghdpnabaaGreatKWorkerTicksg
import Derived.Test.YteepobghdpnabaaGreatKWorkerTicksh
import Derived.Test.YteepobghdpnabaaGreatKWorkerTicksi
import Derived.Test.YteepobghdpnabaaGreatKWorkerTicksj
import Derived.Test.YteepobghdpnabaaGreatKWorkerTicksk
import Derived.Test.YteepobghdpnabaaGreatKWorkerTicksl
import Derived.Test.YteepobghdpnabaaGreatKWorkerTicksm
import Derived.Test.YteepobghdpnabaaGreatKWorkerTicksn
import Derived.Test.YteepobghdpnabaaGreatKWorkerTickso
import Derived.Test.YteepobghdpnabaaGreatKWorkerTicksp
import Derived.Test.YteepobghdpnabaaGreatKWorkerTicksq
import Derived.Test.YteepobghdpnabaaGreatKWorkerTicksr
import Derived.Test.YteepobghdpnabaaGreatKWorkerTickss
import Derived.Test.YteepobghdpnabaaGreatKWorkerTickst
import Derived.Test.YteepobghdpnabaaGreatKWorkerTicksu
import Derived.Test.YteepobghdpnabaaGreatKWorkerTicksv
import Derived.Test.YteepobghdpnabaaGreatKWorkerTicksw
import Derived.Test.YteepobghdpnabaaGreatKWorkerTicksx
import Derived.Test.YteepobghdpnabaaGreatKWorkerTicksy
import Derived.Test.YteepobghdpnabaaGreatKWorkerTicksz
import Derived.Test.YteepobghdpnabaaGreatKWorkerTicksaa
import Derived.Test.YteepobghdpnabaaGreatKWorkerTicksab
import Derived.Test.YteepobghdpnabaaGreatKWorkerTicksac
import Derived.Test.YteepobghdpnabaaGreatKWorkerTicksad
import Derived.Test.YteepobghdpnabaaGreatKWorkerTicksae
import Derived.Test.YteepobghdpnabaaGreatKWorkerTicksaf
import Derived.Test.YteepobghdpnabaaGreatKWorkerTicksag
import Derived.Test.YteepobghdpnabaaGreatKWorkerTicksah
import Derived.Test.YteepobghdpnabaaGreatKWorkerTicksai
import Derived.Test.YteepobghdpnabaaGreatKWorkerTicksaj
import Derived.Test.YteepobghdpnabaaGreatKWorkerTicksak
import Derived.Test.YteepobghdpnabaaGreatKWorkerTicksal
import Derived.Test.YteepobghdpnabaaGreatKWorkerTicksam
import Derived.Test.YteepobghdpnabaaGreatKWorkerTicksan
import Derived.Test.YteepobghdpnabaaGreatKWorkerTicksao
import Derived.Test.YteepobghdpnabaaGreatKWorkerTicksap
import Derived.Test.YteepobghdpnabaaGreatKWorkerTicksaq
import Derived.Test.YteepobghdpnabaaGreatKWorkerTicksar
import Derived.Test.YteepobghdpnabaaGreatHWorkerSealsc
import Derived.Test.YteepobghdpnabaaGreatHWorkerSealsb
import Derived.Test.YteepobghdpnabaaGreatHWorkerSealsa
namespace Go.Proofs.YteepobghdpnabaaGreat
open Go.RowKit

theorem own_shape {w : World} {B e s n : Nat} {o : Ad} {xs : List Value} (h : w.ownsRow B e s o.v n xs) : (o.A = none ∨ ∃ g', o.A = some ⟨g', 0, none⟩) ∧ (o.A = none → o.c = 0) := by
 rcases h.2 with ⟨hv, _⟩ | ⟨g', cap', cur', hv, _⟩
 ·simp only [Ad.v, Value.slice.injEq] at hv
  exact ⟨.inl hv.1, fun _ => hv.2.2⟩
 ·simp only [Ad.v, Value.slice.injEq] at hv
  exact ⟨.inr ⟨g', hv.1⟩, fun hq => by rw [hv.1] at hq; cases hq⟩
set_option maxRecDepth 100000 in
set_option maxHeartbeats 16000000 in
theorem rseal_yes (P : WkD) (a : WkA) (d : Int) (w : World) (h : WIn w P a) (hf : WFew P 300000) (hm : mayW P = true) (he : sealE P d = 0) : Calls Tryz.prog 51 #[wkV P a, .int .i64 d] w (StTo2 (sealW P d) (sealO P d) (sealE P d) w) := by
  obtain ⟨g, hg⟩ : ∃ g, g = w.heap.size := ⟨_, rfl⟩
  obtain ⟨wa0, hwa0⟩ : ∃ wa0, wa0 = w.alloc (.cells #[.int .i64 P.i, .int .i64 P.N, .int .i64 P.x, .slice a.O.A a.O.n a.O.c, .int .i64 P.g, .int .i64 P.c, .slice a.W.A a.W.n a.W.c, .slice a.H.A a.H.n a.H.c, .slice a.R.A a.R.n a.R.c] 27) := ⟨_, rfl⟩
  have hs0 : wa0.heap.size = g + 1 := by rw [hwa0]; simp; omega
  have bn0 : Box wa0 (g) (wkC P a) := by rw [hwa0, hg]; exact box_new w (wkC P a) 27
  have hb0 : Below g w wa0 := by rw [hwa0]; exact (Below.refl _ _).alloc (by omega) _
  have HX0 : Hid (Box wa0 (g) (wkC P a)) := bn0
  obtain ⟨w0, hw0⟩ : ∃ w0, w0 = wa0 := ⟨_, rfl⟩
  rw [← hw0] at HX0
  have hsz0 : w0.heap.size = g + 1 := by rw [hw0]; exact hs0
  have hb0w : Below g w w0 := by rw [hw0]; exact hb0
  have HW0 : Hid (w.alloc (.cells #[.int .i64 P.i, .int .i64 P.N, .int .i64 P.x, .slice a.O.A a.O.n a.O.c, .int .i64 P.g, .int .i64 P.c, .slice a.W.A a.W.n a.W.c, .slice a.H.A a.H.n a.H.c, .slice a.R.A a.R.n a.R.c] 27) = w0) := by show w.alloc (.cells #[.int .i64 P.i, .int .i64 P.N, .int .i64 P.x, .slice a.O.A a.O.n a.O.c, .int .i64 P.g, .int .i64 P.c, .slice a.W.A a.W.n a.W.c, .slice a.H.A a.H.n a.H.c, .slice a.R.A a.R.n a.R.c] 27) = w0; rw [hw0, hwa0]
  have HG : Hid (w.heap.size = g) := hg.symm
  have HS0 := Lib.hid hsz0
  have HB0 := Lib.hid hb0w
  have hl0 : g < w0.heap.size := by omega
  have hgw : g ≤ w0.heap.size := by omega
  have hin0 := h.below' HB0.out HG.out
  have HIN : Hid (∀ wX, Below w0.heap.size w0 wX → WIn wX P a) := by show ∀ wX, _; exact fun wX hX => hin0.below hX
  have HF := Lib.hid hf
  have hmw := mayW_iff.1 hm
  have HMW := Lib.hid hmw
  have hmk : makeE P = 0 := by
    rcases Int.lt_trichotomy (makeE P) 0 with h1 | h1 | h1
    all_goals first | exact h1 | (rw [sealE, if_pos (by omega)] at he; omega)
  have hse := he
  rw [sealE, if_neg (by rw [hmk]; decide)] at hse
  have hdb : digB d = true := by
    cases hq : digB d with
    | true => rfl
    | false => rw [hq] at hse; simp at hse
  rw [hdb, if_pos rfl] at hse
  have hdn : d ∉ P.hs := fun hq => by rw [if_pos hq] at hse; omega
  have HDB : Hid (decide (1 ≤ d ∧ d ≤ 65536) = true) := hdb
  have HIX : Hid (idxI P.hs d = -1) := idxI_no hdn
  obtain ⟨q1, q2, q3, q4⟩ := seal_few (d := d) hmw hf hdb
  have HFS := Lib.hid q4
  have HQI : Hid ((sealM P d).i = P.i) := q1
  have HQN : Hid ((sealM P d).N = P.N) := q2
  have HQR := Lib.hid (seal_rise (d := d) hmw)
  have hx0 := hmw.next
  have hmx : P.x < 1099511627776 := by
    have hdue : dueW P = true := by
      cases hq : dueW P with
      | true => rfl
      | false => rw [makeE, hq] at hmk; simp at hmk
    rw [dueW, decide_eq_true_eq] at hdue
    exact hdue.2
  have hN16 : 0 ≤ P.N ∧ P.N ≤ 16 := by have := may_yes hmw.may; omega
  have hmay : may P.N = true := hmw.may
  have HMY := Lib.hid hmay
  rw [he]
  clear hg hsz0 hb0w hw0 hwa0 hs0 bn0 hb0
  clear hin0 h hf hmw hm he hse hdb hdn q1 q2 q3 q4 hmay
  unfold wkV Ad.v
  go_enter Tryz.func51, Tryz.ntmps51
  go_upto_region 1 with fail
  rw [HG.out, HW0.out]
  go_upto_region 2 with (first
    | (refine wpList_load_box rfl 27 _ rfl g rfl (wkC P a) (HX0.out) _ Tryz.underlying27 rfl size_wk ?_)
    | (go_at_call 15; refine (rcopyWk_any P a w0 (HIN.out _ (Below.refl _ _)) (HF.out.more (by decide))).mono ?_; rintro e w4 ⟨a4, rfl, hn4, hb4⟩; dsimp only [wkV, Ad.v]))
  obtain ⟨w5, hw5⟩ : ∃ w5, w5 = w4.alloc (.cells #[.int .i64 P.i, .int .i64 P.N, .int .i64 P.x, .slice a4.O.A a4.O.n a4.O.c, .int .i64 P.g, .int .i64 P.c, .slice a4.W.A a4.W.n a4.W.c, .slice a4.H.A a4.H.n a4.H.c, .slice a4.R.A a4.R.n a4.R.c, .slice none 0 0] 75) := ⟨_, rfl⟩
  obtain ⟨s, hs⟩ : ∃ s, s = w4.heap.size := ⟨_, rfl⟩
  rw [← hw5, ← hs]
  have hst : StAt s w0.heap.size w5 P a4 [] noAd [] := by rw [hw5, hs]; exact st_new hn4 hb4.size
  have hb5 : Below w0.heap.size w0 w5 := by rw [hw5]; exact hb4.alloc hb4.size _
  have HST := Lib.hid hst
  have HAO : Hid ((a4.O.A = none ∨ ∃ g', a4.O.A = some ⟨g', 0, none⟩) ∧ (a4.O.A = none → a4.O.c = 0)) := own_shape hn4.open_
  have HB5 := Lib.hid hb5
  have hs0 : w0.heap.size ≤ s := by rw [hs]; exact hb4.size
  have hs5 : s < w5.heap.size := hst.box.1
  have hbz := box_new w5 zeroBC 42
  have HBZ := Lib.hid hbz
  have HMK := Lib.hid (rmake_any P a w5 (HIN.out _ hb5) (HF.out.more (by decide)))
  clear hw5 hs hst hb5 hn4 hb4 hbz
  go_upto_region 5 with (first
    | (refine wpList_load_box rfl 27 _ rfl g rfl (wkC P a) (HX0.out.below HB5.out hl0) _ Tryz.underlying27 rfl size_wk ?_)
    | (go_at_call 46; rw [hmk] at HMK; refine HMK.out.mono ?_; intro e w6 hR; obtain ⟨A1, n1, c1, rfl, ho1, hn1, hb6⟩ := retB_yes hR))
  obtain ⟨w7, hw7⟩ : ∃ w7, w7 = w6.alloc (.cells #[.int .i64 P.i, .int .i64 P.x, .slice A1 n1 c1] 42) := ⟨_, rfl⟩
  obtain ⟨bb, hbb⟩ : ∃ bb, bb = w6.heap.size := ⟨_, rfl⟩
  have bx7 : Box w7 bb [.int .i64 P.i, .int .i64 P.x, .slice A1 n1 c1] := by rw [hw7, hbb]; exact box_new w6 [.int .i64 P.i, .int .i64 P.x, .slice A1 n1 c1] 42
  have hb67 : Below w6.heap.size w6 w7 := by rw [hw7]; exact (Below.refl _ _).alloc (Nat.le_refl _) _
  rw [← hw7, ← hbb]
  have hb57 : Below w5.heap.size w5 w7 := hb6.trans (hb67.mono hb6.size)
  have hb07 : Below w0.heap.size w0 w7 := HB5.out.trans (hb57.mono HB5.out.size)
  have hbbl : bb < w7.heap.size := bx7.1
  have hsbb : s < bb := by have := hb6.size; omega
  clear hw7
  have HB07 := Lib.hid hb07
  have HB57 : Hid (w5.heap.size ≤ w7.heap.size) := hb57.size
  have HS7 := Lib.hid (HST.out.below hb57)
  have HFI := Lib.hid (sfind_is s w0.heap.size P a4 [] noAd [] d w7 HS7.out (by have := HF.out.h; omega))
  rw [HIX.out] at HFI
  have HBX := Lib.hid bx7
  have HO1 : Hid (w7.ownsRow w5.heap.size 40 4 (.slice A1 n1 c1) n1 (txs (makeL P))) := ownS_below ho1 hb67
  have HN1 : Hid ((makeL P).length = n1) := hn1
  have hn8 : n1 ≤ 8 := by have := makeL_len (P := P); omega
  clear hb67 hb57 hb07 bx7 ho1 hn1 hb6 hmk hbb
  go_upto_region 9 with (first
    | (go_at_call 36; refine (rdigest_is true d HDB.out _).mono ?_; rintro e w' ⟨rfl, rfl⟩)
    | (go_at_call 84; refine HFI.out.mono ?_; rintro e w' ⟨rfl, rfl⟩))
  obtain ⟨AO, nO, cO, hoO⟩ : ∃ A n c, a4.O = ⟨A, n, c⟩ := ⟨_, _, _, rfl⟩
  have HOO := Lib.hid hoO
  have hSO := HS7.out.pg.open_
  rw [hoO] at hSO
  have HSO := Lib.hid hSO
  have HRO : Hid (AO = none ∨ ∃ g', AO = some ⟨g', 0, none⟩) := by
    have h1 := HAO.out
    rw [hoO] at h1
    exact h1.1
  have HNC : Hid (AO = none → cO = 0) := by
    have h1 := HAO.out
    rw [hoO] at h1
    exact h1.2
  have hn1O : n1 ≤ nO := by have h1 := HN1.out; have h2 : P.O.length = nO := HSO.out.len; unfold makeL at h1; rw [List.length_take] at h1; omega
  have hcO : nO ≤ cO := HSO.out.cap
  have HDR : Hid (P.O.drop n1 = P.O.drop 8) := by
    show _ = _
    have h1 := HN1.out
    unfold makeL at h1
    rw [List.length_take] at h1
    rcases Nat.lt_or_ge P.O.length 8 with h2 | h2
    · rw [List.drop_of_length_le (by omega), List.drop_of_length_le (by omega)]
    · rw [show n1 = 8 by omega]
  have k3 : w7.cell? ⟨s, 3, none⟩ = some (.slice AO nO cO) := by have := HS7.out.cells.2.2.2.1; rw [hoO] at this; exact this
  have b2 : w7.cell? ⟨bb, 2, none⟩ = some (.slice A1 n1 c1) := (HBX.out.2 2 _ rfl).1
  have hsl7 : s < w7.heap.size := HS7.out.box.1
  clear hoO hSO
  go_cut [] from 34 to 46 (fun wx => Hid (StAt s w0.heap.size wx { P with O := P.O.drop 8 } { a4 with O := ⟨restA AO cO n1 4, nO - n1, cO - n1⟩ } [] noAd []) ∧ Hid (Touch (fun k => k = s) w7 wx))
  case first =>
    have i1 : (0 : Int) ≤ (n1 : Int) := by omega
    have i2 : (n1 : Int) ≤ (nO : Int) := by omega
    have i3 : (n1 : Int) ≤ (cO : Int) := by omega
    have HEND : Hid (∀ wx, Box wx s (wkC { P with O := P.O.drop 8 } { a4 with O := ⟨restA AO cO n1 4, nO - n1, cO - n1⟩ } ++ [noAd.v]) → Touch (fun k => k = s) w7 wx → StAt s w0.heap.size wx { P with O := P.O.drop 8 } { a4 with O := ⟨restA AO cO n1 4, nO - n1, cO - n1⟩ } [] noAd []) := by
      show ∀ wx, _
      intro wx hbx ht
      refine HS7.out.setO hbx ht ?_ (fun k hk => by rw [HOO.out]; exact restA_at hk)
      have := slIn_rest HSO.out hn1O
      rw [HDR.out] at this
      exact this
    have hbox7 := HS7.out.box
    have HB7 := Lib.hid (hbox7.below (Below.refl w7.heap.size w7).drew hbox7.1)
    have HTD : Hid (Touch (fun k => k = s) w7 w7.drew) := Touch.of (Below.refl _ _).drew
    have k3d : w7.drew.cell? ⟨s, 3, none⟩ = some (.slice AO nO cO) := k3
    by_cases hc : cO = n1
    · obtain rfl : nO = n1 := by omega
      have hc' : nO = cO := hc.symm
      subst hc'
      have e1 : restA AO nO nO 4 = AO := by rw [restA, if_pos rfl]
      have HEQ : Hid (∀ wx, Box wx s (wkC { P with O := P.O.drop 8 } { a4 with O := ⟨AO, 0, 0⟩ } ++ [noAd.v]) → Box wx s (wkC { P with O := P.O.drop 8 } { a4 with O := ⟨restA AO nO nO 4, nO - nO, nO - nO⟩ } ++ [noAd.v])) := by
        show ∀ wx, _
        intro wx hb
        rw [e1, Nat.sub_self]
        exact hb
      clear e1
      cases AO with
      | none =>
        go_still_tail 13, (by kernel_rfl)
        change wpList _ _ _ _ _ w7.drew
        go_wp2_with (first
          | (refine wpList_store_cell rfl 22 _ _ rfl s 3 (.slice none 0 0) (wkC P a4 ++ [noAd.v]) rfl rfl rfl rfl HB7.out (show 3 < 10 by decide) size_sTx ?_; intro w8 bx8 T8))
        go_meet
        exact ⟨HEND.out w8 (HEQ.out w8 bx8) (HTD.out.on (T8 (fun k => k = s) rfl)), HTD.out.on (T8 (fun k => k = s) rfl)⟩
      | some ad =>
        go_still_tail 13, (by kernel_rfl)
        change wpList _ _ _ _ _ w7.drew
        go_wp2_with (first
          | (refine wpList_store_cell rfl 22 _ _ rfl s 3 (.slice (some ad) 0 0) (wkC P a4 ++ [noAd.v]) rfl rfl rfl rfl HB7.out (show 3 < 10 by decide) size_sTx ?_; intro w8 bx8 T8))
        go_meet
        exact ⟨HEND.out w8 (HEQ.out w8 bx8) (HTD.out.on (T8 (fun k => k = s) rfl)), HTD.out.on (T8 (fun k => k = s) rfl)⟩
    · have e1 : restA AO cO n1 4 = AO.map fun y => ⟨y.block, y.off + n1 * 4, none⟩ := by rw [restA, if_neg hc]
      have HEQ : Hid (∀ wx, Box wx s (wkC { P with O := P.O.drop 8 } { a4 with O := ⟨AO.map fun y => ⟨y.block, y.off + n1 * 4, none⟩, nO - n1, cO - n1⟩ } ++ [noAd.v]) → Box wx s (wkC { P with O := P.O.drop 8 } { a4 with O := ⟨restA AO cO n1 4, nO - n1, cO - n1⟩ } ++ [noAd.v])) := by
        show ∀ wx, _
        intro wx hb
        rw [e1]
        exact hb
      clear e1
      have hex : ∃ bA oA, AO = some ⟨bA, oA, none⟩ := by
        have hpos : 0 < cO := by omega
        have hv := HRO.out
        rcases hv with rfl | ⟨g', rfl⟩
        · exact absurd (HNC.out rfl) (by omega)
        · exact ⟨g', 0, rfl⟩
      obtain ⟨bA, oA, rfl⟩ := hex
      go_still_tail 13, (by kernel_rfl)
      change wpList _ _ _ _ _ w7.drew
      go_wp2_with (first
        | (refine wpList_store_cell rfl 22 _ _ rfl s 3 (.slice (some ⟨bA, oA + n1 * 4, none⟩) (nO - n1) (cO - n1)) (wkC P a4 ++ [noAd.v]) rfl rfl rfl rfl HB7.out (show 3 < 10 by decide) size_sTx ?_; intro w8 bx8 T8))
      go_meet
      exact ⟨HEND.out w8 (HEQ.out w8 bx8) (HTD.out.on (T8 (fun k => k = s) rfl)), HTD.out.on (T8 (fun k => k = s) rfl)⟩
  case rest =>
  obtain ⟨HS8, HT8⟩ := hcut
  have hP1 : ∃ P1 : WkD, P1 = { P with O := P.O.drop 8, x := P.x + 1, g := 0 } := ⟨_, rfl⟩
  obtain ⟨P1, hP1⟩ := hP1
  have HP1 := Lib.hid hP1
  obtain ⟨aO, haO⟩ : ∃ aO : WkA, aO = { a4 with O := ⟨restA AO cO n1 4, nO - n1, cO - n1⟩ } := ⟨_, rfl⟩
  rw [← haO] at HS8
  have HBXC : Hid (Box wc bb [.int .i64 P.i, .int .i64 P.x, .slice A1 n1 c1]) := HBX.out.touch HT8.out (by omega)
  have k2 : wc.cell? ⟨s, 2, none⟩ = some (.int .i64 P.x) := HS8.out.cells.2.2.1
  have k4 : wc.cell? ⟨s, 4, none⟩ = some (.int .i64 P.g) := HS8.out.cells.2.2.2.2.1
  have hsc : s < wc.heap.size := HS8.out.box.1
  have HX1 : Hid (P.x + 1 = P1.x) := by show _ = _; rw [hP1]
  have hxw : IntKind.i64.wrap (P.x + 1) = P.x + 1 := IntWalk.i64_in _ (by omega)
  clear hP1 haO k3 b2
  go_upto_region 12 with (first
    | (refine wpList_store_cell rfl 3 _ _ rfl s 2 (.int .i64 (P.x + 1)) _ rfl rfl rfl rfl HS8.out.box (show 2 < 10 by decide) size_int ?_; intro w9 bx9 T9)
    | (refine wpList_store_cell rfl 3 _ _ rfl s 4 (.int .i64 0) _ rfl rfl rfl rfl bx9 (show 4 < 10 by decide) size_int ?_; intro w10 bx10 T10))
  have tz : Touch (fun k => k = s) wc w10 := (T9 (fun k => k = s) rfl).on (T10 (fun k => k = s) rfl)
  have hst10 : StAt s w0.heap.size w10 P1 aO [] noAd [] := by
    rw [HP1.out]
    exact HS8.out.nums (x := P.x + 1) (g1 := 0) (c := P.c) bx10 tz
  have HS10 := Lib.hid hst10
  have HT10 : Hid (Touch (fun k => k = s) w7 w10) := HT8.out.on tz
  have HBX10 : Hid (Box w10 bb [.int .i64 P.i, .int .i64 P.x, .slice A1 n1 c1]) := HBXC.out.touch tz (by omega)
  have e0 := (HBX10.out.2 0 _ rfl).1
  have e1 := (HBX10.out.2 1 _ rfl).1
  have e2 := (HBX10.out.2 2 _ rfl).1
  have hbb10 : bb < w10.heap.size := HBX10.out.1
  have hA1 : ∀ k, (Value.slice A1 n1 c1).ownBlock = some k → w5.heap.size ≤ k := fun k hk => (own_lt HO1.out hk).2
  have HA1 := Lib.hid hA1
  have ho10 : w10.ownsRow w5.heap.size 40 4 (.slice A1 n1 c1) n1 (txs (makeL P)) := own_kept HO1.out fun k hk hl => HT10.out.block k hl (by have := hA1 k hk; omega)
  have HO10 := Lib.hid ho10
  have hsl10 : SlIn w10 ⟨A1, n1, c1⟩ (makeL P).length (txs (makeL P)) := slIn_own ho10 HN1.out
  have hrise1 : RiseI P1.hs := by rw [HP1.out]; exact HMW.out.hrise
  have hH1 : P1.H = P.H := by rw [HP1.out]
  have HHO := Lib.hid (holds_any s w0.heap.size P1 aO [] noAd [] d P.i P.x ⟨A1, n1, c1⟩ (makeL P) w10 hst10 hrise1 hsl10 (by have := HN1.out; omega) (by rw [hH1]; have := HF.out.h; omega) (fun x hx => by rw [hH1] at hx; have := HF.out.l x hx; omega))
  obtain ⟨P2, hP2⟩ : ∃ P2, P2 = holdW P1 d P.i P.x (makeL P) := ⟨_, rfl⟩
  rw [← hP2] at HHO
  have HP2 := Lib.hid hP2
  have hsame := holdW_same (P := P1) (d := d) (a := P.i) (n := P.x) (L := makeL P)
  rw [← hP2] at hsame
  have HW2 : Hid (P2.W = P.W) := by show _ = _; rw [hsame.2.2.1, HP1.out]
  have HI2 : Hid (P2.i = P.i) := by show _ = _; rw [hsame.1, HP1.out]
  have HSM : Hid (sealM P d = waitW P2 d) := by show _ = _; rw [hP2, HP1.out]; rfl
  clear hP2 hsame hH1 hrise1 hsl10 ho10 hA1 bx9 bx10 T9 T10 tz hst10 k2 k4
  go_upto_region 13 with (first
    | (go_at_call 85; refine HHO.out.mono ?_; rintro e w11 ⟨a11, rfl, hst11, ht11⟩))
  have HS11 := Lib.hid hst11
  have HT11 : Hid (Touch (fun k => k = s) w10 w11) := ht11
  have HBX11 : Hid (Box w11 bb [.int .i64 P.i, .int .i64 P.x, .slice A1 n1 c1]) := HBX10.out.touch ht11 (by omega)
  have HO11 : Hid (w11.ownsRow w5.heap.size 40 4 (.slice A1 n1 c1) n1 (txs (makeL P))) := own_kept HO10.out fun k hk hl => ht11.block k hl (by have := HA1.out k hk; omega)
  have HB11 : Hid (Below w0.heap.size w0 w11) := HB07.out.trans ((HT10.out.on ht11).below (fun k hk => by have e : k = s := hk; omega) HB07.out.size)
  have hsz11 : w5.heap.size ≤ w11.heap.size := by have h1 := HT10.out.size; have h2 := ht11.size; have h3 := HB57.out; omega
  clear hst11 ht11 e0 e1 e2 HO10 HBX10
  obtain ⟨AW, nW, cW, hoW⟩ : ∃ A n c, a11.W = ⟨A, n, c⟩ := ⟨_, _, _, rfl⟩
  have HOW := Lib.hid hoW
  have HEW := Lib.hid HS11.out.pg.core.eW
  have HLW : Hid (a11.ms.length = nW) := by have := HS11.out.pg.core.waits.len; rw [hoW] at this; exact this
  have hlenW : P2.W.length = nW := by rw [← len_fst HEW.out]; exact HLW.out
  have HLN := Lib.hid hlenW
  have hnW : nW ≤ 300000 := by rw [← hlenW, HW2.out]; exact HF.out.w
  obtain ⟨p, hp⟩ : ∃ p, p = posI P2.ds d := ⟨_, rfl⟩
  have hpn : p ≤ nW := by
    have := posI_le P2.ds d
    rw [WkD.ds, List.length_map, hlenW] at this
    rw [hp]
    exact this
  have HPO := Lib.hid hp
  have k6 : w11.cell? ⟨s, 6, none⟩ = some (.slice AW nW cW) := by have := HS11.out.cells.2.2.2.2.2.2.1; rw [hoW] at this; exact this
  have hs11 : s < w11.heap.size := HS11.out.box.1
  have hrise2 : RiseI P2.ds := by rw [WkD.ds, HW2.out]; exact HMW.out.drise
  have HR2 := Lib.hid hrise2
  clear hoW hlenW hp hrise2
  go_wp2_with fail
  go_loop [9] (fun i => ∃ k : Nat, i = .int .i64 k ∧ k ≤ p) (fun i => nW - (intOf i).toNat)
  case atStart => exact ⟨0, rfl, Nat.zero_le _⟩
  case round =>
    obtain ⟨k, rfl, hk⟩ := hrel
    have i0 : (0 : Int) ≤ (k : Int) := by omega
    go_upto_region 14 with fail
    go_cut [84] from 64 to 83 (fun bv wx => bv = .bool (decide (k < p)) ∧ w11 = wx)
    case first =>
      by_cases hlt : k < nW
      · have i1 : (k : Int) < (nW : Int) := by omega
        obtain ⟨x, hx⟩ : ∃ x, a11.ms[k]? = some x := ⟨a11.ms[k]'(by rw [HLW.out]; exact hlt), by simp⟩
        obtain ⟨gr, cr, hA, hcr, hBg, hgrl, hkn, hcell, hfz⟩ := HS11.out.pg.core.waits.cells hx
        rw [HOW.out] at hA hcr
        simp only at hA hcr
        subst hA
        have c0 : w11.cell? ⟨gr, k * 2, none⟩ = some (.int .i64 x.1.d) := hcell 0 _ rfl
        have hm : P2.ds[k]? = some x.1.d := by rw [WkD.ds, ← HEW.out, List.map_map, List.getElem?_map, hx]; rfl
        have HD : Hid (decide (x.1.d < d) = decide (k < p)) := by
          rw [decide_eq_decide, HPO.out]
          constructor
          · intro h
            rcases Nat.lt_or_ge k (posI P2.ds d) with h1 | h1
            · exact h1
            · have e : k = posI P2.ds d := by have := HPO.out; omega
              rw [e] at hm
              have := posI_at hm
              omega
          · exact fun h => posI_below h hm
        clear hm hx hcell hfz hcr
        obtain ⟨bl, hbl⟩ : ∃ bl, bl = decide (k < p) := ⟨_, rfl⟩
        have hdd : decide (x.1.d < d) = bl := HD.out.trans hbl.symm
        have HBL := Lib.hid hbl
        clear hbl
        cases bl with
        | true =>
          have l1 : x.1.d < d := of_decide_eq_true hdd
          clear hdd
          go_wp2_with fail
          go_meet
          exact ⟨by rw [← HBL.out], rfl⟩
        | false =>
          have l1 : ¬ (x.1.d < d) := of_decide_eq_false hdd
          clear hdd
          go_wp2_with fail
          go_meet
          exact ⟨by rw [← HBL.out], rfl⟩
      · have i1 : ¬ ((k : Int) < (nW : Int)) := by omega
        have HBL : Hid (decide (k < p) = false) := decide_eq_false (by omega)
        go_wp2_with fail
        go_meet
        exact ⟨by rw [HBL.out], rfl⟩
    case rest =>
    obtain ⟨rfl, rfl⟩ := hcut
    by_cases hkp : k < p
    · rw [decide_eq_true hkp]
      go_wp2_with fail
      go_round
      case rel => exact ⟨k + 1, by go_num, by omega⟩
      case measure => simp [intOf]; omega
    · obtain rfl : k = p := by omega
      rw [decide_eq_false hkp]
      clear hkp hk
      go_upto_region 16 with fail
      go_cut [107] from 87 to 106 (fun bv wx => bv = .bool (decide (d ∉ P2.ds)) ∧ w11 = wx)
      case first =>
        by_cases hlt : k < nW
        · have i1 : ¬ ((k : Int) = (nW : Int)) := by omega
          have i1b : ((k : Int) == (nW : Int)) = false := by simp only [beq_eq_false_iff_ne, ne_eq]; omega
          have i2 : (k : Int) < (nW : Int) := by omega
          obtain ⟨x, hx⟩ : ∃ x, a11.ms[k]? = some x := ⟨a11.ms[k]'(by rw [HLW.out]; exact hlt), by simp⟩
          obtain ⟨gr, cr, hA, hcr, hBg, hgrl, hkn, hcell, hfz⟩ := HS11.out.pg.core.waits.cells hx
          rw [HOW.out] at hA hcr
          simp only at hA hcr
          subst hA
          have c0 : w11.cell? ⟨gr, k * 2, none⟩ = some (.int .i64 x.1.d) := hcell 0 _ rfl
          have hm : P2.ds[k]? = some x.1.d := by rw [WkD.ds, ← HEW.out, List.map_map, List.getElem?_map, hx]; rfl
          have HD : Hid (decide (x.1.d ≠ d) = decide (d ∉ P2.ds)) := by
            rw [decide_eq_decide, mem_posI HR2.out, ← HPO.out, hm]
            exact ⟨fun h1 h2 => h1 (Option.some.inj h2), fun h1 h2 => h1 (by rw [h2])⟩
          clear hm hx hcell hfz hcr
          obtain ⟨bl, hbl⟩ : ∃ bl, bl = decide (d ∉ P2.ds) := ⟨_, rfl⟩
          have hdd : decide (x.1.d ≠ d) = bl := HD.out.trans hbl.symm
          have HBL := Lib.hid hbl
          clear hbl
          cases bl with
          | true =>
            have l1 : ¬ (x.1.d = d) := of_decide_eq_true hdd
            have l2 : (x.1.d == d) = false := by simp [l1]
            have l3 : (x.1.d != d) = true := by simp [l1]
            clear hdd
            go_wp2_with fail
            go_meet
            exact ⟨by rw [← HBL.out], rfl⟩
          | false =>
            have l1 : x.1.d = d := Decidable.of_not_not (of_decide_eq_false hdd)
            have l2 : (x.1.d == d) = true := by simp [l1]
            have l3 : (x.1.d != d) = false := by simp [l1]
            clear hdd
            go_wp2_with fail
            go_meet
            exact ⟨by rw [← HBL.out], rfl⟩
        · obtain rfl : k = nW := by omega
          have HBL : Hid (decide (d ∉ P2.ds) = true) := by
            show _ = _
            rw [decide_eq_true_eq, mem_posI HR2.out, ← HPO.out, List.getElem?_eq_none (by rw [WkD.ds, List.length_map, HLN.out]; exact Nat.le_refl _)]
            exact fun h => by cases h
          have i1b : ((k : Int) == (k : Int)) = true := by simp
          go_wp2_with fail
          go_meet
          exact ⟨by rw [HBL.out], rfl⟩
      case rest =>
      obtain ⟨rfl, rfl⟩ := hcut
      obtain ⟨bq, hbq⟩ : ∃ bq, bq = decide (d ∉ P2.ds) := ⟨_, rfl⟩
      rw [← hbq]
      have HBQ := Lib.hid hbq
      clear hbq
      go_upto_if 107 with fail
      go_cut [] from 108 to 135 (fun wx => ∃ a12, Hid (StAt s w0.heap.size wx (sealM P d) a12 [] noAd []) ∧ Hid (Touch (fun k => k = s) w11 wx))
      case first =>
        cases bq with
        | false =>
          have hdin : d ∈ P2.ds := Decidable.of_not_not (of_decide_eq_false HBQ.out.symm)
          have HSE : Hid (sealM P d = P2) := by show _ = _; rw [HSM.out, waitW, if_pos hdin]
          clear hdin
          go_wp2_with fail
          go_meet
          exact ⟨a11, by rw [HSE.out]; exact HS11.out, Touch.refl _ _⟩
        | true =>
          have hdin : d ∉ P2.ds := of_decide_eq_true HBQ.out.symm
          have HSE : Hid (sealM P d = { P2 with W := insAt P2.W k ⟨d, [P.i]⟩ }) := by show _ = _; rw [HSM.out, waitW, if_neg hdin, HPO.out, HI2.out]
          clear hdin
          have iP : (k : Int) ≤ (nW : Int) := by omega
          have hcapW : nW ≤ cW := by have := HS11.out.pg.core.waits.in_.row.cap; rw [HOW.out] at this; exact this
          have iC : (k : Int) ≤ (cW : Int) := by omega
          go_upto_region 17 with fail
          have hin := HS11.out.pg.core.waits.in_
          rw [HOW.out] at hin
          have HCUT := Lib.hid (sltake hin hpn)
          have hcs : ∀ x ∈ a11.ms.take k, KW.len x.1 ≤ 1000000 := fun x hx => by
            have h1 := mem_fst HEW.out (List.mem_of_mem_take hx)
            rw [HW2.out] at h1
            have := HF.out.s x.1 h1
            have e : KW.len x.1 = x.1.S.length := rfl
            omega
          have HCS := Lib.hid hcs
          have HCL : Hid ((a11.ms.take k).length ≤ 1000000) := by show _ ≤ _; rw [List.length_take, HLW.out]; omega
          have hSS : Below w11.heap.size w11 w11.drew := (Below.refl _ _).drew
          have k6d : w11.drew.cell? ⟨s, 6, none⟩ = some (.slice AW nW cW) := k6
          have HC0 : Hid (∀ wX, Below w11.heap.size w11 wX → wX.cell? ⟨g, 0, none⟩ = some (.int .i64 P.i)) := by
            show ∀ wX, _
            intro wX hX
            exact ((HX0.out.below (HB11.out.trans (hX.mono HB11.out.size)) hl0).2 0 _ rfl).1
          clear hin hcs k6
          refine wp_region_held_drew (S := fun w' => Below w11.heap.size w11 w') (by kernel_rfl) hSS (fun _ => ?_)
          refine ytake_0 (v := ?vv1) (by kernel_rfl) (by kernel_rfl) (by kernel_rfl) (fun _ _ _ h => h) (Or.inl ⟨by rfl, ?hy1⟩) hSS ?_
          case hy1 =>
            intro wX hSw
            go_simp
            try with_reducible rfl
          try simp only [Act.put, List.setIfInBounds_toArray, List.set_cons_zero, List.set_cons_succ]
          refine ytake_1 (v := ?vv2) (by kernel_rfl) (by kernel_rfl) (by kernel_rfl) (fun _ _ _ h => h) (Or.inl ⟨by rfl, ?hy2⟩) hSS ?_
          case hy2 =>
            intro wX hSw
            go_simp
            try with_reducible rfl
          try simp only [Act.put, List.setIfInBounds_toArray, List.set_cons_zero, List.set_cons_succ]
          refine ytake_2 (v := ?vv3) (by kernel_rfl) (by kernel_rfl) (by kernel_rfl) (fun _ _ _ h => h) (Or.inl ⟨by rfl, ?hy3⟩) hSS ?_
          case hy3 =>
            intro wX hSw
            go_simp
            try with_reducible rfl
          try simp only [Act.put, List.setIfInBounds_toArray, List.set_cons_zero, List.set_cons_succ]
          refine ytake_3 (v := ?vv4) (by kernel_rfl) (by kernel_rfl) (by kernel_rfl) (fun _ _ _ h => h) (Or.inl ⟨by rfl, ?hy4⟩) hSS ?_
          case hy4 =>
            intro wX hSw
            go_simp
            try with_reducible rfl
          try simp only [Act.put, List.setIfInBounds_toArray, List.set_cons_zero, List.set_cons_succ]
          refine ytake_4 (v := ?vv5) (by kernel_rfl) (by kernel_rfl) (by kernel_rfl) (fun _ _ _ h => h) (Or.inl ⟨by rfl, ?hy5⟩) hSS ?_
          case hy5 =>
            intro wX hSw
            have c6 := (hSw.cell (p := ⟨s, 6, none⟩) hs11).trans k6d
            go_simp
            try with_reducible rfl
          try simp only [Act.put, List.setIfInBounds_toArray, List.set_cons_zero, List.set_cons_succ]
          refine ytake_5 (v := ?vv6) (by kernel_rfl) (by kernel_rfl) (by kernel_rfl) (fun _ _ _ h => h) (Or.inl ⟨by rfl, ?hy6⟩) hSS ?_
          case hy6 =>
            intro wX hSw
            go_simp
            try with_reducible rfl
          try simp only [Act.put, List.setIfInBounds_toArray, List.set_cons_zero, List.set_cons_succ]
          refine ytake_6 (v := ?vv7) (by kernel_rfl) (by kernel_rfl) (by kernel_rfl) (fun _ _ _ h => h) (Or.inl ⟨by rfl, ?hy7⟩) hSS ?_
          case hy7 =>
            intro wX hSw
            go_simp
            try with_reducible rfl
          try simp only [Act.put, List.setIfInBounds_toArray, List.set_cons_zero, List.set_cons_succ]
          refine ytake_8 (v := ?vv8) (by kernel_rfl) (by kernel_rfl) (by kernel_rfl) (fun _ _ _ h => h) (Or.inl ⟨by rfl, ?hy8⟩) hSS ?_
          case hy8 =>
            intro wX hSw
            go_simp
            try with_reducible rfl
          try simp only [Act.put, List.setIfInBounds_toArray, List.set_cons_zero, List.set_cons_succ]
          refine ytake_9 (v := ?vv9) (by kernel_rfl) (by kernel_rfl) (by kernel_rfl) (fun _ _ _ h => h) (Or.inl ⟨by rfl, ?hy9⟩) hSS ?_
          case hy9 =>
            intro wX hSw
            go_simp
            try with_reducible rfl
          try simp only [Act.put, List.setIfInBounds_toArray, List.set_cons_zero, List.set_cons_succ]
          refine ytake_10 (v := ?vv10) (by kernel_rfl) (by kernel_rfl) (by kernel_rfl) (fun _ _ _ h => h) (Or.inl ⟨by rfl, ?hy10⟩) hSS ?_
          case hy10 =>
            intro wX hSw
            have c0 := HC0.out wX hSw
            go_simp
            try with_reducible rfl
          try simp only [Act.put, List.setIfInBounds_toArray, List.set_cons_zero, List.set_cons_succ]
          refine zready_7_11 (by kernel_rfl) ?_ ?_
          · intro KQ hK
            rw [if_pos (by rfl)]
            try go_simp
            refine (rcopyWaits_any ⟨AW, k, cW⟩ (a11.ms.take k) _ (HCUT.out.below hSS) HCL.out HCS.out).mono ?_
            rintro e w5c ⟨⟨A5, n5, c5⟩, cs, rfl, hr5, hm5, hb5⟩
            dsimp only [Ad.v]
            have hS5 : Below w11.heap.size w11 w5c := hSS.trans (hb5.mono hSS.size)
            have HM5 := Lib.hid hm5
            have hl5 : n5 = k := by
              have h1 := hr5.len
              have h2 := congrArg List.length hm5
              rw [List.length_map, List.length_map, List.length_take, HLW.out] at h2
              simp only at h1 h2
              omega
            have HL5 := Lib.hid hl5
            have HR5 : Hid (RowOwn KW w11.heap.size w5c ⟨A5, n5, c5⟩ cs) := hr5.more hSS.size
            clear hr5 hm5 hb5 hl5
            refine hK.out _ _ hS5 (fun _ => ?_)
            clear hK KQ
            try simp only [Act.put, List.setIfInBounds_toArray, List.set_cons_zero, List.set_cons_succ]
            refine yready_11 (by kernel_rfl) ?_
            intro KQ hK
            rw [if_pos (by rfl)]
            obtain ⟨gi, hgi⟩ : ∃ gi, gi = w5c.heap.size := ⟨_, rfl⟩
            obtain ⟨w6c, hw6⟩ : ∃ w6c, w6c = w5c.alloc (.cells #[.int .i64 P.i] 3) := ⟨_, rfl⟩
            unfold Oper.wp execOp
            go_simp
            rw [← hw6, ← hgi]
            have hb56 : Below w5c.heap.size w5c w6c := by rw [hw6]; exact (Below.refl _ _).alloc (Nat.le_refl _) _
            have hS6 : Below w11.heap.size w11 w6c := hS5.trans (hb56.mono hS5.size)
            have HR6 : Hid (RowOwn KW w11.heap.size w6c ⟨A5, n5, c5⟩ cs) := HR5.out.below hb56
            have HO6 : Hid (w6c.ownsRow w11.heap.size 3 1 (.slice (some ⟨gi, 0, none⟩) 1 1) 1 [.int .i64 P.i]) := by rw [hgi, hw6]; exact ownS_new w5c _ 3 1 1 [.int .i64 P.i] rfl (by decide) hS5.size
            have HAP : Hid (∀ z ∈ cs, ∀ k, z.2.v.ownBlock = some k → k ≠ gi) := by
              show ∀ z ∈ cs, _
              intro z hz k hk e
              have := (own_lt (HR5.out.sub z hz).1 hk).1
              omega
            clear hb56 hw6 hgi
            refine hK.out _ _ hS6 (fun _ => ?_)
            clear hK KQ
            try simp only [Act.put, List.setIfInBounds_toArray, List.set_cons_zero, List.set_cons_succ]
            refine ytake_12 (v := ?vv13) (by kernel_rfl) (by kernel_rfl) (by kernel_rfl) (fun _ _ _ h => h) (Or.inl ⟨by rfl, ?hy13⟩) hS6 ?_
            case hy13 =>
              intro wX hSw
              go_simp
              try with_reducible rfl
            try simp only [Act.put, List.setIfInBounds_toArray, List.set_cons_zero, List.set_cons_succ]
            obtain ⟨w7x, hw7⟩ : ∃ w7x, w7x = w6c.alloc (.cells #[.int .i64 d, .slice (some ⟨gi, 0, none⟩) 1 1] 56) := ⟨_, rfl⟩
            have hS7 : Below w11.heap.size w11 w7x := by rw [hw7]; exact hS6.alloc hS6.size _
            have hnew7 : ∀ i u, (KW.cells ⟨d, [P.i]⟩ (.slice (some ⟨gi, 0, none⟩) 1 1))[i]? = some u → w7x.cell? ⟨w6c.heap.size, i, none⟩ = some u := by rw [hw7]; exact cells_new w6c (KW.cells ⟨d, [P.i]⟩ (.slice (some ⟨gi, 0, none⟩) 1 1)) 56
            have hrow7 : w7x.ownsRow w11.heap.size 56 2 (.slice A5 n5 c5) n5 (cellsK KW cs) := by rw [hw7]; exact ownS_below HR6.out.row ((Below.refl _ _).alloc (Nat.le_refl _) _)
            have HW7 := Lib.hid hw7
            clear hw7
            refine yready_13 (by kernel_rfl) ?_
            intro KQ hK
            rw [if_pos (by rfl)]
            unfold Oper.wp execOp
            go_simp
            rw [← HW7.out]
            refine hK.out _ _ hS7 (fun _ => ?_)
            clear hK KQ
            try simp only [Act.put, List.setIfInBounds_toArray, List.set_cons_zero, List.set_cons_succ]
            refine yready_14 (by kernel_rfl) ?_
            intro KQ hK
            refine step_app_elemZ _ (by rfl) _ _ _ (by rfl) w11.heap.size 56 zwait 2 32 Tryz.underlying23 info_zwait rfl (by decide) (by decide) _ n5 (cellsK KW cs) (by rfl) hrow7 w6c.heap.size (KW.cells ⟨d, [P.i]⟩ (.slice (some ⟨gi, 0, none⟩) 1 1)) (by rfl) (by rfl) hnew7 (KW.one _ _ rfl) (by have := HL5.out; omega) hS7.size ?_
            intro g8 c8 w8 ho8 hg8 hl8
            rw [HW7.out] at hg8
            have hpush := RowOwn.pushF (x := ⟨d, [P.i]⟩) (o := ⟨some ⟨gi, 0, none⟩, 1, 1⟩) (a' := ⟨some ⟨g8, 0, none⟩, n5 + 1, c8⟩) HR6.out (Below.refl _ _) HO6.out rfl (fun z hz j hj hq => by
              have h1 := HAP.out z hz j hj
              simp only [Ad.v, Value.ownBlock, Option.some.injEq] at hq
              exact h1 hq.symm) hg8 ho8 rfl
            have HPU := Lib.hid hpush
            have hS8 : Below w11.heap.size w11 w8 := hS6.trans (((((Touch.refl (fun k => (Value.slice A5 n5 c5).ownBlock = some k) w6c).alloc _).on (Touch.grown hg8 fun k hk => hk)).below (B := w11.heap.size) (fun j hj => (own_lt HR6.out.row hj).2) hS6.size))
            refine hK.out _ _ hS8 (fun _ => ?_)
            clear hK KQ ho8 hg8 hl8 hpush
            try simp only [Act.put, List.setIfInBounds_toArray, List.set_cons_zero, List.set_cons_succ]
            refine ytake_15 (v := ?vv14) (by kernel_rfl) (by kernel_rfl) (by kernel_rfl) (fun _ _ _ h => h) (Or.inl ⟨by rfl, ?hy14⟩) hS8 ?_
            case hy14 =>
              intro wX hSw
              go_simp
              try with_reducible rfl
            try simp only [Act.put, List.setIfInBounds_toArray, List.set_cons_zero, List.set_cons_succ]
            refine wpAnyH_done (by kernel_rfl) ?_ _
            have HS8 := Lib.hid hS8
            have H8 := Lib.hid (HS11.out.below hS8)
            clear hnew7 hrow7 hS7
            have k68 : w8.cell? ⟨s, 6, none⟩ = some (.slice AW nW cW) := by have := H8.out.cells.2.2.2.2.2.2.1; rw [HOW.out] at this; exact this
            have hrd := rd_rest (p := k) H8.out.pg.core.waits (by rw [HOW.out]; exact hpn)
            rw [HOW.out] at hrd
            have hrun := fun (ty : TypeId) (cc : Nat) => run_app_rowsZ (P := Tryz.prog) w8 23 ty w11.heap.size 56 zwait 2 32 Tryz.underlying23 info_zwait rfl (by decide) (by decide) (.slice (some ⟨g8, 0, none⟩) (n5 + 1) c8) (n5 + 1) (cellsK KW (cs ++ [((⟨d, [P.i]⟩ : WtD), (⟨some ⟨gi, 0, none⟩, 1, 1⟩ : Ad))])) HPU.out.row (restA AW cW k 2) (nW - k) cc (cellsK KW (a11.ms.drop k)) (by rw [cellsK_length, List.length_drop, HLW.out]; rfl) hrd (cellsK_oneCell KW _) (by have := HL5.out; omega) HS8.out.size
            obtain ⟨A9, c9, w9, hr9, ho9, hg9, hl9⟩ := hrun 23 (cW - k)
            have HRUN := Lib.hid hr9
            have hlt9 : ∀ y ∈ a11.ms, ∀ j, y.2.v.ownBlock = some j → j < w11.heap.size := fun y hy j hj => (own_lt (HS11.out.pg.core.waits.sub y hy).1 hj).1
            have hjoin := HPU.out.join (p := k) (a' := ⟨A9, n5 + 1 + (nW - k), c9⟩) H8.out.pg.core.waits hlt9 (by have := HS11.out.le; exact this) hg9 ho9 (by rw [HLW.out])
            have hb9 : Below w11.heap.size w11 w9 := HS8.out.trans ((Touch.grown (F := fun k => (Value.slice (some ⟨g8, 0, none⟩) (n5 + 1) c8).ownBlock = some k) hg9 fun k hk => hk).below (fun j hj => (own_lt HPU.out.row hj).2) HS8.out.size)
            have hmem9 : ∀ y ∈ cs ++ [(⟨d, [P.i]⟩, ⟨some ⟨gi, 0, none⟩, 1, 1⟩)] ++ a11.ms.drop k, ∀ j, y.2.v.ownBlock = some j → j ≠ s := by
              intro y hy j hj
              rcases List.mem_append.1 hy with hy | hy
              · have h1 := (own_lt (HPU.out.sub y hy).1 hj).2
                omega
              · exact HS11.out.far0 j (.inl (.inr (.inr (.inr (.inl ⟨y, List.mem_of_mem_drop hy, hj⟩)))))
            have hrdy9 : ∀ y ∈ cs ++ [(⟨d, [P.i]⟩, ⟨some ⟨gi, 0, none⟩, 1, 1⟩)] ++ a11.ms.drop k, ∀ j, a11.R.v.ownBlock = some j → y.2.v.ownBlock ≠ some j := by
              intro y hy j hj hq
              rcases List.mem_append.1 hy with hy | hy
              · have h1 := (own_lt (HPU.out.sub y hy).1 hq).2
                have h2 := (own_lt HS11.out.pg.core.ready hj).1
                omega
              · exact HS11.out.pg.core.apR y (List.mem_of_mem_drop hy) j hj hq
            have hrow9 : ∀ j, (Ad.v ⟨A9, n5 + 1 + (nW - k), c9⟩).ownBlock = some j → j ≠ s := fun j hj => by have := (own_lt ho9 hj).2; omega
            have hput := HS11.out.putW (ho := ⟨A9, n5 + 1 + (nW - k), c9⟩) hb9 hjoin (ins_map HM5.out) hrow9 hmem9 hrdy9
            rw [HEW.out, ← HSE.out] at hput
            have HPUT := Lib.hid hput
            have k69 : w9.cell? ⟨s, 6, none⟩ = some (.slice AW nW cW) := by have := (HS11.out.below hb9).cells.2.2.2.2.2.2.1; rw [HOW.out] at this; exact this
            have f69 : w9.frozen? ⟨s, 6, none⟩ = false := ((HS11.out.below hb9).box.2 6 _ rfl).2
            clear hrd hrun hr9 ho9 hg9 hl9 hlt9 hjoin hb9 hmem9 hrow9 hput hrdy9
            by_cases hcp : cW = k
            · have e1 : restA AW cW k 2 = AW := by rw [restA, if_pos hcp]
              rw [e1] at HRUN
              subst hcp
              obtain rfl : nW = cW := by omega
              rw [Nat.sub_self] at HRUN HPUT
              cases AW with
              | none =>
                go_wp2_with (at_builtin; go_loud (refine wpList_app_run (v := .slice (some ⟨g8, 0, none⟩) (n5 + 1) c8) (u := .slice none 0 0) _ rfl _ _ 23 23 rfl rfl rfl HRUN.out ?_))
                go_meet
                exact ⟨_, HPUT.out.1, HPUT.out.2⟩
              | some ad =>
                go_wp2_with (at_builtin; go_loud (refine wpList_app_run (v := .slice (some ⟨g8, 0, none⟩) (n5 + 1) c8) (u := .slice (some ad) 0 0) _ rfl _ _ 23 23 rfl rfl rfl HRUN.out ?_))
                go_meet
                exact ⟨_, HPUT.out.1, HPUT.out.2⟩
            · have hex : ∃ b off, AW = some ⟨b, off, none⟩ := by
                have hpos : 0 < cW := by omega
                have hrow := HS11.out.pg.core.waits.row
                rw [HOW.out] at hrow
                rcases hrow.2 with ⟨hv, _⟩ | ⟨g', cap', cur', hv, _⟩
                · cases hv; exact absurd hpos (Nat.lt_irrefl _)
                · cases hv; exact ⟨g', 0, rfl⟩
              obtain ⟨bA, offA, rfl⟩ := hex
              have e1 : restA (some ⟨bA, offA, none⟩) cW k 2 = some ⟨bA, offA + k * 2, none⟩ := by rw [restA, if_neg hcp]; rfl
              rw [e1] at HRUN
              go_wp2_with (at_builtin; go_loud (refine wpList_app_run (v := .slice (some ⟨g8, 0, none⟩) (n5 + 1) c8) (u := .slice (some ⟨bA, offA + k * 2, none⟩) (nW - k) (cW - k)) _ rfl _ _ 23 23 rfl rfl rfl HRUN.out ?_))
              go_meet
              exact ⟨_, HPUT.out.1, HPUT.out.2⟩
          · intro KQ hK
            rw [if_pos (by rfl)]
            obtain ⟨gi, hgi⟩ : ∃ gi, gi = w11.heap.size := ⟨_, rfl⟩
            obtain ⟨w5b, hw5⟩ : ∃ w5b, w5b = (w11.alloc (.cells #[.int .i64 P.i] 3)).drew := ⟨_, rfl⟩
            have hS5b : Below w11.heap.size w11 w5b := by rw [hw5]; exact ((Below.refl _ _).alloc (Nat.le_refl _) _).drew
            have HO5 : Hid (w5b.ownsRow w11.heap.size 3 1 (.slice (some ⟨gi, 0, none⟩) 1 1) 1 [.int .i64 P.i]) := by rw [hgi, hw5]; exact ownS_new w11 _ 3 1 1 [.int .i64 P.i] rfl (by decide) (Nat.le_refl _)
            have hgi5 : gi < w5b.heap.size := by rw [hgi, hw5]; simp
            unfold Oper.wp execOp
            go_simp
            have HW5 := Lib.hid hw5
            have HGI := Lib.hid hgi
            clear hw5 hgi
            rw [← HW5.out, ← HGI.out]
            refine hK.out _ _ hS5b (fun _ => ?_)
            clear hK KQ
            try simp only [Act.put, List.setIfInBounds_toArray, List.set_cons_zero, List.set_cons_succ]
            refine ytake_12 (v := ?vv11) (by kernel_rfl) (by kernel_rfl) (by kernel_rfl) (fun _ _ _ h => h) (Or.inl ⟨by rfl, ?hy11⟩) hS5b ?_
            case hy11 =>
              intro wX hSw
              go_simp
              try with_reducible rfl
            try simp only [Act.put, List.setIfInBounds_toArray, List.set_cons_zero, List.set_cons_succ]
            refine zready_7_13 (by kernel_rfl) ?_ ?_
            · intro KQ hK
              rw [if_pos (by rfl)]
              try go_simp
              refine (rcopyWaits_any ⟨AW, k, cW⟩ (a11.ms.take k) _ (HCUT.out.below hS5b) HCL.out HCS.out).mono ?_
              rintro e w5c ⟨⟨A5, n5, c5⟩, cs, rfl, hr5, hm5, hb5⟩
              dsimp only [Ad.v]
              have hS5 : Below w11.heap.size w11 w5c := hS5b.trans (hb5.mono hS5b.size)
              have HM5 := Lib.hid hm5
              have hl5 : n5 = k := by
                have h1 := hr5.len
                have h2 := congrArg List.length hm5
                rw [List.length_map, List.length_map, List.length_take, HLW.out] at h2
                simp only at h1 h2
                omega
              have HL5 := Lib.hid hl5
              have HR6 : Hid (RowOwn KW w11.heap.size w5c ⟨A5, n5, c5⟩ cs) := hr5.more hS5b.size
              have HO6 : Hid (w5c.ownsRow w11.heap.size 3 1 (.slice (some ⟨gi, 0, none⟩) 1 1) 1 [.int .i64 P.i]) := ownS_below HO5.out hb5
              have HAP : Hid (∀ z ∈ cs, ∀ k, z.2.v.ownBlock = some k → k ≠ gi) := by
                show ∀ z ∈ cs, _
                intro z hz k hk e
                have := (own_lt (hr5.sub z hz).1 hk).2
                omega
              clear hr5 hm5 hb5 hl5
              refine hK.out _ _ hS5 (fun _ => ?_)
              clear hK KQ
              try simp only [Act.put, List.setIfInBounds_toArray, List.set_cons_zero, List.set_cons_succ]
              obtain ⟨w7x, hw7⟩ : ∃ w7x, w7x = w5c.alloc (.cells #[.int .i64 d, .slice (some ⟨gi, 0, none⟩) 1 1] 56) := ⟨_, rfl⟩
              have hS7 : Below w11.heap.size w11 w7x := by rw [hw7]; exact hS5.alloc hS5.size _
              have hnew7 : ∀ i u, (KW.cells ⟨d, [P.i]⟩ (.slice (some ⟨gi, 0, none⟩) 1 1))[i]? = some u → w7x.cell? ⟨w5c.heap.size, i, none⟩ = some u := by rw [hw7]; exact cells_new w5c (KW.cells ⟨d, [P.i]⟩ (.slice (some ⟨gi, 0, none⟩) 1 1)) 56
              have hrow7 : w7x.ownsRow w11.heap.size 56 2 (.slice A5 n5 c5) n5 (cellsK KW cs) := by rw [hw7]; exact ownS_below HR6.out.row ((Below.refl _ _).alloc (Nat.le_refl _) _)
              have HW7 := Lib.hid hw7
              clear hw7
              refine yready_13 (by kernel_rfl) ?_
              intro KQ hK
              rw [if_pos (by rfl)]
              unfold Oper.wp execOp
              go_simp
              rw [← HW7.out]
              refine hK.out _ _ hS7 (fun _ => ?_)
              clear hK KQ
              try simp only [Act.put, List.setIfInBounds_toArray, List.set_cons_zero, List.set_cons_succ]
              refine yready_14 (by kernel_rfl) ?_
              intro KQ hK
              refine step_app_elemZ _ (by rfl) _ _ _ (by rfl) w11.heap.size 56 zwait 2 32 Tryz.underlying23 info_zwait rfl (by decide) (by decide) _ n5 (cellsK KW cs) (by rfl) hrow7 w5c.heap.size (KW.cells ⟨d, [P.i]⟩ (.slice (some ⟨gi, 0, none⟩) 1 1)) (by rfl) (by rfl) hnew7 (KW.one _ _ rfl) (by have := HL5.out; omega) hS7.size ?_
              intro g8 c8 w8 ho8 hg8 hl8
              rw [HW7.out] at hg8
              have hpush := RowOwn.pushF (x := ⟨d, [P.i]⟩) (o := ⟨some ⟨gi, 0, none⟩, 1, 1⟩) (a' := ⟨some ⟨g8, 0, none⟩, n5 + 1, c8⟩) HR6.out (Below.refl _ _) HO6.out rfl (fun z hz j hj hq => by
                have h1 := HAP.out z hz j hj
                simp only [Ad.v, Value.ownBlock, Option.some.injEq] at hq
                exact h1 hq.symm) hg8 ho8 rfl
              have HPU := Lib.hid hpush
              have hS8 : Below w11.heap.size w11 w8 := hS5.trans (((((Touch.refl (fun k => (Value.slice A5 n5 c5).ownBlock = some k) w5c).alloc _).on (Touch.grown hg8 fun k hk => hk)).below (B := w11.heap.size) (fun j hj => (own_lt HR6.out.row hj).2) hS5.size))
              refine hK.out _ _ hS8 (fun _ => ?_)
              clear hK KQ ho8 hg8 hl8 hpush
              try simp only [Act.put, List.setIfInBounds_toArray, List.set_cons_zero, List.set_cons_succ]
              refine ytake_15 (v := ?vv15) (by kernel_rfl) (by kernel_rfl) (by kernel_rfl) (fun _ _ _ h => h) (Or.inl ⟨by rfl, ?hy15⟩) hS8 ?_
              case hy15 =>
                intro wX hSw
                go_simp
                try with_reducible rfl
              try simp only [Act.put, List.setIfInBounds_toArray, List.set_cons_zero, List.set_cons_succ]
              refine wpAnyH_done (by kernel_rfl) ?_ _
              have HS8 := Lib.hid hS8
              have H8 := Lib.hid (HS11.out.below hS8)
              clear hnew7 hrow7 hS7
              have k68 : w8.cell? ⟨s, 6, none⟩ = some (.slice AW nW cW) := by have := H8.out.cells.2.2.2.2.2.2.1; rw [HOW.out] at this; exact this
              have hrd := rd_rest (p := k) H8.out.pg.core.waits (by rw [HOW.out]; exact hpn)
              rw [HOW.out] at hrd
              have hrun := fun (ty : TypeId) (cc : Nat) => run_app_rowsZ (P := Tryz.prog) w8 23 ty w11.heap.size 56 zwait 2 32 Tryz.underlying23 info_zwait rfl (by decide) (by decide) (.slice (some ⟨g8, 0, none⟩) (n5 + 1) c8) (n5 + 1) (cellsK KW (cs ++ [((⟨d, [P.i]⟩ : WtD), (⟨some ⟨gi, 0, none⟩, 1, 1⟩ : Ad))])) HPU.out.row (restA AW cW k 2) (nW - k) cc (cellsK KW (a11.ms.drop k)) (by rw [cellsK_length, List.length_drop, HLW.out]; rfl) hrd (cellsK_oneCell KW _) (by have := HL5.out; omega) HS8.out.size
              obtain ⟨A9, c9, w9, hr9, ho9, hg9, hl9⟩ := hrun 23 (cW - k)
              have HRUN := Lib.hid hr9
              have hlt9 : ∀ y ∈ a11.ms, ∀ j, y.2.v.ownBlock = some j → j < w11.heap.size := fun y hy j hj => (own_lt (HS11.out.pg.core.waits.sub y hy).1 hj).1
              have hjoin := HPU.out.join (p := k) (a' := ⟨A9, n5 + 1 + (nW - k), c9⟩) H8.out.pg.core.waits hlt9 (by have := HS11.out.le; exact this) hg9 ho9 (by rw [HLW.out])
              have hb9 : Below w11.heap.size w11 w9 := HS8.out.trans ((Touch.grown (F := fun k => (Value.slice (some ⟨g8, 0, none⟩) (n5 + 1) c8).ownBlock = some k) hg9 fun k hk => hk).below (fun j hj => (own_lt HPU.out.row hj).2) HS8.out.size)
              have hmem9 : ∀ y ∈ cs ++ [(⟨d, [P.i]⟩, ⟨some ⟨gi, 0, none⟩, 1, 1⟩)] ++ a11.ms.drop k, ∀ j, y.2.v.ownBlock = some j → j ≠ s := by
                intro y hy j hj
                rcases List.mem_append.1 hy with hy | hy
                · have h1 := (own_lt (HPU.out.sub y hy).1 hj).2
                  omega
                · exact HS11.out.far0 j (.inl (.inr (.inr (.inr (.inl ⟨y, List.mem_of_mem_drop hy, hj⟩)))))
              have hrdy9 : ∀ y ∈ cs ++ [(⟨d, [P.i]⟩, ⟨some ⟨gi, 0, none⟩, 1, 1⟩)] ++ a11.ms.drop k, ∀ j, a11.R.v.ownBlock = some j → y.2.v.ownBlock ≠ some j := by
                intro y hy j hj hq
                rcases List.mem_append.1 hy with hy | hy
                · have h1 := (own_lt (HPU.out.sub y hy).1 hq).2
                  have h2 := (own_lt HS11.out.pg.core.ready hj).1
                  omega
                · exact HS11.out.pg.core.apR y (List.mem_of_mem_drop hy) j hj hq
              have hrow9 : ∀ j, (Ad.v ⟨A9, n5 + 1 + (nW - k), c9⟩).ownBlock = some j → j ≠ s := fun j hj => by have := (own_lt ho9 hj).2; omega
              have hput := HS11.out.putW (ho := ⟨A9, n5 + 1 + (nW - k), c9⟩) hb9 hjoin (ins_map HM5.out) hrow9 hmem9 hrdy9
              rw [HEW.out, ← HSE.out] at hput
              have HPUT := Lib.hid hput
              have k69 : w9.cell? ⟨s, 6, none⟩ = some (.slice AW nW cW) := by have := (HS11.out.below hb9).cells.2.2.2.2.2.2.1; rw [HOW.out] at this; exact this
              have f69 : w9.frozen? ⟨s, 6, none⟩ = false := ((HS11.out.below hb9).box.2 6 _ rfl).2
              clear hrd hrun hr9 ho9 hg9 hl9 hlt9 hjoin hb9 hmem9 hrow9 hput hrdy9
              by_cases hcp : cW = k
              · have e1 : restA AW cW k 2 = AW := by rw [restA, if_pos hcp]
                rw [e1] at HRUN
                subst hcp
                obtain rfl : nW = cW := by omega
                rw [Nat.sub_self] at HRUN HPUT
                cases AW with
                | none =>
                  go_wp2_with (at_builtin; go_loud (refine wpList_app_run (v := .slice (some ⟨g8, 0, none⟩) (n5 + 1) c8) (u := .slice none 0 0) _ rfl _ _ 23 23 rfl rfl rfl HRUN.out ?_))
                  go_meet
                  exact ⟨_, HPUT.out.1, HPUT.out.2⟩
                | some ad =>
                  go_wp2_with (at_builtin; go_loud (refine wpList_app_run (v := .slice (some ⟨g8, 0, none⟩) (n5 + 1) c8) (u := .slice (some ad) 0 0) _ rfl _ _ 23 23 rfl rfl rfl HRUN.out ?_))
                  go_meet
                  exact ⟨_, HPUT.out.1, HPUT.out.2⟩
              · have hex : ∃ b off, AW = some ⟨b, off, none⟩ := by
                  have hpos : 0 < cW := by omega
                  have hrow := HS11.out.pg.core.waits.row
                  rw [HOW.out] at hrow
                  rcases hrow.2 with ⟨hv, _⟩ | ⟨g', cap', cur', hv, _⟩
                  · cases hv; exact absurd hpos (Nat.lt_irrefl _)
                  · cases hv; exact ⟨g', 0, rfl⟩
                obtain ⟨bA, offA, rfl⟩ := hex
                have e1 : restA (some ⟨bA, offA, none⟩) cW k 2 = some ⟨bA, offA + k * 2, none⟩ := by rw [restA, if_neg hcp]; rfl
                rw [e1] at HRUN
                go_wp2_with (at_builtin; go_loud (refine wpList_app_run (v := .slice (some ⟨g8, 0, none⟩) (n5 + 1) c8) (u := .slice (some ⟨bA, offA + k * 2, none⟩) (nW - k) (cW - k)) _ rfl _ _ 23 23 rfl rfl rfl HRUN.out ?_))
                go_meet
                exact ⟨_, HPUT.out.1, HPUT.out.2⟩
            · intro KQ hK
              rw [if_pos (by rfl)]
              obtain ⟨gq, hgq⟩ : ∃ gq, gq = w5b.heap.size := ⟨_, rfl⟩
              obtain ⟨w6b, hw6⟩ : ∃ w6b, w6b = w5b.alloc (.cells #[.int .i64 d, .slice (some ⟨gi, 0, none⟩) 1 1] 56) := ⟨_, rfl⟩
              have hb6 : Below w5b.heap.size w5b w6b := by rw [hw6]; exact (Below.refl _ _).alloc (Nat.le_refl _) _
              have hS6b : Below w11.heap.size w11 w6b := hS5b.trans (hb6.mono hS5b.size)
              have hnew6 : ∀ i u, (KW.cells ⟨d, [P.i]⟩ (.slice (some ⟨gi, 0, none⟩) 1 1))[i]? = some u → w6b.cell? ⟨gq, i, none⟩ = some u := by rw [hw6, hgq]; exact cells_new w5b (KW.cells ⟨d, [P.i]⟩ (.slice (some ⟨gi, 0, none⟩) 1 1)) 56
              have hgq6 : gq < w6b.heap.size := by rw [hw6, hgq]; simp
              have HO6b : Hid (w6b.ownsRow w11.heap.size 3 1 (.slice (some ⟨gi, 0, none⟩) 1 1) 1 [.int .i64 P.i]) := ownS_below HO5.out hb6
              have hgi6 : gi < w6b.heap.size := by have := hb6.size; omega
              have HW6 := Lib.hid hw6
              have HGQ := Lib.hid hgq
              clear hw6 hgq hb6
              unfold Oper.wp execOp
              go_simp
              rw [← HW6.out, ← HGQ.out]
              refine hK.out _ _ hS6b (fun _ => ?_)
              clear hK KQ
              try simp only [Act.put, List.setIfInBounds_toArray, List.set_cons_zero, List.set_cons_succ]
              refine yready_7 (by kernel_rfl) ?_
              intro KQ hK
              rw [if_pos (by rfl)]
              try go_simp
              refine (rcopyWaits_any ⟨AW, k, cW⟩ (a11.ms.take k) _ (HCUT.out.below hS6b) HCL.out HCS.out).mono ?_
              rintro e w5c ⟨⟨A5, n5, c5⟩, cs, rfl, hr5, hm5, hb5⟩
              dsimp only [Ad.v]
              have hS5 : Below w11.heap.size w11 w5c := hS6b.trans (hb5.mono hS6b.size)
              have HM5 := Lib.hid hm5
              have hl5 : n5 = k := by
                have h1 := hr5.len
                have h2 := congrArg List.length hm5
                rw [List.length_map, List.length_map, List.length_take, HLW.out] at h2
                simp only at h1 h2
                omega
              have HL5 := Lib.hid hl5
              have HR6 : Hid (RowOwn KW w11.heap.size w5c ⟨A5, n5, c5⟩ cs) := hr5.more hS6b.size
              have HO6 : Hid (w5c.ownsRow w11.heap.size 3 1 (.slice (some ⟨gi, 0, none⟩) 1 1) 1 [.int .i64 P.i]) := ownS_below HO6b.out hb5
              have HAP : Hid (∀ z ∈ cs, ∀ k, z.2.v.ownBlock = some k → k ≠ gi) := by
                show ∀ z ∈ cs, _
                intro z hz k hk e
                have := (own_lt (hr5.sub z hz).1 hk).2
                omega
              have hnew7 : ∀ i u, (KW.cells ⟨d, [P.i]⟩ (.slice (some ⟨gi, 0, none⟩) 1 1))[i]? = some u → w5c.cell? ⟨gq, i, none⟩ = some u := fun i u hu => (hb5.cell (p := ⟨gq, i, none⟩) hgq6).trans (hnew6 i u hu)
              have hrow7 : w5c.ownsRow w11.heap.size 56 2 (.slice A5 n5 c5) n5 (cellsK KW cs) := HR6.out.row
              clear hr5 hm5 hb5 hl5 hnew6
              refine hK.out _ _ hS5 (fun _ => ?_)
              clear hK KQ
              try simp only [Act.put, List.setIfInBounds_toArray, List.set_cons_zero, List.set_cons_succ]
              refine yready_14 (by kernel_rfl) ?_
              intro KQ hK
              refine step_app_elemZ _ (by rfl) _ _ _ (by rfl) w11.heap.size 56 zwait 2 32 Tryz.underlying23 info_zwait rfl (by decide) (by decide) _ n5 (cellsK KW cs) (by rfl) hrow7 gq (KW.cells ⟨d, [P.i]⟩ (.slice (some ⟨gi, 0, none⟩) 1 1)) (by rfl) (by rfl) hnew7 (KW.one _ _ rfl) (by have := HL5.out; omega) hS5.size ?_
              intro g8 c8 w8 ho8 hg8 hl8
              have hpush := RowOwn.pushG (x := ⟨d, [P.i]⟩) (o := ⟨some ⟨gi, 0, none⟩, 1, 1⟩) (a' := ⟨some ⟨g8, 0, none⟩, n5 + 1, c8⟩) HR6.out HO6.out rfl (fun z hz j hj hq => by
                have h1 := HAP.out z hz j hj
                simp only [Ad.v, Value.ownBlock, Option.some.injEq] at hq
                exact h1 hq.symm) hg8 ho8 rfl
              have HPU := Lib.hid hpush
              have hS7 : True := trivial
              have hS8 : Below w11.heap.size w11 w8 := hS5.trans ((Touch.grown (F := fun k => (Value.slice A5 n5 c5).ownBlock = some k) hg8 fun k hk => hk).below (B := w11.heap.size) (fun j hj => (own_lt HR6.out.row hj).2) hS5.size)
              refine hK.out _ _ hS8 (fun _ => ?_)
              clear hK KQ
              clear ho8 hg8 hl8 hpush
              try simp only [Act.put, List.setIfInBounds_toArray, List.set_cons_zero, List.set_cons_succ]
              refine ytake_15 (v := ?vv12) (by kernel_rfl) (by kernel_rfl) (by kernel_rfl) (fun _ _ _ h => h) (Or.inl ⟨by rfl, ?hy12⟩) hS8 ?_
              case hy12 =>
                intro wX hSw
                go_simp
                try with_reducible rfl
              try simp only [Act.put, List.setIfInBounds_toArray, List.set_cons_zero, List.set_cons_succ]
              refine wpAnyH_done (by kernel_rfl) ?_ _
              have HS8 := Lib.hid hS8
              have H8 := Lib.hid (HS11.out.below hS8)
              clear hnew7 hrow7 hS7
              have k68 : w8.cell? ⟨s, 6, none⟩ = some (.slice AW nW cW) := by have := H8.out.cells.2.2.2.2.2.2.1; rw [HOW.out] at this; exact this
              have hrd := rd_rest (p := k) H8.out.pg.core.waits (by rw [HOW.out]; exact hpn)
              rw [HOW.out] at hrd
              have hrun := fun (ty : TypeId) (cc : Nat) => run_app_rowsZ (P := Tryz.prog) w8 23 ty w11.heap.size 56 zwait 2 32 Tryz.underlying23 info_zwait rfl (by decide) (by decide) (.slice (some ⟨g8, 0, none⟩) (n5 + 1) c8) (n5 + 1) (cellsK KW (cs ++ [((⟨d, [P.i]⟩ : WtD), (⟨some ⟨gi, 0, none⟩, 1, 1⟩ : Ad))])) HPU.out.row (restA AW cW k 2) (nW - k) cc (cellsK KW (a11.ms.drop k)) (by rw [cellsK_length, List.length_drop, HLW.out]; rfl) hrd (cellsK_oneCell KW _) (by have := HL5.out; omega) HS8.out.size
              obtain ⟨A9, c9, w9, hr9, ho9, hg9, hl9⟩ := hrun 23 (cW - k)
              have HRUN := Lib.hid hr9
              have hlt9 : ∀ y ∈ a11.ms, ∀ j, y.2.v.ownBlock = some j → j < w11.heap.size := fun y hy j hj => (own_lt (HS11.out.pg.core.waits.sub y hy).1 hj).1
              have hjoin := HPU.out.join (p := k) (a' := ⟨A9, n5 + 1 + (nW - k), c9⟩) H8.out.pg.core.waits hlt9 (by have := HS11.out.le; exact this) hg9 ho9 (by rw [HLW.out])
              have hb9 : Below w11.heap.size w11 w9 := HS8.out.trans ((Touch.grown (F := fun k => (Value.slice (some ⟨g8, 0, none⟩) (n5 + 1) c8).ownBlock = some k) hg9 fun k hk => hk).below (fun j hj => (own_lt HPU.out.row hj).2) HS8.out.size)
              have hmem9 : ∀ y ∈ cs ++ [(⟨d, [P.i]⟩, ⟨some ⟨gi, 0, none⟩, 1, 1⟩)] ++ a11.ms.drop k, ∀ j, y.2.v.ownBlock = some j → j ≠ s := by
                intro y hy j hj
                rcases List.mem_append.1 hy with hy | hy
                · have h1 := (own_lt (HPU.out.sub y hy).1 hj).2
                  omega
                · exact HS11.out.far0 j (.inl (.inr (.inr (.inr (.inl ⟨y, List.mem_of_mem_drop hy, hj⟩)))))
              have hrdy9 : ∀ y ∈ cs ++ [(⟨d, [P.i]⟩, ⟨some ⟨gi, 0, none⟩, 1, 1⟩)] ++ a11.ms.drop k, ∀ j, a11.R.v.ownBlock = some j → y.2.v.ownBlock ≠ some j := by
                intro y hy j hj hq
                rcases List.mem_append.1 hy with hy | hy
                · have h1 := (own_lt (HPU.out.sub y hy).1 hq).2
                  have h2 := (own_lt HS11.out.pg.core.ready hj).1
                  omega
                · exact HS11.out.pg.core.apR y (List.mem_of_mem_drop hy) j hj hq
              have hrow9 : ∀ j, (Ad.v ⟨A9, n5 + 1 + (nW - k), c9⟩).ownBlock = some j → j ≠ s := fun j hj => by have := (own_lt ho9 hj).2; omega
              have hput := HS11.out.putW (ho := ⟨A9, n5 + 1 + (nW - k), c9⟩) hb9 hjoin (ins_map HM5.out) hrow9 hmem9 hrdy9
              rw [HEW.out, ← HSE.out] at hput
              have HPUT := Lib.hid hput
              have k69 : w9.cell? ⟨s, 6, none⟩ = some (.slice AW nW cW) := by have := (HS11.out.below hb9).cells.2.2.2.2.2.2.1; rw [HOW.out] at this; exact this
              have f69 : w9.frozen? ⟨s, 6, none⟩ = false := ((HS11.out.below hb9).box.2 6 _ rfl).2
              clear hrd hrun hr9 ho9 hg9 hl9 hlt9 hjoin hb9 hmem9 hrow9 hput hrdy9
              by_cases hcp : cW = k
              · have e1 : restA AW cW k 2 = AW := by rw [restA, if_pos hcp]
                rw [e1] at HRUN
                subst hcp
                obtain rfl : nW = cW := by omega
                rw [Nat.sub_self] at HRUN HPUT
                cases AW with
                | none =>
                  go_wp2_with (at_builtin; go_loud (refine wpList_app_run (v := .slice (some ⟨g8, 0, none⟩) (n5 + 1) c8) (u := .slice none 0 0) _ rfl _ _ 23 23 rfl rfl rfl HRUN.out ?_))
                  go_meet
                  exact ⟨_, HPUT.out.1, HPUT.out.2⟩
                | some ad =>
                  go_wp2_with (at_builtin; go_loud (refine wpList_app_run (v := .slice (some ⟨g8, 0, none⟩) (n5 + 1) c8) (u := .slice (some ad) 0 0) _ rfl _ _ 23 23 rfl rfl rfl HRUN.out ?_))
                  go_meet
                  exact ⟨_, HPUT.out.1, HPUT.out.2⟩
              · have hex : ∃ b off, AW = some ⟨b, off, none⟩ := by
                  have hpos : 0 < cW := by omega
                  have hrow := HS11.out.pg.core.waits.row
                  rw [HOW.out] at hrow
                  rcases hrow.2 with ⟨hv, _⟩ | ⟨g', cap', cur', hv, _⟩
                  · cases hv; exact absurd hpos (Nat.lt_irrefl _)
                  · cases hv; exact ⟨g', 0, rfl⟩
                obtain ⟨bA, offA, rfl⟩ := hex
                have e1 : restA (some ⟨bA, offA, none⟩) cW k 2 = some ⟨bA, offA + k * 2, none⟩ := by rw [restA, if_neg hcp]; rfl
                rw [e1] at HRUN
                go_wp2_with (at_builtin; go_loud (refine wpList_app_run (v := .slice (some ⟨g8, 0, none⟩) (n5 + 1) c8) (u := .slice (some ⟨bA, offA + k * 2, none⟩) (nW - k) (cW - k)) _ rfl _ _ 23 23 rfl rfl rfl HRUN.out ?_))
                go_meet
                exact ⟨_, HPUT.out.1, HPUT.out.2⟩
      case rest =>
      obtain ⟨a12, HS12, HT12⟩ := hcut
      have HB12 : Hid (Below w0.heap.size w0 wc) := HB11.out.trans (HT12.out.below (fun k hk => by have e : k = s := hk; omega) HB11.out.size)
      have HBX12 : Hid (Box wc bb [.int .i64 P.i, .int .i64 P.x, .slice A1 n1 c1]) := HBX11.out.touch HT12.out (by omega)
      have HO12 : Hid (wc.ownsRow w5.heap.size 40 4 (.slice A1 n1 c1) n1 (txs (makeL P))) := own_kept HO11.out fun k hk hl => HT12.out.block k hl (by have := HA1.out k hk; omega)
      have HSZ12 : Hid (∀ k, (Value.slice A1 n1 c1).ownBlock = some k → k < wc.heap.size) := by show ∀ k, _; exact fun k hk => (own_lt HO12.out hk).1
      obtain ⟨T, hT⟩ : ∃ T : Nat, P.N = (T : Int) := ⟨P.N.toNat, by omega⟩
      have HT := Lib.hid hT
      have hT16 : T ≤ 16 := by omega
      have HXP : Hid (∀ wX, Below w0.heap.size w0 wX → wX.cell? ⟨g, 0, none⟩ = some (.int .i64 P.i) ∧ wX.cell? ⟨g, 1, none⟩ = some (.int .i64 (T : Int))) := by
        show ∀ wX, _
        intro wX hX
        have hb := HX0.out.below hX hl0
        rw [← HT.out]
        exact ⟨(hb.2 0 _ rfl).1, (hb.2 1 _ rfl).1⟩
      have hsc12 : s < wc.heap.size := HS12.out.box.1
      have hbc12 : bb < wc.heap.size := HBX12.out.1
      have HLM := Lib.hid HN1.out
      have hsl12 : SlIn wc ⟨A1, n1, c1⟩ (makeL P).length (txs (makeL P)) := slIn_own HO12.out HN1.out
      have hn1l : n1 ≤ c1 := hsl12.cap
      clear hsl12
      clear hT
      go_wp2_with fail
      go_loopw [11] (fun i wr => ∃ (j : Nat) (o2 : Ad) (ms2 : List (OtD × Ad)), i = .int .i64 ((j : Int) + 1) ∧ j ≤ T ∧ Hid (StAt s w0.heap.size wr (sealM P d) a12 (askTo P d P.i P.x (makeL P) [] j) o2 ms2) ∧ Hid (Box wr bb [.int .i64 P.i, .int .i64 P.x, .slice A1 n1 c1]) ∧ Hid (wr.ownsRow w5.heap.size 40 4 (.slice A1 n1 c1) n1 (txs (makeL P))) ∧ Hid (Below w0.heap.size w0 wr) ∧ Hid (∀ k, o2.v.ownBlock = some k → wc.heap.size ≤ k) ∧ Hid (wc.heap.size ≤ wr.heap.size)) (fun i _ => T + 1 - (intOf i).toNat)
      case atStart => exact ⟨0, noAd, [], rfl, Nat.zero_le _, HS12, HBX12, HO12, HB12, Lib.hid (fun k hk => by cases hk), Lib.hid (Nat.le_refl _)⟩
      case round =>
        clear HS12 HBX12 HO12 HB12 HT12
        obtain ⟨j, o2, ms2, rfl, hj, HSI, HBI, HOI, HWI, HNI, HZI⟩ := hrel
        obtain ⟨z0, z1⟩ := HXP.out wr HWI.out
        have hw1 : IntKind.i64.wrap ((j : Int) + 1 + 1) = (j : Int) + 1 + 1 := IntWalk.i64_in _ (by omega)
        by_cases hjt : j < T
        · have i6 : (j : Int) + 1 ≤ (T : Int) := by omega
          have i7 : decide ((j : Int) + 1 ≤ (T : Int)) = true := decide_eq_true i6
          by_cases hid : (j : Int) + 1 = P.i
          · have j1 : ((j : Int) + 1 == P.i) = true := by simp [hid]
            have j2 : ((j : Int) + 1 != P.i) = false := by simp [hid]
            have HID := Lib.hid hid
            clear hid
            go_wp2_with fail
            go_roundw
            case rel => exact ⟨j + 1, o2, ms2, by push_cast; rfl, by omega, by show StAt _ _ _ _ _ _ _ _; rw [askTo_next, if_neg (fun h => h.1 HID.out), List.append_nil]; exact HSI.out, HBI, HOI, HWI, HNI, HZI⟩
            case measure => simp [intOf]; omega
          · have j1 : ((j : Int) + 1 == P.i) = false := by simp [hid]
            have j2 : ((j : Int) + 1 != P.i) = true := by simp [hid]
            have HNE := Lib.hid hid
            have e0 := (HBI.out.2 0 _ rfl).1
            have e1 := (HBI.out.2 1 _ rfl).1
            have e2 := (HBI.out.2 2 _ rfl).1
            have hbr : bb < wr.heap.size := HBI.out.1
            clear hid
            have hsli : SlIn wr ⟨A1, n1, c1⟩ (makeL P).length (txs (makeL P)) := slIn_own HOI.out HLM.out
            have HRD : Hid (Rd wr A1 (txs (makeL P))) := hsli.rd
            clear hsli
            go_upto_region 23 with fail
            go_wp2_with (first
              | (go_at_call 87
                 refine (rcopyBat_any P.i P.x A1 c1 n1 (makeL P) _ HLM.out HRD.out hn1l (by have := HLM.out; omega)).mono ?_
                 rintro e w8 ⟨A8, c8, rfl, ho8, -, -, -, hb8⟩
                 have HO8 : Hid (w8.ownsRow wr.heap.size 40 4 (.slice A8 n1 c8) n1 (txs (makeL P))) := ho8
                 have HB8 := Lib.hid hb8
                 clear ho8 hb8)
              | (go_at_call 86
                 refine (tells_any s w0.heap.size wr.heap.size (sealM P d) a12 _ o2 ms2 ⟨1, 0, (j : Int) + 1, d, P.i, P.x, makeL P⟩ ⟨A8, n1, c8⟩ w8 (HSI.out.below HB8.out) HSI.out.le HO8.out HLM.out (fun b hb => ?_) (by have h1 := HSI.out.lenO; have := askTo_len P d P.i P.x (makeL P) [] j; omega)).mono ?_
                 · have hbl := (own_lt HO8.out hb).2
                   refine ⟨by have := HSI.out.box.1; omega, fun z hz hq => by have := (own_lt (HSI.out.out.sub z hz).1 hq).1; omega, fun z hz hq => by have := (own_lt (HSI.out.pg.core.held.sub z hz).1 hq).1; omega⟩
                 rintro e w9 ⟨o9, rfl, hst9, ht9, hn9⟩
                 have HST9 := Lib.hid hst9
                 have HT9 := Lib.hid ht9
                 have HN9 := Lib.hid hn9
                 clear hst9 ht9 hn9))
            have hz8 : wr.heap.size ≤ w8.heap.size := HB8.out.size
            have hz9 : w8.heap.size ≤ w9.heap.size := HT9.out.size
            have hzi : wc.heap.size ≤ wr.heap.size := HZI.out
            have HB9 : Hid (Below w0.heap.size w0 w9) := (HWI.out.trans (HB8.out.mono HWI.out.size)).trans (HT9.out.below (fun b hb => by
              rcases hb with e | e
              · omega
              · exact (own_lt HSI.out.out.row e).2) (by have := HWI.out.size; omega))
            have HBX9 : Hid (Box w9 bb [.int .i64 P.i, .int .i64 P.x, .slice A1 n1 c1]) := (HBI.out.below HB8.out HBI.out.1).touch HT9.out (by
              rintro (e | e)
              · omega
              · have := HNI.out _ e; omega)
            have HO9 : Hid (w9.ownsRow w5.heap.size 40 4 (.slice A1 n1 c1) n1 (txs (makeL P))) := own_kept (ownS_below HOI.out HB8.out) fun k hk hl => HT9.out.block k hl (by
              have h1 := HSZ12.out k hk
              have h2 := HA1.out k hk
              rintro (e | e)
              · omega
              · have := HNI.out _ e; omega)
            have HN9' : Hid (∀ k, o9.v.ownBlock = some k → wc.heap.size ≤ k) := by
              show ∀ k, _
              intro k hk
              rcases HN9.out k hk with e | e
              · exact HNI.out k e
              · omega
            have HFIN : Hid (StAt s w0.heap.size w9 (sealM P d) a12 (askTo P d P.i P.x (makeL P) [] (j + 1)) o9 (ms2 ++ [(⟨1, P.i, (j : Int) + 1, d, P.i, P.x, makeL P⟩, ⟨A8, n1, c8⟩)])) := by
              show StAt _ _ _ _ _ _ _ _
              rw [askTo_next, if_pos ⟨HNE.out, by simp⟩]
              have h1 := HST9.out
              rw [HQI.out] at h1
              exact h1
            have HZ9 : Hid (wc.heap.size ≤ w9.heap.size) := by show _ ≤ _; omega
            clear z0 z1 e0 e1 e2
            go_roundw
            case rel => exact ⟨j + 1, o9, _, by push_cast; rfl, by omega, HFIN, HBX9, HO9, HB9, HN9', HZ9⟩
            case measure => simp [intOf]; omega
        · have i6 : ¬ ((j : Int) + 1 ≤ (T : Int)) := by omega
          have i7 : decide ((j : Int) + 1 ≤ (T : Int)) = false := decide_eq_false i6
          obtain rfl : j = T := by omega
          have HSO : Hid (StAt s w0.heap.size wr (sealM P d) a12 (sealO P d) o2 ms2) := by
            have h1 := HSI.out
            have e : askTo P d P.i P.x (makeL P) [] j = sealO P d := by rw [sealO, ← askTo_all, HT.out]; rfl
            rw [e] at h1
            exact h1
          have HKE := Lib.hid (kept_any s w0.heap.size (sealM P d) a12 (sealO P d) o2 ms2 wr HSO.out (by rw [HQN.out]; exact HMY.out) HQR.out HFS.out)
          clear HXP
          go_wp2_with (go_at_call 88; refine HKE.out.mono ?_; rintro e w14 ⟨a14, rfl, hst14, ht14⟩)
          have hb14 : Below w0.heap.size w0 w14 := HWI.out.trans (ht14.below (fun b hb => by
            rcases hb with e | e
            · omega
            · exact (own_lt HSO.out.pg.core.ready e).2) HWI.out.size)
          go_ret2
          exact ⟨s, rfl, .inr ⟨w0.heap.size, a14, o2, ms2, by rw [HG.out]; exact hgw, hst14, by rw [HG.out]; exact HB0.out.trans (hb14.mono hgw)⟩⟩

end Go.Proofs.YteepobghdpnabaaGreat
