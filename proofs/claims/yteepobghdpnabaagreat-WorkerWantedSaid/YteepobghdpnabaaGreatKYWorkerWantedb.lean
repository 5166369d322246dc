/-
 Package worker's give: batches that are wanted, and held.
-/
import Derived.Test.YteepobghdpnabaaGreatKBae
import Derived.Test.YteepobghdpnabaaGreatKYWorkerWanteda
namespace Go.Proofs.YteepobghdpnabaaGreat
open Go.RowKit

theorem give_next (P : WkD) (D : List Int) (f : Int) {k : Nat} {d : Int} (h : D[k]? = some d) : giveW P (D.take (k + 1)) f = giveW P (D.take k) f ++ (match lookH P.H d with
  | some x => [⟨3, P.i, f, d, x.a, x.n, x.L⟩]
  | none => []) := by
 unfold giveW
 rw [take_nxt h, List.flatMap_append]
 congr 1
 cases h2 : lookH P.H d <;> simp [h2]

set_option maxRecDepth 100000 in
set_option maxHeartbeats 16000000 in
theorem give_any (B : Nat) (P : WkD) (a : WkA) (AD : Option Addr) (nD cD : Nat) (D : List Int) (f : Int) (w : World) (h : WIn w P a) (hr : RiseI P.hs) (hf : WFew P 1000000) (hz : D.length = nD) (hrd : Rd w AD (i64s D)) (hD : D.length ≤ 1000000) (hB : B ≤ w.heap.size) :
    Calls Tryz.prog 103 #[wkV P a, .slice AD nD cD, .int .i64 f] w fun e w' => ∃ o', e = .returned o'.v ∧ Outs B w noAd [] (giveW P D f) w' o' := by
  obtain ⟨w0, hw0⟩ : ∃ w0, w0 = w.alloc (.cells #[.int .i64 P.i, .int .i64 P.N, .int .i64 P.x, .slice a.O.A a.O.n a.O.c, .int .i64 P.g, .int .i64 P.c, .slice a.W.A a.W.n a.W.c, .slice a.H.A a.H.n a.H.c, .slice a.R.A a.R.n a.R.c] 27) := ⟨_, rfl⟩
  have hb0 : Below w.heap.size w w0 := by rw [hw0]; exact (Below.refl _ _).alloc (Nat.le_refl _) _
  have bx0 : Box w0 w.heap.size (wkC P a) := by rw [hw0]; exact box_new w (wkC P a) 27
  obtain ⟨g, hg⟩ : ∃ g, g = w.heap.size := ⟨_, rfl⟩
  rw [← hg] at bx0
  have HIN : Hid (∀ wX, Below w0.heap.size w0 wX → WIn wX P a) := by show ∀ wX, _; exact fun wX hX => (h.below hb0).below hX
  have HRD : Hid (∀ wX, Below w0.heap.size w0 wX → Rd wX AD (i64s D)) := by show ∀ wX, _; exact fun wX hX => (hrd.below hb0).below hX
  have HOS : Hid (Outs B w0 noAd [] (giveW P (D.take 0) f) w0 noAd) := outs_start (rowOwn_none w0 B)
  have HW0 := Lib.hid hw0
  have HG := Lib.hid hg
  have HBX := Lib.hid bx0
  have HB0 := Lib.hid hb0
  have HZ := Lib.hid hz
  have HF := Lib.hid hf
  have HR := Lib.hid hr
  have HEH := Lib.hid h.eH
  have hg0 : g < w0.heap.size := bx0.1
  have hB0 : B ≤ w0.heap.size := by have := hb0.size; omega
  have hnD : nD ≤ 1000000 := by omega
  obtain ⟨AH, nH, cH, hoH⟩ : ∃ A n c, a.H = ⟨A, n, c⟩ := ⟨_, _, _, rfl⟩
  have HOH := Lib.hid hoH
  have hT : ∀ wX, Touch (fun k => noAd.v.ownBlock = some k) w0 wX → Below w0.heap.size w0 wX := fun wX hX => hX.below (fun k hk => by simp [noAd, Ad.v, Value.ownBlock] at hk) (Nat.le_refl _)
  have HT := Lib.hid hT
  clear h hrd hw0 hb0 bx0 hg hoH hT hz hf hr hB
  unfold wkV Ad.v
  go_enter Tryz.func103, Tryz.ntmps103
  go_upto_region 1 with fail
  rw [← HW0.out, ← HG.out]
  go_wp2_with fail
  go_loopw [7, 14] (fun v i wr => ∃ (k : Nat) (o' : Ad), i = .int .i64 k ∧ v = .slice o'.A o'.n o'.c ∧ k ≤ nD ∧ o'.n ≤ k ∧ Hid (Outs B w0 noAd [] (giveW P (D.take k) f) wr o')) (fun _ i _ => nD - (intOf i).toNat)
  case atStart => exact ⟨0, noAd, rfl, rfl, Nat.zero_le _, Nat.le_refl _, HOS.out⟩
  case round =>
    obtain ⟨k, o', rfl, rfl, hk, hon, HO⟩ := hrel
    have hbw := HT.out _ HO.out.touch
    have hsz := hbw.size
    have hbx := HBX.out.below hbw hg0
    have HIW := Lib.hid (HIN.out _ hbw)
    have HBW := Lib.hid hbw
    by_cases hlt : k < nD
    · obtain ⟨bl, off, rfl, hbl, hcell⟩ := (HRD.out wr hbw).open_ (by rw [i64s_length, HZ.out]; omega)
      have hc1 := hcell k _ (i64s_at (by rw [HZ.out]; exact hlt))
      have hy : D[k]? = some (D[k]?.getD 0) := at_some (by rw [HZ.out]; exact hlt)
      obtain ⟨y, hye⟩ : ∃ y, y = D[k]?.getD 0 := ⟨_, rfl⟩
      rw [← hye] at hc1 hy
      have HNX := Lib.hid (give_next P D f hy)
      have hfind := findHeld_any P a y wr HIW.out.held HEH.out HF.out.h HR.out
      obtain ⟨p, hpe⟩ : ∃ p, p = posI P.hs y := ⟨_, rfl⟩
      rw [← hpe] at hfind
      clear hcell hye hy
      have i0 : (0 : Int) ≤ (k : Int) := by omega
      have i1 : (k : Int) < (nD : Int) := by omega
      by_cases hin : y ∈ P.hs
      · rw [decide_eq_true hin] at hfind
        have HFD := Lib.hid hfind
        have hda := (mem_posI HR.out).1 hin
        rw [← hpe, WkD.hs, List.getElem?_map, ← HEH.out, List.getElem?_map] at hda
        obtain ⟨x, hx⟩ : ∃ x, a.hs[p]? = some x := by
          cases hq : a.hs[p]? with
          | none => rw [hq] at hda; simp at hda
          | some x => exact ⟨x, rfl⟩
        have HN : Hid (giveW P (D.take (k + 1)) f = giveW P (D.take k) f ++ [⟨3, P.i, f, y, x.1.a, x.1.n, x.1.L⟩]) := by
          show _ = _
          rw [HNX.out, lookH_at (x := x.1) HR.out (by show P.H[posI P.hs y]? = some x.1; rw [← hpe, ← HEH.out, List.getElem?_map, hx]; rfl) hin]
        have hxm := List.mem_of_getElem? hx
        have HFX : Hid (x.1.L.length ≤ 1000000) := HF.out.l _ (mem_fst HEH.out hxm)
        have HX := Lib.hid hx
        have hpn : p < nH := by
          have := (List.getElem?_eq_some_iff.1 hx).1
          have h2 := HIW.out.held.row.len
          rw [HOH.out] at h2
          simp only at h2
          omega
        clear hfind hda hx hxm hin hpe
        go_upto_region 7 with (first
          | (refine wpList_load_box rfl 27 _ rfl g rfl (wkC P a) hbx _ Tryz.underlying27 rfl size_wk ?_)
          | (go_at_call 89; refine HFD.out.mono ?_; rintro e w1 ⟨rfl, hb1⟩))
        have hO1 := HO.out.skip hb1
        have HO1 := Lib.hid hO1
        have hbw1 := HT.out _ hO1.touch
        have hbx1 := HBX.out.below hbw1 hg0
        have hin1 := HIN.out _ hbw1
        obtain ⟨bh, ofh, hAH, hbhl, hpn2, hcell⟩ := hin1.held.cells HX.out
        rw [HOH.out] at hAH
        simp only at hAH
        have q0 : w1.cell? ⟨g, 0, none⟩ = some (.int .i64 P.i) := (hbx1.2 0 _ rfl).1
        have q7 : w1.cell? ⟨g, 7, none⟩ = some (.slice (some ⟨bh, ofh, none⟩) nH cH) := by
          have := (hbx1.2 7 _ rfl).1
          rw [HOH.out] at this
          rw [this, Ad.v, hAH]
        have m1 : w1.cell? ⟨bh, ofh + p * 4 + 1, none⟩ = some (.int .i64 x.1.a) := by have := hcell 1 _ rfl; rwa [show ofh + (p * KH.s + 1) = ofh + p * 4 + 1 by show ofh + (p * 4 + 1) = _; omega] at this
        have m2 : w1.cell? ⟨bh, ofh + p * 4 + 2, none⟩ = some (.int .i64 x.1.n) := by have := hcell 2 _ rfl; rwa [show ofh + (p * KH.s + 2) = ofh + p * 4 + 2 by show ofh + (p * 4 + 2) = _; omega] at this
        have m3 : w1.cell? ⟨bh, ofh + p * 4 + 3, none⟩ = some (.slice x.2.A x.2.n x.2.c) := by have := hcell 3 _ rfl; rwa [show ofh + (p * KH.s + 3) = ofh + p * 4 + 3 by show ofh + (p * 4 + 3) = _; omega] at this
        have HSD : Hid (SlIn w1.drew x.2 x.1.L.length (txs x.1.L)) := (hin1.held.sub x (List.mem_of_getElem? HX.out)).drew
        have hgl1 : g < w1.heap.size := hbx1.1
        obtain ⟨ms', hrow, hmap⟩ := hO1.row
        have HRW := Lib.hid hrow
        have HMAP := Lib.hid hmap
        have hwB : B ≤ w1.heap.size := by have := hbw1.size; omega
        have p0 : (0 : Int) ≤ (p : Int) := by omega
        have p1 : (p : Int) < (nH : Int) := by omega
        clear hO1 hbw1 hbx1 hin1 hcell hAH hrow hmap hb1 hbw hbx hc1
        go_region_law (first
          | (refine step_copied (by rfl) (by rfl) (by rfl) (copied_any x.1.a x.1.n x.2 x.1.L _ HSD.out HFX.out) ?_
             rintro e w2 ⟨⟨A', n', c'⟩, rfl, hn', ho', hb'⟩
             obtain rfl : n' = x.1.L.length := hn'
             have hb2 : Below w1.heap.size w1 w2 := ((Below.refl _ _).drew).trans hb'
             refine ⟨_, rfl, ?_⟩
             dsimp only [Ad.v]
             have e0 := (hb2.cell (p := ⟨g, 0, none⟩) hgl1).trans q0
             have e7 := (hb2.cell (p := ⟨g, 7, none⟩) hgl1).trans q7
             have n1 := (hb2.cell (p := ⟨bh, ofh + p * 4 + 1, none⟩) hbhl).trans m1
             have n2 := (hb2.cell (p := ⟨bh, ofh + p * 4 + 2, none⟩) hbhl).trans m2
             have n3 := (hb2.cell (p := ⟨bh, ofh + p * 4 + 3, none⟩) hbhl).trans m3)
          | (refine step_app_elemZ _ (by rfl) _ _ _ (by rfl) B 48 (msgV zeroM zeroA) 18 256 Tryz.underlying73 info_mesZ rfl (by decide) (by decide) _ o'.n (cellsK KM ([] ++ ms')) (by rfl) (ownS_below HRW.out.row (hb2.alloc hb2.size _)) w2.heap.size (KM.cells ⟨3, P.i, f, y, x.1.a, x.1.n, x.1.L⟩ (.slice A' x.1.L.length c')) (by rfl) (by rfl) (cells_new _ _ _) (KM.one _ _ rfl) (by omega) (by have := hb2.size; simp; omega) ?_
             intro g' c4 w7 ho7 hg7 hl7))
        all_goals
          have hpush := HO1.out.push (m := ⟨3, P.i, f, y, x.1.a, x.1.n, x.1.L⟩) (ob := ⟨A', x.1.L.length, c'⟩) (o2 := ⟨some ⟨g', 0, none⟩, o'.n + 1, c4⟩) hwB hb2 ho' rfl hg7 HRW.out HMAP.out ho7 rfl (by
            rcases hl7 with e | e
            · exact .inl e
            · exact .inr ⟨g', rfl, by rw [e]; simp⟩)
          rw [← HN.out] at hpush
          have HPUSH := Lib.hid hpush
          clear hpush ho7 hg7 hl7 ho' hb' hb2 e0 e7 n1 n2 n3
          go_wp2_with fail
          go_roundw
          case rel => exact ⟨k + 1, ⟨some ⟨g', 0, none⟩, o'.n + 1, c4⟩, by go_num, rfl, by omega, by show o'.n + 1 ≤ _; omega, HPUSH.out⟩
          case measure => simp [intOf]; omega
      · rw [decide_eq_false hin] at hfind
        have HFD := Lib.hid hfind
        have HN : Hid (giveW P (D.take (k + 1)) f = giveW P (D.take k) f) := by show _ = _; rw [HNX.out, lookH_no hin, List.append_nil]
        clear hfind hin hpe
        go_wp2_with (first
          | (refine wpList_load_box rfl 27 _ rfl g rfl (wkC P a) hbx _ Tryz.underlying27 rfl size_wk ?_)
          | (go_at_call 89; refine HFD.out.mono ?_; rintro e w1 ⟨rfl, hb1⟩))
        go_roundw
        case rel => exact ⟨k + 1, o', by go_num, rfl, by omega, by omega, by show Outs _ _ _ _ _ _ _; rw [HN.out]; exact HO.out.skip hb1⟩
        case measure => simp [intOf]; omega
    · have i1 : ¬ ((k : Int) < (nD : Int)) := by omega
      have HE : Hid (Outs B w noAd [] (giveW P D f) wr o') := by
        show Outs _ _ _ _ _ _ _
        have := HO.out.base HB0.out
        rwa [List.take_of_length_le (by rw [HZ.out]; omega)] at this
      clear hbw hbx
      go_wp2_with fail
      go_ret
      exact ⟨o', rfl, HE.out⟩

end Go.Proofs.YteepobghdpnabaaGreat
namespace Go.Proofs.YteepobghdpnabaaGreat
open Go.RowKit

theorem idx_look {P : WkD} {d : Int} (h : 0 ≤ idxI P.hs d) : ∃ (p : Nat) (y : HlD), idxI P.hs d = p ∧ P.H[p]? = some y ∧ lookH P.H d = some y := by
 obtain ⟨p, h1, h2, h3⟩ := idxI_ex (idxI_ge.1 h)
 rw [WkD.hs, List.length_map] at h2
 obtain ⟨y, hy⟩ : ∃ y, P.H[p]? = some y := ⟨P.H[p], by simp [h2]⟩
 refine ⟨p, y, h1, hy, ?_⟩
 rw [lookH_is]
 have e : firstI (P.H.map HlD.d) d = some p := by
  have : idxI P.hs d = (p : Int) := h1
  unfold idxI at this
  rw [WkD.hs] at this
  cases hf : firstI (P.H.map HlD.d) d with
  | none => rw [hf] at this; simp only at this; omega
  | some q => rw [hf] at this; simp only at this; congr 1; omega
 rw [e]
 exact hy
theorem idx_none {P : WkD} {d : Int} (h : ¬ 0 ≤ idxI P.hs d) : lookH P.H d = none := lookH_no fun hd => h (idxI_ge.2 hd)
theorem StAt.lenO {g B : Nat} {w : World} {P : WkD} {a : WkA} {l : List OtD} {o : Ad} {ms : List (OtD × Ad)} (h : StAt g B w P a l o ms) : ms.length = l.length := by rw [← h.eO, List.length_map]

end Go.Proofs.YteepobghdpnabaaGreat
