/-
  The walk of 'RealStrange'.
-/
import Derived.Test.YtcfnomnhameleaaRStrangeD
import Derived.Test.YtcfnomnhameleaaRExact
namespace Go.Proofs.Ytcfnomnhameleaa
open Go.RowKit

set_option maxRecDepth 100000 in
set_option maxHeartbeats 16000000 in
theorem realStrange_is {I : BookIs} (K : BookK I) (R : RContracts I) (s : ScrD) (w : World) (h : ScrIn w s) (hfit : ScrFit s) :
    Calls Try.prog 14 #[scrV s] w (Tells w.heap.size w (.bool true)) := by
  have HFIT := Lib.hid hfit
  clear hfit
  obtain ⟨w1, hw1⟩ : ∃ w1, w1 = w.alloc (.cells #[.int .i64 s.N, .slice s.Al s.nl s.cl, .slice s.AM s.nM s.cM, .slice s.AP s.nP s.cP, .slice s.AW s.nW s.cW, .slice s.AX s.nX s.cX] 26) := ⟨_, rfl⟩
  have hb1 : Below w.heap.size w w1 := by rw [hw1]; exact (Below.refl _ _).alloc (Nat.le_refl _) _
  obtain ⟨gs, hgs⟩ : ∃ gs, gs = w.heap.size := ⟨_, rfl⟩
  have bx1 : Box w1 gs (scrC s) := by rw [hw1, hgs]; exact box_new w (scrC s) 26
  have HW := Lib.hid hw1
  have HX : Hid (∀ wX, Below w1.heap.size w1 wX → Box wX gs (scrC s)) := fun wX h => bx1.below h bx1.1
  have HI : Hid (∀ wX, Below w1.heap.size w1 wX → ScrIn wX s) := fun wX hX => h.below (hb1.trans (hX.mono hb1.size))
  have HB1 := Lib.hid hb1
  obtain ⟨nM, hnM⟩ : ∃ nM, s.nM = nM := ⟨_, rfl⟩
  obtain ⟨nP, hnP⟩ : ∃ nP, s.nP = nP := ⟨_, rfl⟩
  have HNM := Lib.hid hnM
  have HNP := Lib.hid hnP
  have HC2 : Hid (∀ wX, Below w1.heap.size w1 wX → wX.cell? ⟨gs, 2, none⟩ = some (.slice s.AM nM s.cM)) := fun wX h => by rw [← hnM]; exact ((HX.out _ h).2 2 _ rfl).1
  have HC3 : Hid (∀ wX, Below w1.heap.size w1 wX → wX.cell? ⟨gs, 3, none⟩ = some (.slice s.AP nP s.cP)) := fun wX h => by rw [← hnP]; exact ((HX.out _ h).2 3 _ rfl).1
  clear hw1 bx1 h hb1 hnM hnP
  unfold scrV
  go_enter Try.func14, Try.ntmps14
  go_upto_region 1 with fail
  rw [← HW.out, ← hgs]
  clear hgs
  obtain ⟨gx, hgx⟩ : ∃ gx, gx = w1.heap.size := ⟨_, rfl⟩
  have HZX := Lib.hid (box_new w1 [.int .i64 0, .slice none 0 0, .slice none 0 0, .slice none 0 0, .slice none 0 0, .slice none 0 0] 26)
  go_wp2_with (first
    | (refine wpList_load_box rfl 26 _ rfl gs rfl (scrC s) (HX.out _ (Below.refl _ _)) _ Try.underlying26 rfl size_scr ?_)
    | (refine wpList_store_box rfl 26 _ _ rfl w1.heap.size 0 (scrC s) [.int .i64 0, .slice none 0 0, .slice none 0 0, .slice none 0 0, .slice none 0 0, .slice none 0 0] (scrC s) rfl rfl HZX.out (by simp [scrC]) rfl size_scr rfl ?_)
    | (refine wpList_run_to rfl 26 rfl (.pointer (some ⟨w1.heap.size, 0, none⟩)) (w1.alloc (.cells #[.int .i64 0, .slice none 0 0, .slice none 0 0, .slice none 0 0, .slice none 0 0, .slice none 0 0] 26)) (by unfold execOp; go_simp; done) ?_))
  intro w2 bx2 T2
  have t2 := T2 (fun k => k = w1.heap.size) rfl
  have hq2 : Below w1.heap.size w1 w2 := ((Below.refl _ _).alloc (Nat.le_refl _) _).trans (t2.below (fun k hk => by rw [hk]; exact Nat.le_refl _) (by simp))
  rw [← hgx] at bx2 ⊢
  obtain ⟨w4, hw4⟩ : ∃ w4, w4 = w2.setCell ⟨gx, 2, none⟩ (.slice none 0 0) := ⟨_, rfl⟩
  have bx4 : Box w4 gx (cx s (.slice none 0 0) (.slice s.AP s.nP s.cP)) := by rw [hw4]; exact bx2.set (j := 2) (by simp [scrC])
  have hq4 : Below w1.heap.size w1 w4 := by rw [hw4]; exact hq2.setCell (by rw [hgx]; exact Nat.le_refl _) _
  have k2 := (bx2.2 2 _ rfl).1
  have f2 := (bx2.2 2 _ rfl).2
  have HST : Hid (StrSt w1 w4.heap.size gx s (.slice none 0 0) 0 [] w4) := ⟨hq4, Nat.le_refl _, bx4.1, by rw [hgx]; exact Nat.le_refl _, bx4, World.ownsRow_nil _ _ _ _, rfl, fun x hx => by simp at hx⟩
  have HW4 := Lib.hid hw4
  clear t2 T2 hq2 bx2 bx4 hgx HZX hw4
  go_upto_region 3 with fail
  rw [← HW4.out]
  clear k2 f2 HW4
  obtain ⟨B, hB⟩ : ∃ B, B = w4.heap.size := ⟨_, rfl⟩
  rw [← hB] at HST
  clear hB
  go_wp2_with fail
  go_loopw [4] (fun i wr => ∃ (k : Nat) (lv : Value) (nL : Nat) (ms : List (MsgD × MsgA)), i = .int .i64 k ∧ k ≤ nM ∧ k ≤ 12 ∧ nL ≤ 2 * k ∧ Hid (StrSt w1 B gx s lv nL ms wr)) (fun i _ => 12 - (intOf i).toNat)
  case atStart => exact ⟨0, _, 0, [], rfl, by omega, by omega, by omega, HST.out⟩
  case round =>
    clear HST hq4
    obtain ⟨k, lv, nL, ms, rfl, hk, hk12, hkL, HS⟩ := hrel
    have hb := HS.out.bel
    have i0 : (0 : Int) ≤ (k : Int) := by omega
    have c2 := HC2.out _ hb
    by_cases hlt : k < nM
    · have i1 : (k : Int) < (nM : Int) := by omega
      by_cases h12 : k < 12
      · have i2 : (k : Int) < 12 := by omega
        obtain ⟨b, off, x, hAM, hx0, hmem, hrg⟩ := (HI.out _ hb).at_ (k := k) (by rw [HNM.out]; exact hlt)
        obtain ⟨m, a⟩ := x
        have HMX : Hid (∀ wX, Below w1.heap.size w1 wX → MsgIn wX m a) := fun wX h => ((HI.out _ h).msgs _ hmem).1
        have HOX : Hid (MsgOk m) := ((HI.out _ hb).msgs _ hmem).2.1
        have HFX : Hid (MsgFew 140737488351232 a) := ((HI.out _ hb).msgs _ hmem).2.2
        obtain ⟨nD, hnD⟩ : ∃ nD, a.nD = nD := ⟨_, rfl⟩
        have HND : Hid (m.D.length = nD) := by show _ = nD; rw [← hnD]; exact (HMX.out _ hb).zD
        have hfit8 : nD * 8 ≤ 140737488351232 := by rw [← HND.out]; exact HFIT.out _ hmem
        have HND2 := Lib.hid hnD
        have HRG := Lib.hid hrg
        rw [hAM] at c2
        clear hAM hmem hrg hx0 hnD
        obtain ⟨gm, hgm⟩ : ∃ gm, gm = wr.heap.size := ⟨_, rfl⟩
        have HZM := Lib.hid (box_new wr (msgC zeroM zeroA) 42)
        go_wp2_with (first
          | (refine wpList_load_mid rfl 42 _ rfl b (off + k * 18) rfl (msgC m a) _ HRG.out Try.underlying42 rfl size_msg ?_)
          | (refine wpList_store_box rfl 42 _ _ rfl wr.heap.size 0 (msgC m a) (msgC zeroM zeroA) (msgC m a) rfl rfl HZM.out (by simp [msgC]) rfl size_msg rfl ?_)
          | (refine wpList_run_to rfl 42 rfl (.pointer (some ⟨wr.heap.size, 0, none⟩)) (wr.alloc (.cells (msgC zeroM zeroA).toArray 42)) (by unfold execOp msgC zeroM zeroA; go_simp; done) ?_))
        intro w2 bxm Tm
        have tm := Tm (fun j => j = wr.heap.size) rfl
        have hq2 : Below wr.heap.size wr w2 := ((Below.refl _ _).alloc (Nat.le_refl _) _).trans (tm.below (fun j hj => by rw [hj]; exact Nat.le_refl _) (by simp))
        rw [← hgm] at bxm ⊢
        have HS2 := Lib.hid (HS.out.below hq2)
        have hb2 := hb.trans (hq2.mono hb.size)
        have HGM : Hid (wr.heap.size ≤ gm) := by rw [hgm]; exact Nat.le_refl _
        have HBM := Lib.hid bxm
        have x17 : w2.cell? ⟨gm, 17, none⟩ = some (.slice a.AD nD a.cD) := by rw [← HND2.out]; exact (bxm.2 17 _ rfl).1
        have HE := Lib.hid (ownS_new w2 w2.heap.size 3 1 0 [] rfl (by simp [maxLen]) (Nat.le_refl _))
        have HRD : Hid (∀ wX, Below w2.heap.size w2 wX → Rd wX a.AD (i64s m.D)) := fun wX h => (HMX.out _ (hb2.trans (h.mono hb2.size))).rD
        have HQ2 := Lib.hid hq2
        clear Tm tm hgm bxm HZM c2 hq2
        go_upto_region 7 with fail
        have hgm2 : gm < w2.heap.size := HBM.out.1
        have x17b : (w2.alloc (.cells #[] 3)).cell? ⟨gm, 17, none⟩ = some (.slice a.AD nD a.cD) := (((Below.refl w2.heap.size w2).alloc (Nat.le_refl _) (.cells #[] 3)).cell (p := ⟨gm, 17, none⟩) hgm2).trans x17
        have HRL := Lib.hid (HRD.out _ ((Below.refl w2.heap.size w2).alloc (Nat.le_refl _) (.cells #[] 3)))
        have HLEN : Hid (nD = (i64s m.D).length) := by show nD = _; rw [i64s_length, HND.out]
        clear x17
        go_wp2_with (at_builtin; refine wpList_app_listW _ rfl _ _ 22 rfl w2.heap.size 3 (.int .i64 0) Try.underlying22 info_i648 rfl _ 0 [] rfl HE.out a.AD nD a.cD (i64s m.D) rfl HLEN.out HRL.out (i64s_one _) (by omega) (by simp) ?_)
        intro v4 w4 ho4 hq4
        have hq24 : Below w2.heap.size w2 w4 := ((Below.refl _ _).alloc (Nat.le_refl _) _).trans hq4
        have ho4b := own_conv ho4 (ys := i64s m.D) (n' := nD) (by simp) (by omega)
        have HO4L := Lib.hid (own_below ho4b ((Below.refl w4.heap.size w4).alloc (Nat.le_refl _) (.cells #[.int .i64 (-1)] 3)))
        have HR4L := Lib.hid (rd_new w4 [.int .i64 (-1)] 3)
        have HQ24 := Lib.hid hq24
        clear x17b ho4 ho4b hq4 hq24 HE HRL
        go_wp2_with (at_builtin; refine wpList_app_listW _ rfl _ _ 22 rfl w2.heap.size 3 (.int .i64 0) Try.underlying22 info_i648 rfl v4 nD (i64s m.D) rfl HO4L.out (some ⟨w4.heap.size, 0, none⟩) 1 1 [.int .i64 (-1)] rfl rfl HR4L.out (by simp [Value.oneCell']) (by omega) (by have := HQ24.out.size; simp; omega) ?_)
        intro v6 w6 ho6 hq6
        have hq26 : Below w2.heap.size w2 w6 := (HQ24.out.alloc HQ24.out.size _).trans hq6
        have ho6b := own_conv ho6 (ys := i64s (m.D ++ [-1])) (n' := nD + 1) (by simp [i64s]) rfl
        obtain ⟨A5, c5, rfl, _, _, _, _, _⟩ := own_val ho6b
        have bx6 := HBM.out.below hq26 hgm2
        have ka := (bx6.2 17 _ rfl).1
        have kf := (bx6.2 17 _ rfl).2
        obtain ⟨w7, hw7⟩ : ∃ w7, w7 = w6.setCell ⟨gm, 17, none⟩ (.slice A5 (nD + 1) c5) := ⟨_, rfl⟩
        have HBM7 : Hid (Box w7 gm (msgC (moreM m) (moreA a A5 (nD + 1) c5))) := by show Box w7 gm _; rw [hw7]; exact bx6.set (j := 17) (by simp [msgC])
        have HO7 : Hid (w7.ownsRow w2.heap.size 3 1 (.slice A5 (nD + 1) c5) (nD + 1) (i64s (m.D ++ [-1]))) := by show w7.ownsRow _ _ _ _ _ _; rw [hw7]; exact own_kept ho6b fun g hg _ => set_block _ (by have := (own_lt ho6b hg).2; omega)
        have HR7 : Hid (Below wr.heap.size wr w7) := by show Below _ _ _; rw [hw7]; exact (HQ2.out.trans (hq26.mono HQ2.out.size)).setCell HGM.out _
        have HS7 := Lib.hid (HS.out.below HR7.out)
        have HF7 : Hid (MsgFree w7 (fun j => j = gx ∨ lv.ownBlock = some j) (moreM m) (moreA a A5 (nD + 1) c5)) := fun wX ht => more_in (HMX.out wX (HS7.out.bel.trans (ht.below (fun j hj => by
          rcases hj with hj | hj
          · rw [hj]; exact HS.out.h1
          · have := (own_lt HS.out.rowL hj).2; have := HS.out.hgx; have := HS.out.h1; omega) HS7.out.bel.size))) (own_kept HO7.out fun g hg hl => ht.block g hl fun hj => by
          have h1 := (own_lt HO7.out hg).2
          have h2 := HQ2.out.size
          rcases hj with hj | hj
          · have := HS.out.box.1; omega
          · have := (own_lt HS.out.rowL hj).1; omega)
        have HW7 := Lib.hid hw7
        clear ho6 ho6b hq6 hq26 bx6 hw7
        go_upto_region 8 with fail
        rw [← HW7.out]
        clear ka kf
        obtain ⟨wa, hwa⟩ : ∃ wa, wa = w7.alloc (.cells (msgC (moreM m) (moreA a A5 (nD + 1) c5) ++ msgC (bareM m.k) zeroA).toArray 42) := ⟨_, rfl⟩
        have hqa : Below w7.heap.size w7 wa := by rw [hwa]; exact (Below.refl _ _).alloc (Nat.le_refl _) _
        have HSA := Lib.hid (HS7.out.below hqa)
        have HFA : Hid (MsgFree wa (fun j => j = gx ∨ lv.ownBlock = some j) (moreM m) (moreA a A5 (nD + 1) c5)) := HF7.out.step (Touch.of hqa) fun _ hj => .inl hj
        have HCA : Hid (∀ i u, (msgC (moreM m) (moreA a A5 (nD + 1) c5) ++ msgC (bareM m.k) zeroA)[i]? = some u → wa.cell? ⟨w7.heap.size, i, none⟩ = some u) := by show ∀ i u, _; rw [hwa]; exact cells_new w7 _ 42
        have HWA := Lib.hid hwa
        have kl := (HS7.out.box.2 2 _ rfl).1
        have x0 : w7.cell? ⟨gm, 0, none⟩ = some (.int .i64 m.k) := (HBM7.out.2 0 _ rfl).1
        clear hqa hwa
        go_wp2_with (first
          | (refine wpList_load_box rfl 42 _ rfl gm rfl (msgC (moreM m) (moreA a A5 (nD + 1) c5)) HBM7.out _ Try.underlying42 rfl size_msg ?_)
          | (refine wpList_build_two rfl _ _ rfl (moreM m) (bareM m.k) (moreA a A5 (nD + 1) c5) zeroA rfl rfl ?_; rw [← HWA.out])
          | (at_builtin; refine wpList_app_two _ rfl _ _ 23 rfl B 42 (msgV zeroM zeroA) 18 256 Try.underlying23 info_mes8 rfl (by decide) (by decide) lv nL (cellsM ms) rfl HSA.out.rowL w7.heap.size _ rfl rfl HCA.out (fun u hu => by
              rcases List.mem_append.1 hu with hu | hu
              · exact one_msg _ _ u hu
              · exact one_msg _ _ u hu) (by omega) HSA.out.hB ?_))
        intro g' c' w8 ho8 hg8 hat8
        have hat2 := hat8
        obtain ⟨hbx8, hs9⟩ := HSA.out.push HFA.out (more_ok HOX.out) (more_few HFX.out (by omega)) (fun wX _ => bare_in m.k wX) (bare_ok HOX.out.wk) (few_zero8 _) ho8 hg8 hat2
        have HS9 := Lib.hid hs9
        have k8 := (hbx8.2 2 _ rfl).1
        have f8 := (hbx8.2 2 _ rfl).2
        clear ho8 hg8 hat8 hat2 hbx8 hs9 kl x0
        go_wp2_with fail
        go_roundw
        case rel => exact ⟨k + 1, _, nL + 2, _, by go_num, by omega, by omega, by omega, HS9.out⟩
        case measure => simp [intOf]; omega
      · have i2 : ¬ ((k : Int) < 12) := by omega
        obtain ⟨s', hbx', hin'⟩ := HS.out.scr (HI.out _ hb)
        have HBX' := Lib.hid hbx'
        have HIN' := Lib.hid hin'
        clear hbx' hin'
        go_wp2_with (refine wpList_load_box rfl 26 _ rfl gx rfl (scrC s') HBX'.out _ Try.underlying26 rfl size_scr ?_)
        refine (realExact_is K R s' _ HIN'.out).mono ?_
        rintro e w9 ⟨rfl, hq9⟩
        have hb9 := hb.trans (hq9.mono hb.size)
        go_wp2_with fail
        go_ret
        exact ⟨rfl, HB1.out.trans (hb9.mono HB1.out.size)⟩
    · have i1 : ¬ ((k : Int) < (nM : Int)) := by omega
      obtain ⟨s', hbx', hin'⟩ := HS.out.scr (HI.out _ hb)
      have HBX' := Lib.hid hbx'
      have HIN' := Lib.hid hin'
      clear hbx' hin'
      go_wp2_with (refine wpList_load_box rfl 26 _ rfl gx rfl (scrC s') HBX'.out _ Try.underlying26 rfl size_scr ?_)
      refine (realExact_is K R s' _ HIN'.out).mono ?_
      rintro e w9 ⟨rfl, hq9⟩
      have hb9 := hb.trans (hq9.mono hb.size)
      go_wp2_with fail
      go_ret
      exact ⟨rfl, HB1.out.trans (hb9.mono HB1.out.size)⟩

end Go.Proofs.Ytcfnomnhameleaa
