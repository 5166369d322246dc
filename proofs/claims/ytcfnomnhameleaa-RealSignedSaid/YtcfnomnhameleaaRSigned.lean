/-
  The walk of 'RealSigned'.
-/
import Derived.Test.YtcfnomnhameleaaRSignD
import Derived.Deep.CutBlock
namespace Go.Proofs.Ytcfnomnhameleaa
open Go.RowKit

set_option maxRecDepth 100000 in
set_option maxHeartbeats 32000000 in
theorem realSigned_is {I : BookIs} (K : BookK I) (R : RContracts I) (s : ScrD) (w : World) (h : ScrIn w s) :
    Calls Try.prog 4 #[scrV s] w (Tells w.heap.size w (.bool true)) := by
  obtain ⟨w1, hw1⟩ : ∃ w1, w1 = w.alloc (.cells #[.int .i64 s.N, .slice s.Al s.nl s.cl, .slice s.AM s.nM s.cM, .slice s.AP s.nP s.cP, .slice s.AW s.nW s.cW, .slice s.AX s.nX s.cX] 26) := ⟨_, rfl⟩
  have hb1 : Below w.heap.size w w1 := by rw [hw1]; exact (Below.refl _ _).alloc (Nat.le_refl _) _
  obtain ⟨gs, hgs⟩ : ∃ gs, gs = w.heap.size := ⟨_, rfl⟩
  have bx1 : Box w1 gs (scrC s) := by rw [hw1, hgs]; exact box_new w (scrC s) 26
  have HW := Lib.hid hw1
  have HX : Hid (∀ wX, Below w1.heap.size w1 wX → Box wX gs (scrC s)) := fun wX h => bx1.below h bx1.1
  have HI : Hid (∀ wX, Below w1.heap.size w1 wX → ScrIn wX s) := fun wX hX => h.below (hb1.trans (hX.mono hb1.size))
  have HB1 := Lib.hid hb1
  clear hw1 bx1 h hb1
  unfold scrV
  go_enter Try.func4, Try.ntmps4
  go_upto_region 1 with fail
  rw [← HW.out, ← hgs]
  clear hgs
  go_wp2_with (refine wpList_load_box rfl 26 _ rfl gs rfl (scrC s) (HX.out _ (Below.refl _ _)) _ Try.underlying26 rfl size_scr ?_)
  refine (heavy8_any s _ (HI.out _ (Below.refl _ _))).mono ?_
  rintro e w2 ⟨hv, rfl, hq2, hli⟩
  cases hv with
  | true =>
    go_wp2_with fail
    go_ret
    exact ⟨rfl, HB1.out.trans (hq2.mono HB1.out.size)⟩
  | false =>
    have HL := Lib.hid (hli rfl)
    clear hli
    obtain ⟨nM, hnM⟩ : ∃ nM, s.nM = nM := ⟨_, rfl⟩
    have HNM := Lib.hid hnM
    have HC2 : Hid (∀ wX, Below w1.heap.size w1 wX → wX.cell? ⟨gs, 2, none⟩ = some (.slice s.AM nM s.cM)) := fun wX h => by rw [← hnM]; exact ((HX.out _ h).2 2 _ rfl).1
    clear hnM
    go_wp2_with fail
    go_loopw [3] (fun i wr => ∃ k : Nat, i = .int .i64 k ∧ k ≤ nM ∧ k ≤ 12 ∧ Below w1.heap.size w1 wr) (fun i _ => 12 - (intOf i).toNat)
    case atStart => exact ⟨0, rfl, by omega, by omega, hq2⟩
    case round =>
      clear hq2
      obtain ⟨k, rfl, hk, hk12, hb⟩ := hrel
      have i0 : (0 : Int) ≤ (k : Int) := by omega
      have c2 := HC2.out _ hb
      by_cases hlt : k < nM
      · have i1 : (k : Int) < (nM : Int) := by omega
        by_cases h12 : k < 12
        · have i2 : (k : Int) < 12 := by omega
          obtain ⟨b, off, x, hAM, hx0, hmem, hrg⟩ := (HI.out _ hb).at_ (k := k) (by rw [HNM.out]; exact hlt)
          obtain ⟨m0, a0⟩ := x
          have HMX : Hid (∀ wX, Below w1.heap.size w1 wX → MsgIn wX m0 a0) := fun wX h => ((HI.out _ h).msgs _ hmem).1
          have HOX : Hid (MsgOk m0) := ((HI.out _ hb).msgs _ hmem).2.1
          have HFX : Hid (MsgFew 1000000 a0) := (HL.out.1 k _ h12 hx0).more (by omega)
          have HCM : Hid (∀ wX, Below w1.heap.size w1 wX → wX.cell? ⟨gs, 2, none⟩ = some (.slice (some ⟨b, off, none⟩) nM s.cM) ∧ wX.rangeAt b (off + k * 18) (msgC m0 a0)) := fun wX h => ⟨by rw [← hAM]; exact HC2.out _ h, fun j v hv => by
            obtain ⟨b2, off2, x2, hAM2, hx2, _, hrg2⟩ := (HI.out _ h).at_ (k := k) (by rw [HNM.out]; exact hlt)
            rw [hAM] at hAM2
            cases hAM2
            rw [hx0] at hx2
            cases hx2
            exact hrg2 j v hv⟩
          clear hAM hmem hrg hx0
          go_wp2_with fail
          refine (K.new _).mono ?_
          rintro e w2 ⟨gb, F0, rfl, hI, hF, hq2⟩
          have hb2 : Below w1.heap.size w1 w2 := hb.trans (hq2.mono hb.size)
          obtain ⟨gr, hgr⟩ : ∃ gr, gr = w2.heap.size := ⟨_, rfl⟩
          obtain ⟨w3, hw3⟩ : ∃ w3, w3 = w2.alloc (.cells #[.slice none 0 0, .slice none 0 0, .slice none 0 0] 33) := ⟨_, rfl⟩
          have hq3 : Below w2.heap.size w2 w3 := by rw [hw3]; exact (Below.refl _ _).alloc (Nat.le_refl _) _
          have hP3 : Pair I w1.heap.size gb gr F0 (fun k => k = gr) [] [] [] [] w3 := by
            refine ⟨⟨K.kept hI hq3.size fun k hk => hq3.block k (K.lt hI k hk), fun k hk => Nat.le_trans hb.size (hF k hk)⟩, ⟨by rw [hw3, hgr]; exact ref_new w2, fun k hk => by have := hb2.size; omega⟩, fun k hk e => ?_⟩
            have := K.lt hI k hk
            omega
          have hb3 : Below w1.heap.size w1 w3 := hb2.trans (hq3.mono hb2.size)
          have HP3 := Lib.hid hP3
          have HB3L := Lib.hid (show Below w1.heap.size w1 (w2.alloc (.cells #[.slice none 0 0, .slice none 0 0, .slice none 0 0] 33)) by rw [← hw3]; exact hb3)
          have c2b := (HCM.out _ HB3L.out).1
          have HW3 := Lib.hid hw3
          have HGR := Lib.hid hgr
          clear hI hF hq2 hq3 hP3 c2 hw3 hgr
          go_wp2_with (refine wpList_load_mid rfl 42 _ rfl b (off + k * 18) rfl (msgC m0 a0) _ ((HCM.out _ HB3L.out).2) Try.underlying42 rfl size_msg ?_)
          rw [← HW3.out, ← HGR.out]
          clear c2b HW3 HB3L
          refine (put_is K m0 a0 _ HP3.out hb3.size (HMX.out _ hb3) HFX.out (by simp) (fun y hy => by simp at hy)).mono ?_
          rintro e w4 ⟨a, F4, G4, rfl, hP4, ht4, hF4, hG4, hn4, ha4, hf4⟩
          have hb4 : Below w1.heap.size w1 w4 := hb3.trans (ht4.below (fun j hj => by
            rcases hj with hj | hj
            · exact HP3.out.1.2 j hj
            · exact HP3.out.2.1.2 j hj) hb3.size)
          have HF4 := Lib.hid hf4
          have HPF := Lib.hid hP4.1
          have HN4 := Lib.hid hn4
          have HA4 := Lib.hid ha4
          obtain ⟨m, hm⟩ : ∃ m, m = putM [] m0 := ⟨_, rfl⟩
          have HM := Lib.hid hm
          rw [← hm] at HN4 ⊢
          have HOK : Hid (MsgOk m) := by show MsgOk m; rw [hm]; exact putM_ok HOX.out (by simp)
          clear hP4 ht4 hF4 hG4 hn4 ha4 hf4 HP3 hm
          obtain ⟨gm, hgm⟩ : ∃ gm, gm = w4.heap.size := ⟨_, rfl⟩
          have HZgm := Lib.hid (box_new w4 (msgC zeroM zeroA) 42)
          go_wp2_with (first
            | (refine wpList_store_box rfl 42 _ _ rfl w4.heap.size 0 (msgC m a) (msgC zeroM zeroA) (msgC m a) rfl rfl HZgm.out (by simp [msgC]) rfl size_msg rfl ?_)
            | (refine wpList_run_to rfl 42 rfl (.pointer (some ⟨w4.heap.size, 0, none⟩)) (w4.alloc (.cells (msgC zeroM zeroA).toArray 42)) (by unfold execOp msgC zeroM zeroA; go_simp; done) ?_))
          intro w5 bxgm Tgm
          have tgm := Tgm (fun k => k = w4.heap.size) rfl
          have hqw5 : Below w4.heap.size w4 w5 := ((Below.refl _ _).alloc (Nat.le_refl _) _).trans (tgm.below (fun k hk => by rw [hk]; exact Nat.le_refl _) (by simp))
          rw [← hgm] at bxgm ⊢
          clear Tgm tgm HZgm
          have hb5 := hb4.trans (hqw5.mono hb4.size)
          have hgmF : ¬ F4 gm := fun h => by have := K.lt HPF.out.1 gm h; omega
          have HST5 : Hid (SigSt I w1 gb gm m a F4 (putLB [] m0) [] none [] w5) := ⟨K.kept HPF.out.1 hqw5.size fun k hk => hqw5.block k (K.lt HPF.out.1 k hk), hb5, HPF.out.2, bxgm, hgmF, (HN4.out.below hqw5).free fun k hk hh => (HA4.out k hh).1 hk, fun _ _ => Rd.nil _ _⟩
          clear hqw5 hgm bxgm hgmF HPF HN4 HA4
          go_upto_region 12 with fail
          go_cut [65] from 43 to 65 (fun v wx => v = .bool (idleB m) ∧ Below w5.heap.size w5 wx)
          case first =>
            go_wp2_with (refine wpList_load_box rfl 42 _ rfl gm rfl (msgC m a) HST5.out.box _ Try.underlying42 rfl size_msg ?_)
            refine (rmsg_is (messB m 4) m a 4 _ rfl HST5.out.free.here HF4.out).mono ?_
            rintro e w6 ⟨rfl, hq6⟩
            have hst6 := HST5.out.below K hq6
            have x0 := (hst6.box.2 0 _ rfl).1
            cases hmv : messB m 4 with
            | false =>
              have HN : Hid (idleB m = true) := by show idleB m = true; unfold idleB; rw [hmv]; rfl
              clear hmv
              go_wp2_with fail
              go_meet
              exact ⟨by rw [HN.out], hq6⟩
            | true =>
              have HMV := Lib.hid hmv
              clear hmv
              have hid : idleB m = !decide (m.k = 1 ∨ m.k = 3 ∨ m.k = 4 ∨ m.k = 6) := by unfold idleB; rw [HMV.out, Bool.true_and]
              have HID := Lib.hid hid
              clear hid
              by_cases hk : m.k = 4
              · have HN : Hid (idleB m = false) := by show idleB m = false; rw [HID.out, decide_eq_true (by omega)]; rfl
                have e4 : (m.k != 4) = false := by simp [hk]
                clear hk
                go_wp2_with fail
                go_meet
                exact ⟨by rw [HN.out], hq6⟩
              have n4 := Lib.hid hk
              have e4 : (m.k != 4) = true := by simp [n4.out]
              clear hk
              clear e4
              by_cases hk : m.k = 6
              · have HN : Hid (idleB m = false) := by show idleB m = false; rw [HID.out, decide_eq_true (by omega)]; rfl
                have e4 : (m.k != 4) = true := by simp [hk]
                have e6 : (m.k != 6) = false := by simp [hk]
                clear hk
                go_wp2_with fail
                go_meet
                exact ⟨by rw [HN.out], hq6⟩
              have n6 := Lib.hid hk
              have e6 : (m.k != 6) = true := by simp [n6.out]
              clear hk
              clear e6
              by_cases hk : m.k = 1
              · have HN : Hid (idleB m = false) := by show idleB m = false; rw [HID.out, decide_eq_true (by omega)]; rfl
                have e4 : (m.k != 4) = true := by simp [hk]
                have e6 : (m.k != 6) = true := by simp [hk]
                have e1 : (m.k != 1) = false := by simp [hk]
                clear hk
                go_wp2_with fail
                go_meet
                exact ⟨by rw [HN.out], hq6⟩
              have n1 := Lib.hid hk
              have e1 : (m.k != 1) = true := by simp [n1.out]
              clear hk
              clear e1
              by_cases hk : m.k = 3
              · have HN : Hid (idleB m = false) := by show idleB m = false; rw [HID.out, decide_eq_true (by omega)]; rfl
                have e4 : (m.k != 4) = true := by simp [hk]
                have e6 : (m.k != 6) = true := by simp [hk]
                have e1 : (m.k != 1) = true := by simp [hk]
                have e3 : (m.k != 3) = false := by simp [hk]
                clear hk
                go_wp2_with fail
                go_meet
                exact ⟨by rw [HN.out], hq6⟩
              have n3 := Lib.hid hk
              have e3 : (m.k != 3) = true := by simp [n3.out]
              clear hk
              clear e3
              have e4 : (m.k != 4) = true := by simp [n4.out]
              have e6 : (m.k != 6) = true := by simp [n6.out]
              have e1 : (m.k != 1) = true := by simp [n1.out]
              have e3 : (m.k != 3) = true := by simp [n3.out]
              have HN : Hid (idleB m = true) := by show idleB m = true; rw [HID.out, decide_eq_false (by rintro (h | h | h | h); exact n1.out h; exact n3.out h; exact n4.out h; exact n6.out h)]; rfl
              go_wp2_with fail
              go_meet
              exact ⟨by rw [HN.out], hq6⟩
          case rest =>
            obtain ⟨hcv, hq6⟩ := hcut
            have hst6 := HST5.out.below K hq6
            cases hid : idleB m with
            | true =>
              rw [hid] at hcv
              subst hcv
              clear hid
              go_wp2_with fail
              go_roundw
              case rel => exact ⟨k + 1, by go_num, by omega, by omega, hst6.bel⟩
              case measure => simp [intOf]; omega
            | false =>
              rw [hid] at hcv
              subst hcv
              obtain ⟨hmv, hsk⟩ := idle_no hid
              have HMV := Lib.hid hmv
              have HSK := Lib.hid hsk
              have hpf := put_first (by rw [← HM.out]; exact hmv) (by rw [← HM.out]; exact hsk)
              rw [← HM.out] at hpf
              have HDG := Lib.hid hpf.1
              rw [hpf.2] at hst6 HST5
              have HST6 := Lib.hid hst6
              have HWO := Lib.hid (who_ok hmv hsk)
              clear hid hmv hsk hpf
              go_upto_region 13 with fail
              have hxd : Below wc.heap.size wc wc.drew := (Below.refl _ _).drew
              obtain ⟨w7, hw7⟩ : ∃ w7, w7 = (wc.alloc (.cells #[.int .i64 m.f] 3)).drew := ⟨_, rfl⟩
              have hx7 : Below wc.heap.size wc w7 := by rw [hw7]; exact ((Below.refl _ _).alloc (Nat.le_refl _) _).drew
              have HST7 := Lib.hid (HST6.out.below K hx7)
              have HWF : Hid (RdFree w7 F4 (some ⟨wc.heap.size, 0, none⟩) [m.f]) := by show RdFree w7 F4 _ _; rw [hw7]; exact one_free (w := wc.drew) fun k hk => K.lt HST6.out.bk k hk
              have HW7 := Lib.hid hw7
              clear hw7
              refine wp_region_held_drew (S := fun w' => Below wc.heap.size wc w') (by kernel_rfl) hxd (fun _ => ?_)
              refine ztake_0 (v := ?vv1) (by kernel_rfl) (by kernel_rfl) (by kernel_rfl) (fun _ _ _ h => h) (Or.inl ⟨by rfl, ?hy1⟩) hxd ?_
              case hy1 =>
                intro wX hSw
                have hbx := (HST6.out.below K hSw).box
                have x3 := (hbx.2 3 _ rfl).1
                have x1 := (hbx.2 1 _ rfl).1
                go_simp
                try with_reducible rfl
              try simp only [Act.put, List.setIfInBounds_toArray, List.set_cons_zero, List.set_cons_succ]
              refine ztake_1 (v := ?vv2) (by kernel_rfl) (by kernel_rfl) (by kernel_rfl) (fun _ _ _ h => h) (Or.inl ⟨by rfl, ?hy2⟩) hxd ?_
              case hy2 =>
                intro wX hSw
                have hbx := (HST6.out.below K hSw).box
                have x3 := (hbx.2 3 _ rfl).1
                have x1 := (hbx.2 1 _ rfl).1
                go_simp
                try with_reducible rfl
              try simp only [Act.put, List.setIfInBounds_toArray, List.set_cons_zero, List.set_cons_succ]
              refine ztake_2 (v := ?vv3) (by kernel_rfl) (by kernel_rfl) (by kernel_rfl) (fun _ _ _ h => h) (Or.inl ⟨by rfl, ?hy3⟩) hxd ?_
              case hy3 =>
                intro wX hSw
                have hbx := (HST6.out.below K hSw).box
                have x3 := (hbx.2 3 _ rfl).1
                have x1 := (hbx.2 1 _ rfl).1
                go_simp
                try with_reducible rfl
              try simp only [Act.put, List.setIfInBounds_toArray, List.set_cons_zero, List.set_cons_succ]
              refine ztake_3 (v := ?vv4) (by kernel_rfl) (by kernel_rfl) (by kernel_rfl) (fun _ _ _ h => h) (Or.inl ⟨by rfl, ?hy4⟩) hxd ?_
              case hy4 =>
                intro wX hSw
                have hbx := (HST6.out.below K hSw).box
                have x3 := (hbx.2 3 _ rfl).1
                have x1 := (hbx.2 1 _ rfl).1
                go_simp
                try with_reducible rfl
              try simp only [Act.put, List.setIfInBounds_toArray, List.set_cons_zero, List.set_cons_succ]
              refine ztake_5 (v := ?vv5) (by kernel_rfl) (by kernel_rfl) (by kernel_rfl) (fun _ _ _ h => h) (Or.inl ⟨by rfl, ?hy5⟩) hxd ?_
              case hy5 =>
                intro wX hSw
                have hbx := (HST6.out.below K hSw).box
                have x3 := (hbx.2 3 _ rfl).1
                have x1 := (hbx.2 1 _ rfl).1
                go_simp
                try with_reducible rfl
              try simp only [Act.put, List.setIfInBounds_toArray, List.set_cons_zero, List.set_cons_succ]
              refine zready_4 (by kernel_rfl) ?_
              intro KQ hK
              rw [if_pos (by rfl)]
              unfold Oper.wp execOp
              go_simp
              rw [← HW7.out]
              refine hK.out _ _ hx7 (fun _ => ?_)
              clear hK KQ
              try simp only [Act.put, List.setIfInBounds_toArray, List.set_cons_zero, List.set_cons_succ]
              refine ztake_6 (v := ?vv6) (by kernel_rfl) (by kernel_rfl) (by kernel_rfl) (fun _ _ _ h => h) (Or.inl ⟨by rfl, ?hy6⟩) hx7 ?_
              case hy6 =>
                intro wX hSw
                go_simp
                try with_reducible rfl
              try simp only [Act.put, List.setIfInBounds_toArray, List.set_cons_zero, List.set_cons_succ]
              refine wpAnyH_done (by kernel_rfl) ?_ _
              have x0 := (HST7.out.box.2 0 _ rfl).1
              go_upto_if 73 with fail
              clear x0
              go_cut [7, 8] from 74 to 86 (fun dv wv wx => ∃ (bw ow nw cw : Nat), dv = .int .i64 (dgM m) ∧ wv = .slice (some ⟨bw, ow, none⟩) nw cw ∧ nw ≤ cw ∧ cw ≤ maxLen ∧ Hid ((whoM m).length = nw) ∧ Hid (SigSt I w1 gb gm m a F4 [rawM m] [] (some ⟨bw, ow, none⟩) (whoM m) wx))
              case first =>
                by_cases h6 : m.k = 6
                · have e6 : (m.k == 6) = true := by simp [h6]
                  have HD : Hid (dgM m = m.cd) := by show dgM m = m.cd; rw [dgM, if_pos h6]
                  have HWH : Hid (whoM m = m.cS) := by show whoM m = m.cS; rw [whoM, if_pos h6]
                  have HPOS : Hid (0 < m.cS.length) := by
                    have h := (messP HMV.out).2.1
                    have h := form_cert8 h h6
                    show 0 < m.cS.length
                    omega
                  clear h6
                  go_upto_region 15 with fail
                  have hyd : Below w7.heap.size w7 w7.drew := (Below.refl _ _).drew
                  refine wp_region_held_drew (S := fun w' => Below w7.heap.size w7 w') (by kernel_rfl) hyd (fun _ => ?_)
                  refine ztake_0 (v := ?vv7) (by kernel_rfl) (by kernel_rfl) (by kernel_rfl) (fun _ _ _ h => h) (Or.inl ⟨by rfl, ?hy7⟩) hyd ?_
                  case hy7 =>
                    intro wX hSw
                    have hbx := (HST7.out.below K hSw).box
                    have x15 := (hbx.2 15 _ rfl).1
                    have x16 := (hbx.2 16 _ rfl).1
                    go_simp
                    try with_reducible rfl
                  try simp only [Act.put, List.setIfInBounds_toArray, List.set_cons_zero, List.set_cons_succ]
                  refine ztake_1 (v := ?vv8) (by kernel_rfl) (by kernel_rfl) (by kernel_rfl) (fun _ _ _ h => h) (Or.inl ⟨by rfl, ?hy8⟩) hyd ?_
                  case hy8 =>
                    intro wX hSw
                    have hbx := (HST7.out.below K hSw).box
                    have x15 := (hbx.2 15 _ rfl).1
                    have x16 := (hbx.2 16 _ rfl).1
                    go_simp
                    try with_reducible rfl
                  try simp only [Act.put, List.setIfInBounds_toArray, List.set_cons_zero, List.set_cons_succ]
                  refine ztake_2 (v := ?vv9) (by kernel_rfl) (by kernel_rfl) (by kernel_rfl) (fun _ _ _ h => h) (Or.inl ⟨by rfl, ?hy9⟩) hyd ?_
                  case hy9 =>
                    intro wX hSw
                    have hbx := (HST7.out.below K hSw).box
                    have x15 := (hbx.2 15 _ rfl).1
                    have x16 := (hbx.2 16 _ rfl).1
                    go_simp
                    try with_reducible rfl
                  try simp only [Act.put, List.setIfInBounds_toArray, List.set_cons_zero, List.set_cons_succ]
                  refine ztake_3 (v := ?vv10) (by kernel_rfl) (by kernel_rfl) (by kernel_rfl) (fun _ _ _ h => h) (Or.inl ⟨by rfl, ?hy10⟩) hyd ?_
                  case hy10 =>
                    intro wX hSw
                    have hbx := (HST7.out.below K hSw).box
                    have x15 := (hbx.2 15 _ rfl).1
                    have x16 := (hbx.2 16 _ rfl).1
                    go_simp
                    try with_reducible rfl
                  try simp only [Act.put, List.setIfInBounds_toArray, List.set_cons_zero, List.set_cons_succ]
                  refine ztake_4 (v := ?vv11) (by kernel_rfl) (by kernel_rfl) (by kernel_rfl) (fun _ _ _ h => h) (Or.inl ⟨by rfl, ?hy11⟩) hyd ?_
                  case hy11 =>
                    intro wX hSw
                    have hbx := (HST7.out.below K hSw).box
                    have x15 := (hbx.2 15 _ rfl).1
                    have x16 := (hbx.2 16 _ rfl).1
                    go_simp
                    try with_reducible rfl
                  try simp only [Act.put, List.setIfInBounds_toArray, List.set_cons_zero, List.set_cons_succ]
                  refine ztake_5 (v := ?vv12) (by kernel_rfl) (by kernel_rfl) (by kernel_rfl) (fun _ _ _ h => h) (Or.inl ⟨by rfl, ?hy12⟩) hyd ?_
                  case hy12 =>
                    intro wX hSw
                    have hbx := (HST7.out.below K hSw).box
                    have x15 := (hbx.2 15 _ rfl).1
                    have x16 := (hbx.2 16 _ rfl).1
                    go_simp
                    try with_reducible rfl
                  try simp only [Act.put, List.setIfInBounds_toArray, List.set_cons_zero, List.set_cons_succ]
                  refine ztake_6 (v := ?vv13) (by kernel_rfl) (by kernel_rfl) (by kernel_rfl) (fun _ _ _ h => h) (Or.inl ⟨by rfl, ?hy13⟩) hyd ?_
                  case hy13 =>
                    intro wX hSw
                    have hbx := (HST7.out.below K hSw).box
                    have x15 := (hbx.2 15 _ rfl).1
                    have x16 := (hbx.2 16 _ rfl).1
                    go_simp
                    try with_reducible rfl
                  try simp only [Act.put, List.setIfInBounds_toArray, List.set_cons_zero, List.set_cons_succ]
                  refine ztake_7 (v := ?vv14) (by kernel_rfl) (by kernel_rfl) (by kernel_rfl) (fun _ _ _ h => h) (Or.inl ⟨by rfl, ?hy14⟩) hyd ?_
                  case hy14 =>
                    intro wX hSw
                    have hbx := (HST7.out.below K hSw).box
                    have x15 := (hbx.2 15 _ rfl).1
                    have x16 := (hbx.2 16 _ rfl).1
                    go_simp
                    try with_reducible rfl
                  try simp only [Act.put, List.setIfInBounds_toArray, List.set_cons_zero, List.set_cons_succ]
                  refine wpAnyH_done (by kernel_rfl) ?_ _
                  have hst8 := HST7.out.below K hyd
                  have qi := hst8.free.here
                  obtain ⟨bw, ow, hAS, _, _⟩ := qi.rcS.open_ (by rw [i64s_length]; exact HPOS.out)
                  rw [hAS]
                  go_wp2_with fail
                  go_meet
                  refine ⟨bw, ow, _, _, by rw [HD.out], rfl, qi.kcS, qi.xcS, by show (whoM m).length = _; rw [HWH.out]; exact qi.zcS, hst8.turn ?_⟩
                  rw [HWH.out, ← hAS]
                  exact fun w' ht => (hst8.free w' ht).rcS
                · have e6 : (m.k == 6) = false := by simp [h6]
                  have HD : Hid (dgM m = m.d) := by show dgM m = m.d; rw [dgM, if_neg h6]
                  by_cases h4 : m.k = 4
                  · have e4 : (m.k != 4) = false := by simp [h4]
                    have HWH : Hid (whoM m = [m.f]) := by show whoM m = [m.f]; rw [whoM, if_neg h6, if_pos h4]
                    have x0 := (HST7.out.box.2 0 _ rfl).1
                    clear h6 h4
                    go_wp2_with fail
                    go_meet
                    exact ⟨wc.heap.size, 0, 1, 1, by rw [HD.out], rfl, Nat.le_refl _, by simp [maxLen], by show (whoM m).length = 1; rw [HWH.out]; rfl, by rw [HWH.out]; exact HST7.out.turn HWF.out⟩
                  · have e4 : (m.k != 4) = true := by simp [h4]
                    have HWH : Hid (whoM m = [m.ba]) := by show whoM m = [m.ba]; rw [whoM, if_neg h6, if_neg h4]
                    have x0 := (HST7.out.box.2 0 _ rfl).1
                    have x4 := (HST7.out.box.2 4 _ rfl).1
                    have HWF8 := Lib.hid (one_free (w := w7) (F := F4) (x := m.ba) fun k hk => K.lt HST7.out.bk k hk)
                    have HST8 := Lib.hid (HST7.out.below K ((Below.refl w7.heap.size w7).alloc (Nat.le_refl _) (.cells #[.int .i64 m.ba] 3)))
                    clear h6 h4
                    go_wp2_with fail
                    go_meet
                    exact ⟨w7.heap.size, 0, 1, 1, by rw [HD.out], rfl, Nat.le_refl _, by simp [maxLen], by show (whoM m).length = 1; rw [HWH.out]; rfl, by rw [HWH.out]; exact HST8.out.turn HWF8.out⟩
              case rest =>
                obtain ⟨bw, ow, nw, cw, hdv, rfl, hnc, hcm, HNW, HSTW⟩ := hcut
                rw [HDG.out] at hdv
                subst hdv
                clear HST6 HST7 HWF HST5
                have hnw16 : nw ≤ 16 := by rw [← HNW.out]; exact HWO.out.few
                go_wp2_with fail
                go_loopw [9] (fun i wr => ∃ (j : Nat) (F : Nat → Prop), i = .int .i64 j ∧ j ≤ nw ∧ Hid (SigSt I w1 gb gm m a F [rawM m] (sg (whoM m) j) (some ⟨bw, ow, none⟩) (whoM m) wr)) (fun i _ => nw - (intOf i).toNat)
                case atStart => exact ⟨0, _, rfl, by omega, HSTW.out⟩
                case round =>
                  clear HSTW
                  obtain ⟨j, F, rfl, hj, HS⟩ := hrel
                  have j0 : (0 : Int) ≤ (j : Int) := by omega
                  by_cases hjn : j < nw
                  · have j1 : (j : Int) < (nw : Int) := by omega
                    obtain ⟨who, hwho⟩ : ∃ who, (whoM m)[j]? = some who := ⟨(whoM m)[j]'(by rw [HNW.out]; exact hjn), by simp [HNW.out, hjn]⟩
                    have HWHO := Lib.hid hwho
                    have hfit := HWO.out.fit who (List.mem_of_getElem? hwho)
                    have HR1 := Lib.hid (real_none HMV.out HSK.out HDG.out (k := j) (by rw [HNW.out]; exact hjn))
                    have HR2 := Lib.hid (real_all HMV.out HSK.out HDG.out j)
                    have HR3 := Lib.hid (real_last HMV.out HSK.out HDG.out j)
                    have HSL : Hid ((sg (whoM m) j).length ≤ 1000) := by have := sg_len (whoM m) j; have := HNW.out; show _ ≤ 1000; omega
                    obtain ⟨cl, hcl⟩ : ∃ cl, cl = sg (whoM m) j := ⟨_, rfl⟩
                    have hsub : IntKind.i64.wrap ((nw : Int) - 1) = (nw : Int) - 1 := IntWalk.i64_in _ (by omega)
                    have hsub2 : wrap64 ((nw : Int) - 1) = (nw : Int) - 1 := IntWalk.wrap64_in _ (by omega)
                    clear hwho hcl
                    go_upto_region 21 with fail
                    have hxd : Below wr.heap.size wr wr.drew := (Below.refl _ _).drew
                    refine wp_region_held_drew (S := fun w' => Below wr.heap.size wr w') (by kernel_rfl) hxd (fun _ => ?_)
                    refine ztake_0 (v := ?vv15) (by kernel_rfl) (by kernel_rfl) (by kernel_rfl) (fun _ _ _ h => h) (Or.inl ⟨by rfl, ?hy15⟩) hxd ?_
                    case hy15 =>
                      intro wX hSw
                      go_simp
                      try with_reducible rfl
                    try simp only [Act.put, List.setIfInBounds_toArray, List.set_cons_zero, List.set_cons_succ]
                    refine ztake_1 (by kernel_rfl) (by kernel_rfl) (by kernel_rfl) (fun _ _ _ h => h) (yieldsIf_load_mid rfl 42 _ rfl gm 0 rfl (msgC m a) _ (fun w' h => box_range (HS.out.below K h).box) Try.underlying42 rfl size_msg) hxd ?_
                    try simp only [Act.put, List.setIfInBounds_toArray, List.set_cons_zero, List.set_cons_succ]
                    refine zready_2 (by kernel_rfl) ?_
                    intro KQ hK
                    rw [if_pos (by rfl)]
                    try go_simp
                    refine (R.check 7 gb [rawM m] (sg (whoM m) j) none 0 0 [] m a 4 _ (HS.out.below K hxd).bk HR1.out (HS.out.below K hxd).free.here HOK.out HF4.out rfl (Rd.nil _ _) (by omega) HSL.out (by simp)).mono ?_
                    rintro e w2 ⟨rfl, hx2q⟩
                    have hx2 : Below wr.heap.size wr w2 := hxd.trans (hx2q.mono hxd.size)
                    clear hx2q
                    refine hK.out _ _ hx2 (fun _ => ?_)
                    clear hK KQ
                    try simp only [Act.put, List.setIfInBounds_toArray, List.set_cons_zero, List.set_cons_succ]
                    refine zready_3 (by kernel_rfl) ?_
                    intro KQ hK
                    rw [if_pos (by rfl)]
                    try go_simp
                    refine (num8_any _ _).mono ?_
                    rintro e w' ⟨rfl, rfl⟩
                    refine hK.out _ _ hx2 (fun _ => ?_)
                    clear hK KQ
                    try simp only [Act.put, List.setIfInBounds_toArray, List.set_cons_zero, List.set_cons_succ]
                    refine ztake_4 (v := ?vv16) (by kernel_rfl) (by kernel_rfl) (by kernel_rfl) (fun _ _ _ h => h) (Or.inl ⟨by rfl, ?hy16⟩) hx2 ?_
                    case hy16 =>
                      intro wX hSw
                      go_simp
                      try with_reducible rfl
                    try simp only [Act.put, List.setIfInBounds_toArray, List.set_cons_zero, List.set_cons_succ]
                    refine ztake_5 (v := ?vv17) (by kernel_rfl) (by kernel_rfl) (by kernel_rfl) (fun _ _ _ h => h) (Or.inl ⟨by rfl, ?hy17⟩) hx2 ?_
                    case hy17 =>
                      intro wX hSw
                      go_simp
                      try with_reducible rfl
                    try simp only [Act.put, List.setIfInBounds_toArray, List.set_cons_zero, List.set_cons_succ]
                    refine ztake_6 (v := ?vv18) (by kernel_rfl) (by kernel_rfl) (by kernel_rfl) (fun _ _ _ h => h) (Or.inl ⟨by rfl, ?hy18⟩) hx2 ?_
                    case hy18 =>
                      intro wX hSw
                      go_simp
                      try with_reducible rfl
                    try simp only [Act.put, List.setIfInBounds_toArray, List.set_cons_zero, List.set_cons_succ]
                    refine ztake_7 (v := ?vv19) (by kernel_rfl) (by kernel_rfl) (by kernel_rfl) (fun _ _ _ h => h) (Or.inl ⟨by rfl, ?hy19⟩) hx2 ?_
                    case hy19 =>
                      intro wX hSw
                      go_simp
                      try with_reducible rfl
                    try simp only [Act.put, List.setIfInBounds_toArray, List.set_cons_zero, List.set_cons_succ]
                    refine ztake_8 (by kernel_rfl) (by kernel_rfl) (by kernel_rfl) (fun _ _ _ h => h) (yieldsIf_load_mid rfl 42 _ rfl gm 0 rfl (msgC m a) _ (fun w' h => box_range (HS.out.below K h).box) Try.underlying42 rfl size_msg) hx2 ?_
                    try simp only [Act.put, List.setIfInBounds_toArray, List.set_cons_zero, List.set_cons_succ]
                    refine zready_9 (by kernel_rfl) ?_
                    intro KQ hK
                    rw [if_pos (by rfl)]
                    try go_simp
                    refine (R.check 0 gb [rawM m] (sg (whoM m) j) (some ⟨bw, ow, none⟩) cw nw (whoM m) m a 4 _ (HS.out.below K hx2).bk HR2.out (HS.out.below K hx2).free.here HOK.out HF4.out HNW.out (HS.out.below K hx2).who.here (by omega) HSL.out (by simp)).mono ?_
                    rintro e w3 ⟨rfl, hx3q⟩
                    have hx3 : Below wr.heap.size wr w3 := hx2.trans (hx3q.mono hx2.size)
                    clear hx3q
                    refine hK.out _ _ hx3 (fun _ => ?_)
                    clear hK KQ
                    try simp only [Act.put, List.setIfInBounds_toArray, List.set_cons_zero, List.set_cons_succ]
                    refine zready_10 (by kernel_rfl) ?_
                    intro KQ hK
                    rw [if_pos (by rfl)]
                    try go_simp
                    refine (num8_any _ _).mono ?_
                    rintro e w' ⟨rfl, rfl⟩
                    refine hK.out _ _ hx3 (fun _ => ?_)
                    clear hK KQ
                    try simp only [Act.put, List.setIfInBounds_toArray, List.set_cons_zero, List.set_cons_succ]
                    refine ztake_11 (v := ?vv20) (by kernel_rfl) (by kernel_rfl) (by kernel_rfl) (fun _ _ _ h => h) (Or.inl ⟨by rfl, ?hy20⟩) hx3 ?_
                    case hy20 =>
                      intro wX hSw
                      go_simp
                      try with_reducible rfl
                    try simp only [Act.put, List.setIfInBounds_toArray, List.set_cons_zero, List.set_cons_succ]
                    refine ztake_12 (v := ?vv21) (by kernel_rfl) (by kernel_rfl) (by kernel_rfl) (fun _ _ _ h => h) (Or.inl ⟨by rfl, ?hy21⟩) hx3 ?_
                    case hy21 =>
                      intro wX hSw
                      go_simp
                      try with_reducible rfl
                    try simp only [Act.put, List.setIfInBounds_toArray, List.set_cons_zero, List.set_cons_succ]
                    refine ztake_13 (v := ?vv22) (by kernel_rfl) (by kernel_rfl) (by kernel_rfl) (fun _ _ _ h => h) (Or.inl ⟨by rfl, ?hy22⟩) hx3 ?_
                    case hy22 =>
                      intro wX hSw
                      go_simp
                      try with_reducible rfl
                    try simp only [Act.put, List.setIfInBounds_toArray, List.set_cons_zero, List.set_cons_succ]
                    refine ztake_14 (v := ?vv23) (by kernel_rfl) (by kernel_rfl) (by kernel_rfl) (fun _ _ _ h => h) (Or.inl ⟨by rfl, ?hy23⟩) hx3 ?_
                    case hy23 =>
                      intro wX hSw
                      go_simp
                      try with_reducible rfl
                    try simp only [Act.put, List.setIfInBounds_toArray, List.set_cons_zero, List.set_cons_succ]
                    refine ztake_15 (v := ?vv24) (by kernel_rfl) (by kernel_rfl) (by kernel_rfl) (fun _ _ _ h => h) (Or.inl ⟨by rfl, ?hy24⟩) hx3 ?_
                    case hy24 =>
                      intro wX hSw
                      go_simp
                      try with_reducible rfl
                    try simp only [Act.put, List.setIfInBounds_toArray, List.set_cons_zero, List.set_cons_succ]
                    refine ztake_16 (v := ?vv25) (by kernel_rfl) (by kernel_rfl) (by kernel_rfl) (fun _ _ _ h => h) (Or.inl ⟨by rfl, ?hy25⟩) hx3 ?_
                    case hy25 =>
                      intro wX hSw
                      go_simp
                      try with_reducible rfl
                    try simp only [Act.put, List.setIfInBounds_toArray, List.set_cons_zero, List.set_cons_succ]
                    refine ztake_17 (v := ?vv26) (by kernel_rfl) (by kernel_rfl) (by kernel_rfl) (fun _ _ _ h => h) (Or.inl ⟨by rfl, ?hy26⟩) hx3 ?_
                    case hy26 =>
                      intro wX hSw
                      go_simp
                      try with_reducible rfl
                    try simp only [Act.put, List.setIfInBounds_toArray, List.set_cons_zero, List.set_cons_succ]
                    by_cases hl : j + 1 = nw
                    · have jl : ((j : Int) == (nw : Int) - 1) = true := by simp; omega
                      refine ztake_18 (v := ?vv27) (by kernel_rfl) (by kernel_rfl) (by kernel_rfl) (fun _ _ _ h => h) (Or.inl ⟨by rfl, ?hy27⟩) hx3 ?_
                      case hy27 =>
                        intro wX hSw
                        go_simp
                        try with_reducible rfl
                      try simp only [Act.put, List.setIfInBounds_toArray, List.set_cons_zero, List.set_cons_succ]
                      refine ztake_19 (v := ?vv28) (by kernel_rfl) (by kernel_rfl) (by kernel_rfl) (fun _ _ _ h => h) (Or.inl ⟨by rfl, ?hy28⟩) hx3 ?_
                      case hy28 =>
                        intro wX hSw
                        go_simp
                        try with_reducible rfl
                      try simp only [Act.put, List.setIfInBounds_toArray, List.set_cons_zero, List.set_cons_succ]
                      have hne : ¬ cw = j := by omega
                      have hjc : (j : Int) ≤ (cw : Int) := by omega
                      have hnc1 : (nw : Int) ≤ (cw : Int) := by omega
                      have j2 : (j : Int) ≤ (nw : Int) := by omega
                      refine ztake_20 (v := ?vv29) (by kernel_rfl) (by kernel_rfl) (by kernel_rfl) (fun _ _ _ h => h) (Or.inl ⟨by rfl, ?hy29⟩) hx3 ?_
                      case hy29 =>
                        intro wX hSw
                        go_simp
                        try with_reducible rfl
                      try simp only [Act.put, List.setIfInBounds_toArray, List.set_cons_zero, List.set_cons_succ]
                      refine ztake_21 (v := ?vv30) (by kernel_rfl) (by kernel_rfl) (by kernel_rfl) (fun _ _ _ h => h) (Or.inl ⟨by rfl, ?hy30⟩) hx3 ?_
                      case hy30 =>
                        intro wX hSw
                        go_simp
                        try with_reducible rfl
                      try simp only [Act.put, List.setIfInBounds_toArray, List.set_cons_zero, List.set_cons_succ]
                      refine ztake_22 (v := ?vv31) (by kernel_rfl) (by kernel_rfl) (by kernel_rfl) (fun _ _ _ h => h) (Or.inl ⟨by rfl, ?hy31⟩) hx3 ?_
                      case hy31 =>
                        intro wX hSw
                        go_simp
                        try with_reducible rfl
                      try simp only [Act.put, List.setIfInBounds_toArray, List.set_cons_zero, List.set_cons_succ]
                      refine ztake_23 (v := ?vv32) (by kernel_rfl) (by kernel_rfl) (by kernel_rfl) (fun _ _ _ h => h) (Or.inl ⟨by rfl, ?hy32⟩) hx3 ?_
                      case hy32 =>
                        intro wX hSw
                        go_simp
                        try with_reducible rfl
                      try simp only [Act.put, List.setIfInBounds_toArray, List.set_cons_zero, List.set_cons_succ]
                      refine ztake_24 (by kernel_rfl) (by kernel_rfl) (by kernel_rfl) (fun _ _ _ h => h) (yieldsIf_load_mid rfl 42 _ rfl gm 0 rfl (msgC m a) _ (fun w' h => box_range (HS.out.below K h).box) Try.underlying42 rfl size_msg) hx3 ?_
                      try simp only [Act.put, List.setIfInBounds_toArray, List.set_cons_zero, List.set_cons_succ]
                      refine zready_25 (by kernel_rfl) ?_
                      intro KQ hK
                      rw [if_pos (by rfl)]
                      try go_simp
                      refine (R.check 0 gb [rawM m] (sg (whoM m) j) _ _ _ ((whoM m).drop j) m a 4 _ (HS.out.below K hx3).bk HR3.out (HS.out.below K hx3).free.here HOK.out HF4.out (by rw [List.length_drop, HNW.out]) (rd_drop (HS.out.below K hx3).who.here HNW.out hjn hnc) (by first | omega | (simp; omega)) HSL.out (by simp)).mono ?_
                      rintro e w4 ⟨rfl, hx4q⟩
                      have hx4 : Below wr.heap.size wr w4 := hx3.trans (hx4q.mono hx3.size)
                      clear hx4q
                      refine hK.out _ _ hx4 (fun _ => ?_)
                      clear hK KQ
                      try simp only [Act.put, List.setIfInBounds_toArray, List.set_cons_zero, List.set_cons_succ]
                      refine zready_26 (by kernel_rfl) ?_
                      intro KQ hK
                      rw [if_pos (by rfl)]
                      try go_simp
                      refine (num8_any _ _).mono ?_
                      rintro e w' ⟨rfl, rfl⟩
                      refine hK.out _ _ hx4 (fun _ => ?_)
                      clear hK KQ
                      try simp only [Act.put, List.setIfInBounds_toArray, List.set_cons_zero, List.set_cons_succ]
                      refine ztake_27 (v := ?vv33) (by kernel_rfl) (by kernel_rfl) (by kernel_rfl) (fun _ _ _ h => h) (Or.inl ⟨by rfl, ?hy33⟩) hx4 ?_
                      case hy33 =>
                        intro wX hSw
                        go_simp
                        try with_reducible rfl
                      try simp only [Act.put, List.setIfInBounds_toArray, List.set_cons_zero, List.set_cons_succ]
                      refine ztake_28 (v := ?vv34) (by kernel_rfl) (by kernel_rfl) (by kernel_rfl) (fun _ _ _ h => h) (Or.inl ⟨by rfl, ?hy34⟩) hx4 ?_
                      case hy34 =>
                        intro wX hSw
                        go_simp
                        try with_reducible rfl
                      try simp only [Act.put, List.setIfInBounds_toArray, List.set_cons_zero, List.set_cons_succ]
                      refine ztake_29 (v := ?vv35) (by kernel_rfl) (by kernel_rfl) (by kernel_rfl) (fun _ _ _ h => h) (Or.inl ⟨by rfl, ?hy35⟩) hx4 ?_
                      case hy35 =>
                        intro wX hSw
                        go_simp
                        try with_reducible rfl
                      try simp only [Act.put, List.setIfInBounds_toArray, List.set_cons_zero, List.set_cons_succ]
                      refine wpAnyH_done (by kernel_rfl) ?_ _
                      have hst9 := HS.out.below K hx4
                      have HST9 := Lib.hid hst9
                      have x9 := rd_cell hst9.who.here rfl (i := j) (v := .int .i64 who) (by simp [i64s, HWHO.out])
                      clear hst9
                      go_wp2_with fail
                      refine (K.sign_ok gb [rawM m] (sg (whoM m) j) who 1 _ HST9.out.bk (by simp) HSL.out (by omega) ⟨by omega, by simp⟩).mono ?_
                      rintro e w9 ⟨rfl, F9, hI9, ht9, hf9⟩
                      have HST10 := Lib.hid (HST9.out.to hI9 ht9 hf9)
                      rw [sg_next HWHO.out] at HST10
                      clear hI9 ht9 hf9 x9
                      go_wp2_with fail
                      refine (num8_any _ _).mono ?_
                      rintro e w' ⟨rfl, rfl⟩
                      go_wp2_with fail
                      go_roundw
                      case rel => exact ⟨j + 1, _, by go_num, by omega, HST10.out⟩
                      case measure => simp [intOf]; omega
                    · have jl : ((j : Int) == (nw : Int) - 1) = false := by simp; omega
                      refine ztake_18 (v := ?vv36) (by kernel_rfl) (by kernel_rfl) (by kernel_rfl) (fun _ _ _ h => h) (Or.inl ⟨by rfl, ?hy36⟩) hx3 ?_
                      case hy36 =>
                        intro wX hSw
                        go_simp
                        try with_reducible rfl
                      try simp only [Act.put, List.setIfInBounds_toArray, List.set_cons_zero, List.set_cons_succ]
                      refine ztake_19 (v := ?vv37) (by kernel_rfl) (by kernel_rfl) (by kernel_rfl) (fun _ _ _ h => h) (Or.inl ⟨by rfl, ?hy37⟩) hx3 ?_
                      case hy37 =>
                        intro wX hSw
                        go_simp
                        try with_reducible rfl
                      try simp only [Act.put, List.setIfInBounds_toArray, List.set_cons_zero, List.set_cons_succ]
                      refine ztake_20 (v := undef) (by kernel_rfl) (by kernel_rfl) (by kernel_rfl) (fun _ _ _ h => h) (Or.inr ⟨by rfl, rfl⟩) hx3 ?_
                      try simp only [Act.put, List.setIfInBounds_toArray, List.set_cons_zero, List.set_cons_succ]
                      refine ztake_21 (v := undef) (by kernel_rfl) (by kernel_rfl) (by kernel_rfl) (fun _ _ _ h => h) (Or.inr ⟨by rfl, rfl⟩) hx3 ?_
                      try simp only [Act.put, List.setIfInBounds_toArray, List.set_cons_zero, List.set_cons_succ]
                      refine ztake_22 (v := undef) (by kernel_rfl) (by kernel_rfl) (by kernel_rfl) (fun _ _ _ h => h) (Or.inr ⟨by rfl, rfl⟩) hx3 ?_
                      try simp only [Act.put, List.setIfInBounds_toArray, List.set_cons_zero, List.set_cons_succ]
                      refine ztake_23 (v := undef) (by kernel_rfl) (by kernel_rfl) (by kernel_rfl) (fun _ _ _ h => h) (Or.inr ⟨by rfl, rfl⟩) hx3 ?_
                      try simp only [Act.put, List.setIfInBounds_toArray, List.set_cons_zero, List.set_cons_succ]
                      refine ztake_24 (v := undef) (by kernel_rfl) (by kernel_rfl) (by kernel_rfl) (fun _ _ _ h => h) (Or.inr ⟨by rfl, rfl⟩) hx3 ?_
                      try simp only [Act.put, List.setIfInBounds_toArray, List.set_cons_zero, List.set_cons_succ]
                      refine ztake_25 (v := undef) (by kernel_rfl) (by kernel_rfl) (by kernel_rfl) (fun _ _ _ h => h) (Or.inr ⟨by rfl, rfl⟩) hx3 ?_
                      try simp only [Act.put, List.setIfInBounds_toArray, List.set_cons_zero, List.set_cons_succ]
                      refine ztake_26 (v := undef) (by kernel_rfl) (by kernel_rfl) (by kernel_rfl) (fun _ _ _ h => h) (Or.inr ⟨by rfl, rfl⟩) hx3 ?_
                      try simp only [Act.put, List.setIfInBounds_toArray, List.set_cons_zero, List.set_cons_succ]
                      refine ztake_27 (v := undef) (by kernel_rfl) (by kernel_rfl) (by kernel_rfl) (fun _ _ _ h => h) (Or.inr ⟨by rfl, rfl⟩) hx3 ?_
                      try simp only [Act.put, List.setIfInBounds_toArray, List.set_cons_zero, List.set_cons_succ]
                      refine ztake_28 (v := ?vv38) (by kernel_rfl) (by kernel_rfl) (by kernel_rfl) (fun _ _ _ h => h) (Or.inl ⟨by rfl, ?hy38⟩) hx3 ?_
                      case hy38 =>
                        intro wX hSw
                        go_simp
                        try with_reducible rfl
                      try simp only [Act.put, List.setIfInBounds_toArray, List.set_cons_zero, List.set_cons_succ]
                      refine ztake_29 (v := ?vv39) (by kernel_rfl) (by kernel_rfl) (by kernel_rfl) (fun _ _ _ h => h) (Or.inl ⟨by rfl, ?hy39⟩) hx3 ?_
                      case hy39 =>
                        intro wX hSw
                        go_simp
                        try with_reducible rfl
                      try simp only [Act.put, List.setIfInBounds_toArray, List.set_cons_zero, List.set_cons_succ]
                      refine wpAnyH_done (by kernel_rfl) ?_ _
                      have hst9 := HS.out.below K hx3
                      have HST9 := Lib.hid hst9
                      have x9 := rd_cell hst9.who.here rfl (i := j) (v := .int .i64 who) (by simp [i64s, HWHO.out])
                      clear hst9
                      go_wp2_with fail
                      refine (K.sign_ok gb [rawM m] (sg (whoM m) j) who 1 _ HST9.out.bk (by simp) HSL.out (by omega) ⟨by omega, by simp⟩).mono ?_
                      rintro e w9 ⟨rfl, F9, hI9, ht9, hf9⟩
                      have HST10 := Lib.hid (HST9.out.to hI9 ht9 hf9)
                      rw [sg_next HWHO.out] at HST10
                      clear hI9 ht9 hf9 x9
                      go_wp2_with fail
                      refine (num8_any _ _).mono ?_
                      rintro e w' ⟨rfl, rfl⟩
                      go_wp2_with fail
                      go_roundw
                      case rel => exact ⟨j + 1, _, by go_num, by omega, HST10.out⟩
                      case measure => simp [intOf]; omega
                  · have j1 : ¬ ((j : Int) < (nw : Int)) := by omega
                    obtain rfl : j = nw := by omega
                    have HR4 : Hid (realR [rawM m, anoL] (sg (whoM m) j) 4 [] m = 0) := by
                      have h := real_done HMV.out HSK.out HDG.out [anoL]
                      rw [HNW.out] at h
                      exact h
                    have HR5 : Hid (∀ S l, realR [rawM m, anoL] S 4 l (setD m 2) = 7) := fun S l => real_other HMV.out HSK.out [anoL] S l
                    have HSL : Hid ((sg (whoM m) j).length ≤ 1000) := by have := sg_len (whoM m) j; have := HNW.out; show _ ≤ 1000; omega
                    have hcv := fun w => Lib.run_convert_bytes_const (P := Try.prog) w 60 5 #[.int .u8 97, .int .u8 110, .int .u8 111, .int .u8 116, .int .u8 104, .int .u8 101, .int .u8 114, .int .u8 32, .int .u8 111, .int .u8 110, .int .u8 101] 11 11 Try.underlying60 Try.underlying5
                    obtain ⟨w3, hw3⟩ : ∃ w3, w3 = wr.alloc (.cells #[.int .u8 97, .int .u8 110, .int .u8 111, .int .u8 116, .int .u8 104, .int .u8 101, .int .u8 114, .int .u8 32, .int .u8 111, .int .u8 110, .int .u8 101] 5 (11, 12)) := ⟨_, rfl⟩
                    have hq3 : Below wr.heap.size wr w3 := by rw [hw3]; exact (Below.refl _ _).alloc (Nat.le_refl _) _
                    have hr3 : Rd w3 (some ⟨wr.heap.size, 0, none⟩) (u8s anoL) := by rw [hw3]; exact rd_marked wr (u8s anoL) _ _
                    have HST3 := Lib.hid (HS.out.below K hq3)
                    have HG : Hid (Given w3 F (some ⟨wr.heap.size, 0, none⟩) 11 11 anoL) := ⟨rfl, hr3, fun c hc => by simp [anoL] at hc; rcases hc with rfl | rfl | rfl | rfl | rfl | rfl | rfl | rfl | rfl | rfl | rfl <;> exact ⟨by omega, by omega⟩, by omega, by simp [maxLen], by omega, fun a ha _ hf => by cases ha; have := K.lt HS.out.bk _ hf; simp at this⟩
                    have HW3 := Lib.hid hw3
                    clear hw3 hq3 hr3
                    go_wp2_with fail
                    rw [← HW3.out]
                    refine (K.digest_new gb [rawM m] (sg (whoM m) j) _ 11 11 anoL _ HST3.out.bk HG.out (by simp) (find_ano HMV.out)).mono ?_
                    rintro e w4 ⟨rfl, F4b, hI4, ht4, hf4b⟩
                    have HST4 := Lib.hid (HST3.out.to hI4 ht4 hf4b)
                    clear hI4 ht4 hf4b hcv HST3 HG HW3
                    go_wp2_with (refine wpList_load_box rfl 42 _ rfl gm rfl (msgC m a) HST4.out.box _ Try.underlying42 rfl size_msg ?_)
                    refine (rcopyMsg_any m a _ HST4.out.free.here HF4.out).mono ?_
                    rintro e w5b ⟨a9, rfl, hn9, hf9, hq9⟩
                    have HST5b := Lib.hid (HST4.out.below K hq9)
                    have HN9 := Lib.hid hn9
                    have HF9 := Lib.hid hf9
                    have HQ45 := Lib.hid hq9
                    clear hn9 hf9 hq9
                    obtain ⟨gq, hgq⟩ : ∃ gq, gq = w5b.heap.size := ⟨_, rfl⟩
                    have HZgq := Lib.hid (box_new w5b (msgC zeroM zeroA) 42)
                    go_wp2_with (first
                      | (refine wpList_store_box rfl 42 _ _ rfl w5b.heap.size 0 (msgC m a9) (msgC zeroM zeroA) (msgC m a9) rfl rfl HZgq.out (by simp [msgC]) rfl size_msg rfl ?_)
                      | (refine wpList_run_to rfl 42 rfl (.pointer (some ⟨w5b.heap.size, 0, none⟩)) (w5b.alloc (.cells (msgC zeroM zeroA).toArray 42)) (by unfold execOp msgC zeroM zeroA; go_simp; done) ?_))
                    intro w6b bxgq Tgq
                    have tgq := Tgq (fun k => k = w5b.heap.size) rfl
                    have hqw6b : Below w5b.heap.size w5b w6b := ((Below.refl _ _).alloc (Nat.le_refl _) _).trans (tgq.below (fun k hk => by rw [hk]; exact Nat.le_refl _) (by simp))
                    rw [← hgq] at bxgq ⊢
                    clear Tgq tgq HZgq
                    have HST6b := Lib.hid (HST5b.out.below K hqw6b)
                    have HN6 := Lib.hid (HN9.out.below hqw6b)
                    have HBQ := Lib.hid bxgq
                    have HGQ4 : Hid (w4.heap.size ≤ gq) := by rw [hgq]; exact HQ45.out.size
                    have HQ46 := Lib.hid (HQ45.out.trans (hqw6b.mono HQ45.out.size))
                    have HN9L : Hid (∀ k, a9.has k → k ≠ gq) := fun k hk => by have := (HN9.out.lt hk).1; omega
                    clear hqw6b hgq bxgq HN9
                    have x0 := (HST6b.out.box.2 0 _ rfl).1
                    by_cases h6 : m.k = 6
                    · have e6 : (m.k == 6) = true := by simp [h6]
                      have hset : setD m 2 = { m with cd := 2 } := by rw [setD, if_pos h6]
                      have HSET := Lib.hid hset
                      clear h6 hset
                      have kk := HBQ.out.2 15 _ rfl
                      have ka := kk.1
                      have kf := kk.2
                      clear kk
                      obtain ⟨w7, hw7⟩ : ∃ w7, w7 = w6b.setCell ⟨gq, 15, none⟩ (.int .i64 2) := ⟨_, rfl⟩
                      have bx7 : Box w7 gq (msgC (setD m 2) a9) := by rw [hw7, HSET.out]; exact HBQ.out.set (j := 15) (by simp [msgC])
                      have t67 : Touch (fun k => k = gq) w6b w7 := by rw [hw7]; exact (Touch.refl (fun k => k = gq) w6b).set (.inl rfl) _
                      have hq7 : Below w4.heap.size w4 w7 := HQ46.out.trans (t67.below (fun k hk => by rw [hk]; exact HGQ4.out) HQ46.out.size)
                      have HST7 := Lib.hid (HST4.out.below K hq7)
                      have HM7 : Hid (MsgIn w7 (setD m 2) a9) := setD_in ((HN6.out.kept fun k hk hl => t67.block k hl fun e => HN9L.out k hk e).in_) 2
                      have HBX7 := Lib.hid bx7
                      have HL4 := Lib.hid (rd_new w7 [.int .i64 1, .int .i64 2, .int .i64 3, .int .i64 4] 3)
                      clear t67 bx7 hq7
                      go_upto_region 30 with fail
                      rw [← hw7]
                      clear hw7 ka kf x0
                      go_wp2_with fail
                      refine (num8_any _ _).mono ?_
                      rintro e w' ⟨rfl, rfl⟩
                      go_wp2_with (refine wpList_load_boxG 42 _ rfl gm rfl rfl (msgC m a) HST7.out.box _ Try.underlying42 rfl size_msg ?_)
                      refine (R.check 0 gb [rawM m, anoL] (sg (whoM m) j) none 0 0 [] m a 4 _ HST7.out.bk HR4.out HST7.out.free.here HOK.out HF4.out rfl (Rd.nil _ _) (by omega) HSL.out (by simp)).mono ?_
                      rintro e w8 ⟨rfl, hq8⟩
                      have HST8 := Lib.hid (HST7.out.below K hq8)
                      have HBX8 := Lib.hid (HBX7.out.below hq8 HBX7.out.1)
                      have HM8 := Lib.hid (HM7.out.below hq8)
                      obtain ⟨w9, hw9⟩ : ∃ w9, w9 = w8.alloc (.cells #[.int .i64 1, .int .i64 2, .int .i64 3, .int .i64 4] 3) := ⟨_, rfl⟩
                      have hq9 : Below w8.heap.size w8 w9 := by rw [hw9]; exact (Below.refl _ _).alloc (Nat.le_refl _) _
                      have HR9 : Hid (Rd w9 (some ⟨w8.heap.size, 0, none⟩) (i64s [1, 2, 3, 4])) := by show Rd w9 _ _; rw [hw9]; exact rd_new w8 [.int .i64 1, .int .i64 2, .int .i64 3, .int .i64 4] 3
                      have HST9 := Lib.hid (HST8.out.below K hq9)
                      have HBX9L : Hid (Box (w8.alloc (.cells #[.int .i64 1, .int .i64 2, .int .i64 3, .int .i64 4] 3)) gq (msgC (setD m 2) a9)) := by show Box _ _ _; rw [← hw9]; exact HBX8.out.below hq9 HBX8.out.1
                      have HM9 := Lib.hid (HM8.out.below hq9)
                      have HW9 := Lib.hid hw9
                      clear hw9 hq9 hq8
                      go_wp2_with fail
                      refine (num8_any _ _).mono ?_
                      rintro e w' ⟨rfl, rfl⟩
                      go_wp2_with (refine wpList_load_boxG 42 _ rfl gq rfl rfl (msgC (setD m 2) a9) HBX9L.out _ Try.underlying42 rfl size_msg ?_)
                      rw [← HW9.out]
                      refine (R.check 7 gb [rawM m, anoL] (sg (whoM m) j) _ _ 4 [1, 2, 3, 4] (setD m 2) a9 4 _ HST9.out.bk (HR5.out _ _) HM9.out (setD_ok HOK.out (by unfold I64; omega)) HF9.out rfl HR9.out (by omega) HSL.out (by simp)).mono ?_
                      rintro e w10 ⟨rfl, hq10⟩
                      have hb10 := HST9.out.bel.trans (hq10.mono HST9.out.bel.size)
                      go_wp2_with fail
                      refine (num8_any _ _).mono ?_
                      rintro e w' ⟨rfl, rfl⟩
                      go_wp2_with fail
                      go_roundw
                      case rel => exact ⟨k + 1, by go_num, by omega, by omega, hb10⟩
                      case measure => simp [intOf]; omega
                    · have e6 : (m.k == 6) = false := by simp [h6]
                      have hset : setD m 2 = { m with d := 2 } := by rw [setD, if_neg h6]
                      have HSET := Lib.hid hset
                      clear h6 hset
                      have kk := HBQ.out.2 3 _ rfl
                      have ka := kk.1
                      have kf := kk.2
                      clear kk
                      obtain ⟨w7, hw7⟩ : ∃ w7, w7 = w6b.setCell ⟨gq, 3, none⟩ (.int .i64 2) := ⟨_, rfl⟩
                      have bx7 : Box w7 gq (msgC (setD m 2) a9) := by rw [hw7, HSET.out]; exact HBQ.out.set (j := 3) (by simp [msgC])
                      have t67 : Touch (fun k => k = gq) w6b w7 := by rw [hw7]; exact (Touch.refl (fun k => k = gq) w6b).set (.inl rfl) _
                      have hq7 : Below w4.heap.size w4 w7 := HQ46.out.trans (t67.below (fun k hk => by rw [hk]; exact HGQ4.out) HQ46.out.size)
                      have HST7 := Lib.hid (HST4.out.below K hq7)
                      have HM7 : Hid (MsgIn w7 (setD m 2) a9) := setD_in ((HN6.out.kept fun k hk hl => t67.block k hl fun e => HN9L.out k hk e).in_) 2
                      have HBX7 := Lib.hid bx7
                      have HL4 := Lib.hid (rd_new w7 [.int .i64 1, .int .i64 2, .int .i64 3, .int .i64 4] 3)
                      clear t67 bx7 hq7
                      go_upto_region 30 with fail
                      rw [← hw7]
                      clear hw7 ka kf x0
                      go_wp2_with fail
                      refine (num8_any _ _).mono ?_
                      rintro e w' ⟨rfl, rfl⟩
                      go_wp2_with (refine wpList_load_boxG 42 _ rfl gm rfl rfl (msgC m a) HST7.out.box _ Try.underlying42 rfl size_msg ?_)
                      refine (R.check 0 gb [rawM m, anoL] (sg (whoM m) j) none 0 0 [] m a 4 _ HST7.out.bk HR4.out HST7.out.free.here HOK.out HF4.out rfl (Rd.nil _ _) (by omega) HSL.out (by simp)).mono ?_
                      rintro e w8 ⟨rfl, hq8⟩
                      have HST8 := Lib.hid (HST7.out.below K hq8)
                      have HBX8 := Lib.hid (HBX7.out.below hq8 HBX7.out.1)
                      have HM8 := Lib.hid (HM7.out.below hq8)
                      obtain ⟨w9, hw9⟩ : ∃ w9, w9 = w8.alloc (.cells #[.int .i64 1, .int .i64 2, .int .i64 3, .int .i64 4] 3) := ⟨_, rfl⟩
                      have hq9 : Below w8.heap.size w8 w9 := by rw [hw9]; exact (Below.refl _ _).alloc (Nat.le_refl _) _
                      have HR9 : Hid (Rd w9 (some ⟨w8.heap.size, 0, none⟩) (i64s [1, 2, 3, 4])) := by show Rd w9 _ _; rw [hw9]; exact rd_new w8 [.int .i64 1, .int .i64 2, .int .i64 3, .int .i64 4] 3
                      have HST9 := Lib.hid (HST8.out.below K hq9)
                      have HBX9L : Hid (Box (w8.alloc (.cells #[.int .i64 1, .int .i64 2, .int .i64 3, .int .i64 4] 3)) gq (msgC (setD m 2) a9)) := by show Box _ _ _; rw [← hw9]; exact HBX8.out.below hq9 HBX8.out.1
                      have HM9 := Lib.hid (HM8.out.below hq9)
                      have HW9 := Lib.hid hw9
                      clear hw9 hq9 hq8
                      go_wp2_with fail
                      refine (num8_any _ _).mono ?_
                      rintro e w' ⟨rfl, rfl⟩
                      go_wp2_with (refine wpList_load_boxG 42 _ rfl gq rfl rfl (msgC (setD m 2) a9) HBX9L.out _ Try.underlying42 rfl size_msg ?_)
                      rw [← HW9.out]
                      refine (R.check 7 gb [rawM m, anoL] (sg (whoM m) j) _ _ 4 [1, 2, 3, 4] (setD m 2) a9 4 _ HST9.out.bk (HR5.out _ _) HM9.out (setD_ok HOK.out (by unfold I64; omega)) HF9.out rfl HR9.out (by omega) HSL.out (by simp)).mono ?_
                      rintro e w10 ⟨rfl, hq10⟩
                      have hb10 := HST9.out.bel.trans (hq10.mono HST9.out.bel.size)
                      go_wp2_with fail
                      refine (num8_any _ _).mono ?_
                      rintro e w' ⟨rfl, rfl⟩
                      go_wp2_with fail
                      go_roundw
                      case rel => exact ⟨k + 1, by go_num, by omega, by omega, hb10⟩
                      case measure => simp [intOf]; omega
        · have i2 : ¬ ((k : Int) < 12) := by omega
          go_wp2_with fail
          refine (wakes8_any K R _).mono ?_
          rintro e w9 ⟨rfl, hq9⟩
          have hb9 := hb.trans (hq9.mono hb.size)
          go_wp2_with fail
          go_ret
          exact ⟨rfl, HB1.out.trans (hb9.mono HB1.out.size)⟩
      · have i1 : ¬ ((k : Int) < (nM : Int)) := by omega
        go_wp2_with fail
        refine (wakes8_any K R _).mono ?_
        rintro e w9 ⟨rfl, hq9⟩
        have hb9 := hb.trans (hq9.mono hb.size)
        go_wp2_with fail
        go_ret
        exact ⟨rfl, HB1.out.trans (hb9.mono HB1.out.size)⟩

end Go.Proofs.Ytcfnomnhameleaa
