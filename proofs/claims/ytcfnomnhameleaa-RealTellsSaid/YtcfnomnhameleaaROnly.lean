/-
  The walk of droverlaw8.only: of a script just the messages of one kind.
-/
import Derived.Test.YtcfnomnhameleaaROnlyD
import Derived.Test.YtcfnomnhameleaaRExact
namespace Go.Proofs.Ytcfnomnhameleaa
open Go.RowKit

set_option maxRecDepth 100000 in
set_option maxHeartbeats 16000000 in
theorem only_is {I : BookIs} (K : BookK I) (R : RContracts I) (kd : Int) (s : ScrD) (w : World) (h : ScrIn w s) :
    Calls Try.prog 33 #[scrV s, .int .i64 kd] w (Tells w.heap.size w (.bool true)) := by
  obtain ⟨w1, hw1⟩ : ∃ w1, w1 = w.alloc (.cells #[.int .i64 s.N, .slice s.Al s.nl s.cl, .slice s.AM s.nM s.cM, .slice s.AP s.nP s.cP, .slice s.AW s.nW s.cW, .slice s.AX s.nX s.cX] 26) := ⟨_, rfl⟩
  have hb1 : Below w.heap.size w w1 := by rw [hw1]; exact (Below.refl _ _).alloc (Nat.le_refl _) _
  obtain ⟨gs, hgs⟩ : ∃ gs, gs = w.heap.size := ⟨_, rfl⟩
  have bx1 : Box w1 gs (scrC s) := by rw [hw1, hgs]; exact box_new w (scrC s) 26
  have HW := Lib.hid hw1
  have HX : Hid (∀ wX, Below w1.heap.size w1 wX → Box wX gs (scrC s)) := fun wX h => bx1.below h bx1.1
  have HI : Hid (∀ wX, Below w1.heap.size w1 wX → ScrIn wX s) := fun wX hX => h.below (hb1.trans (hX.mono hb1.size))
  have HB1 := Lib.hid hb1
  obtain ⟨nM, hnM⟩ : ∃ nM, s.nM = nM := ⟨_, rfl⟩
  obtain ⟨nP, hnP⟩ : ∃ nP, s.nP = nP := ⟨_, rfl⟩
  have HNM := Lib.hid hnM
  have HNP := Lib.hid hnP
  have HC2 : Hid (∀ wX, Below w1.heap.size w1 wX → wX.cell? ⟨gs, 2, none⟩ = some (.slice s.AM nM s.cM)) := fun wX h => by rw [← hnM]; exact ((HX.out _ h).2 2 _ rfl).1
  have HC3 : Hid (∀ wX, Below w1.heap.size w1 wX → wX.cell? ⟨gs, 3, none⟩ = some (.slice s.AP nP s.cP)) := fun wX h => by rw [← hnP]; exact ((HX.out _ h).2 3 _ rfl).1
  clear hw1 bx1 h hb1 hnM hnP
  unfold scrV
  go_enter Try.func33, Try.ntmps33
  go_upto_region 1 with fail
  rw [← HW.out, ← hgs]
  clear hgs
  obtain ⟨gx, hgx⟩ : ∃ gx, gx = w1.heap.size := ⟨_, rfl⟩
  have HZX := Lib.hid (box_new w1 [.int .i64 0, .slice none 0 0, .slice none 0 0, .slice none 0 0, .slice none 0 0, .slice none 0 0] 26)
  go_wp2_with (first
    | (refine wpList_load_box rfl 26 _ rfl gs rfl (scrC s) (HX.out _ (Below.refl _ _)) _ Try.underlying26 rfl size_scr ?_)
    | (refine wpList_store_box rfl 26 _ _ rfl w1.heap.size 0 (scrC s) [.int .i64 0, .slice none 0 0, .slice none 0 0, .slice none 0 0, .slice none 0 0, .slice none 0 0] (scrC s) rfl rfl HZX.out (by simp [scrC]) rfl size_scr rfl ?_)
    | (refine wpList_run_to rfl 26 rfl (.pointer (some ⟨w1.heap.size, 0, none⟩)) (w1.alloc (.cells #[.int .i64 0, .slice none 0 0, .slice none 0 0, .slice none 0 0, .slice none 0 0, .slice none 0 0] 26)) (by unfold execOp; go_simp; done) ?_))
  intro w2 bx2 T2
  have t2 := T2 (fun k => k = w1.heap.size) rfl
  have hq2 : Below w1.heap.size w1 w2 := ((Below.refl _ _).alloc (Nat.le_refl _) _).trans (t2.below (fun k hk => by rw [hk]; exact Nat.le_refl _) (by simp))
  rw [← hgx] at bx2 ⊢
  obtain ⟨w3, hw3⟩ : ∃ w3, w3 = w2.setCell ⟨gx, 2, none⟩ (.slice none 0 0) := ⟨_, rfl⟩
  obtain ⟨w4, hw4⟩ : ∃ w4, w4 = w3.setCell ⟨gx, 3, none⟩ (.slice none 0 0) := ⟨_, rfl⟩
  have bx3 : Box w3 gx (cx s (.slice none 0 0) (.slice s.AP s.nP s.cP)) := by rw [hw3]; exact bx2.set (j := 2) (by simp [scrC])
  have bx4 : Box w4 gx (cx s (.slice none 0 0) (.slice none 0 0)) := by rw [hw4]; exact bx3.set (j := 3) (by simp [cx])
  have hq4 : Below w1.heap.size w1 w4 := by rw [hw4, hw3]; exact (hq2.setCell (by rw [hgx]; exact Nat.le_refl _) _).setCell (by rw [hgx]; exact Nat.le_refl _) _
  have k2 := (bx2.2 2 _ rfl).1
  have f2 := (bx2.2 2 _ rfl).2
  have k3 := (bx3.2 3 _ rfl).1
  have f3 := (bx3.2 3 _ rfl).2
  have HST : Hid (OnlySt w1 w4.heap.size gx s (.slice none 0 0) (.slice none 0 0) 0 0 [] [] w4) := ⟨hq4, Nat.le_refl _, bx4.1, by rw [hgx]; exact Nat.le_refl _, bx4, World.ownsRow_nil _ _ _ _, rfl, World.ownsRow_nil _ _ _ _, fun x hx => by simp at hx, fun g hg => by simp [Value.ownBlock] at hg⟩
  have HW3 := Lib.hid hw3
  have HW4 := Lib.hid hw4
  clear t2 T2 hq2 bx2 bx3 bx4 hgx HZX hw3 hw4
  go_upto_region 3 with fail
  rw [← HW3.out]
  clear k2 f2
  go_upto_region 4 with fail
  rw [← HW4.out]
  clear k3 f3 HW3 HW4
  obtain ⟨B, hB⟩ : ∃ B, B = w4.heap.size := ⟨_, rfl⟩
  rw [← hB] at HST
  clear hB
  go_wp2_with fail
  go_loopw [6] (fun i wr => ∃ (k : Nat) (lv pv : Value) (nL nQ : Nat) (ms : List (MsgD × MsgA)) (ps : List Bool), i = .int .i64 k ∧ k ≤ nM ∧ k ≤ 12 ∧ nL ≤ k ∧ nQ ≤ k ∧ Hid (OnlySt w1 B gx s lv pv nL nQ ms ps wr)) (fun i _ => 12 - (intOf i).toNat)
  case atStart => exact ⟨0, _, _, 0, 0, [], [], rfl, by omega, by omega, by omega, by omega, HST.out⟩
  case round =>
    clear HST hq4
    obtain ⟨k, lv, pv, nL, nQ, ms, ps, rfl, hk, hk12, hkL, hkQ, HS⟩ := hrel
    have hb := HS.out.bel
    have i0 : (0 : Int) ≤ (k : Int) := by omega
    have c2 := HC2.out _ hb
    by_cases hlt : k < nM
    · have i1 : (k : Int) < (nM : Int) := by omega
      by_cases h12 : k < 12
      · have i2 : (k : Int) < 12 := by omega
        obtain ⟨b, off, x, hAM, hx0, hmem, hrg⟩ := (HI.out _ hb).at_ (k := k) (by rw [HNM.out]; exact hlt)
        obtain ⟨m, a⟩ := x
        have HMEM := Lib.hid hmem
        have HCM : Hid (∀ wX, Below w1.heap.size w1 wX → wX.cell? ⟨gs, 2, none⟩ = some (.slice (some ⟨b, off, none⟩) nM s.cM) ∧ wX.rangeAt b (off + k * 18) (msgC m a)) := fun wX h => ⟨by rw [← hAM]; exact HC2.out _ h, fun j v hv => by
          obtain ⟨b2, off2, x2, hAM2, hx2, _, hrg2⟩ := (HI.out _ h).at_ (k := k) (by rw [HNM.out]; exact hlt)
          rw [hAM] at hAM2
          cases hAM2
          rw [hx0] at hx2
          cases hx2
          exact hrg2 j v hv⟩
        rw [hAM] at c2
        have km := hrg 0 _ rfl
        simp only [Nat.add_zero] at km
        clear hAM hmem hrg hx0
        by_cases hkk : m.k = kd
        · have j1 : (m.k != kd) = false := by simp [hkk]
          have HKK := Lib.hid hkk
          clear hkk
          go_upto_region 8 with fail
          clear c2 km
          obtain ⟨w2, hw2⟩ : ∃ w2, w2 = wr.drew := ⟨_, rfl⟩
          have HS2 : Hid (OnlySt w1 B gx s lv pv nL nQ ms ps w2) := by rw [hw2]; exact HS.out.below (Below.refl _ _).drew
          have hxd := HS2.out.bel
          have HW2 := Lib.hid hw2
          refine wp_region_held_drew (S := fun w' => Below w1.heap.size w1 w') (by kernel_rfl) (by rw [← hw2]; exact hxd) (fun _ => ?_)
          rw [← HW2.out]
          clear hw2
          refine ztake_0 (v := ?vv1) (by kernel_rfl) (by kernel_rfl) (by kernel_rfl) (fun _ _ _ h => h) (Or.inl ⟨by rfl, ?hy1⟩) hxd ?_
          case hy1 =>
            intro wX hSw
            have hcm := (HCM.out _ hSw).1
            go_simp
            try with_reducible rfl
          try simp only [Act.put, List.setIfInBounds_toArray, List.set_cons_zero, List.set_cons_succ]
          refine ztake_2 (v := ?vv2) (by kernel_rfl) (by kernel_rfl) (by kernel_rfl) (fun _ _ _ h => h) (Or.inl ⟨by rfl, ?hy2⟩) hxd ?_
          case hy2 =>
            intro wX hSw
            have hcm := (HCM.out _ hSw).1
            go_simp
            try with_reducible rfl
          try simp only [Act.put, List.setIfInBounds_toArray, List.set_cons_zero, List.set_cons_succ]
          refine ztake_3 (v := ?vv3) (by kernel_rfl) (by kernel_rfl) (by kernel_rfl) (fun _ _ _ h => h) (Or.inl ⟨by rfl, ?hy3⟩) hxd ?_
          case hy3 =>
            intro wX hSw
            have hcm := (HCM.out _ hSw).1
            go_simp
            try with_reducible rfl
          try simp only [Act.put, List.setIfInBounds_toArray, List.set_cons_zero, List.set_cons_succ]
          refine ztake_4 (v := ?vv4) (by kernel_rfl) (by kernel_rfl) (by kernel_rfl) (fun _ _ _ h => h) (Or.inl ⟨by rfl, ?hy4⟩) hxd ?_
          case hy4 =>
            intro wX hSw
            have hcm := (HCM.out _ hSw).1
            go_simp
            try with_reducible rfl
          try simp only [Act.put, List.setIfInBounds_toArray, List.set_cons_zero, List.set_cons_succ]
          refine ztake_5 (v := ?vv5) (by kernel_rfl) (by kernel_rfl) (by kernel_rfl) (fun _ _ _ h => h) (Or.inl ⟨by rfl, ?hy5⟩) hxd ?_
          case hy5 =>
            intro wX hSw
            have hcm := (HCM.out _ hSw).1
            go_simp
            try with_reducible rfl
          try simp only [Act.put, List.setIfInBounds_toArray, List.set_cons_zero, List.set_cons_succ]
          refine ztake_6 (by kernel_rfl) (by kernel_rfl) (by kernel_rfl) (fun _ _ _ h => h) (yieldsIf_load_mid rfl 42 _ rfl b (off + k * 18) rfl (msgC m a) _ (fun w' h => (HCM.out _ h).2) Try.underlying42 rfl size_msg) hxd ?_
          try simp only [Act.put, List.setIfInBounds_toArray, List.set_cons_zero, List.set_cons_succ]
          have cl := (HS2.out.box.2 2 _ rfl).1
          obtain ⟨w3, hw3⟩ : ∃ w3, w3 = w2.alloc (.cells (msgC m a).toArray 42) := ⟨_, rfl⟩
          have HS3 : Hid (OnlySt w1 B gx s lv pv nL nQ ms ps w3) := by rw [hw3]; exact HS2.out.below ((Below.refl _ _).alloc (Nat.le_refl _) _)
          have HC3N : Hid (∀ i u, (msgC m a)[i]? = some u → w3.cell? ⟨w2.heap.size, i, none⟩ = some u) := by show ∀ i u, _; rw [hw3]; exact cells_new w2 (msgC m a) 42
          have cl3 := (HS3.out.box.2 2 _ rfl).1
          have hx3 := HS3.out.bel
          have HW3 := Lib.hid hw3
          clear hw3
          refine zready_1_7 (by kernel_rfl) ?_ ?_
          · intro KQ hK
            rw [if_pos (by rfl)]
            clear cl3
            unfold Oper.wp execOp
            go_simp
            refine hK.out _ _ hxd (fun _ => ?_)
            clear hK KQ
            try simp only [Act.put, List.setIfInBounds_toArray, List.set_cons_zero, List.set_cons_succ]
            refine zready_7 (by kernel_rfl) ?_
            intro KQ hK
            rw [if_pos (by rfl)]
            refine wp_build_msg _ rfl m a rfl ?_
            rw [← HW3.out]
            refine hK.out _ _ hx3 (fun _ => ?_)
            clear hK KQ
            try simp only [Act.put, List.setIfInBounds_toArray, List.set_cons_zero, List.set_cons_succ]
            refine zready_8 (by kernel_rfl) ?_
            intro KQ hK
            rw [if_pos (by rfl)]
            refine wp_app_elemL w3 _ _ 23 rfl B 42 (msgV zeroM zeroA) 18 256 Try.underlying23 info_mes8 rfl (by decide) (by decide) lv nL (cellsM ms) rfl HS3.out.rowL w2.heap.size (msgC m a) rfl rfl HC3N.out (one_msg m a) (by omega) HS3.out.hB ?_
            intro g' c' w5 ho5 hg5 hat5
            obtain ⟨⟨hbx5, hx5⟩, hs8⟩ := HS3.out.msg HMEM.out ho5 hg5 hat5
            refine hK.out _ _ hx5 (fun _ => ?_)
            clear hK KQ
            try simp only [Act.put, List.setIfInBounds_toArray, List.set_cons_zero, List.set_cons_succ]
            refine ztake_9 (v := ?vv6) (by kernel_rfl) (by kernel_rfl) (by kernel_rfl) (fun _ _ _ h => h) (Or.inl ⟨by rfl, ?hy6⟩) hx5 ?_
            case hy6 =>
              intro wX hSw
              go_simp
              try with_reducible rfl
            try simp only [Act.put, List.setIfInBounds_toArray, List.set_cons_zero, List.set_cons_succ]
            have k5 := (hbx5.2 2 _ rfl).1
            have f5 := (hbx5.2 2 _ rfl).2
            obtain ⟨w8, hw8⟩ : ∃ w8, w8 = w5.setCell ⟨gx, 2, none⟩ (.slice (some ⟨g', 0, none⟩) (nL + 1) c') := ⟨_, rfl⟩
            rw [← hw8] at hs8
            have HS8 := Lib.hid hs8
            have hx8 := hs8.bel
            clear hs8 ho5 hg5 hat5 hbx5
            refine zready_10 (by kernel_rfl) ?_
            intro KQ hK
            rw [if_pos (by rfl)]
            unfold Oper.wp execOp
            go_simp
            rw [← hw8]
            refine hK.out _ _ hx8 (fun _ => ?_)
            clear hK KQ
            try simp only [Act.put, List.setIfInBounds_toArray, List.set_cons_zero, List.set_cons_succ]
            clear hw8 k5 f5
            refine wpAnyH_done (by kernel_rfl) ?_ _
            go_upto_region 9 with fail
            have c3 := HC3.out _ hx8
            obtain ⟨w9, hw9⟩ : ∃ w9, w9 = w8.drew := ⟨_, rfl⟩
            have HS9 : Hid (OnlySt w1 B gx s (.slice (some ⟨g', 0, none⟩) (nL + 1) c') pv (nL + 1) nQ (ms ++ [(m, a)]) ps w9) := by rw [hw9]; exact HS8.out.below (Below.refl _ _).drew
            have hx9 := HS9.out.bel
            have HW9 := Lib.hid hw9
            clear c3
            refine wp_region_held_drew (S := fun w' => Below w1.heap.size w1 w') (by kernel_rfl) (by rw [← hw9]; exact hx9) (fun _ => ?_)
            rw [← HW9.out]
            clear hw9
            by_cases hP : k < nP
            · have i3 : ¬ ((nP : Int) ≤ (k : Int)) := by omega
              have i4 : (k : Int) < (nP : Int) := by omega
              obtain ⟨bP, oP, xP, hAP, _⟩ := (HI.out _ hx9).put_ (k := k) (by rw [HNP.out]; exact hP)
              have HCP : Hid (∀ wX, Below w1.heap.size w1 wX → wX.cell? ⟨gs, 3, none⟩ = some (.slice (some ⟨bP, oP, none⟩) nP s.cP) ∧ wX.cell? ⟨bP, oP + k, none⟩ = some (.bool (s.P[k]?.getD false))) := fun wX h => ⟨by rw [← hAP]; exact HC3.out _ h, rd_cell (HI.out _ h).rP hAP (bools_at (by rw [(HI.out _ h).zP, HNP.out]; exact hP))⟩
              clear hAP
              obtain ⟨fl, hfl⟩ : ∃ fl, fl = s.P[k]?.getD false := ⟨_, rfl⟩
              rw [← hfl] at HCP
              clear hfl
              refine ztake_0 (v := ?vv7) (by kernel_rfl) (by kernel_rfl) (by kernel_rfl) (fun _ _ _ h => h) (Or.inl ⟨by rfl, ?hy7⟩) hx9 ?_
              case hy7 =>
                intro wX hSw
                obtain ⟨hcp, hcq⟩ := HCP.out _ hSw
                go_simp
                try with_reducible rfl
              try simp only [Act.put, List.setIfInBounds_toArray, List.set_cons_zero, List.set_cons_succ]
              refine ztake_2 (v := ?vv8) (by kernel_rfl) (by kernel_rfl) (by kernel_rfl) (fun _ _ _ h => h) (Or.inl ⟨by rfl, ?hy8⟩) hx9 ?_
              case hy8 =>
                intro wX hSw
                obtain ⟨hcp, hcq⟩ := HCP.out _ hSw
                go_simp
                try with_reducible rfl
              try simp only [Act.put, List.setIfInBounds_toArray, List.set_cons_zero, List.set_cons_succ]
              refine ztake_3 (v := ?vv9) (by kernel_rfl) (by kernel_rfl) (by kernel_rfl) (fun _ _ _ h => h) (Or.inl ⟨by rfl, ?hy9⟩) hx9 ?_
              case hy9 =>
                intro wX hSw
                obtain ⟨hcp, hcq⟩ := HCP.out _ hSw
                go_simp
                try with_reducible rfl
              try simp only [Act.put, List.setIfInBounds_toArray, List.set_cons_zero, List.set_cons_succ]
              refine ztake_4 (v := ?vv10) (by kernel_rfl) (by kernel_rfl) (by kernel_rfl) (fun _ _ _ h => h) (Or.inl ⟨by rfl, ?hy10⟩) hx9 ?_
              case hy10 =>
                intro wX hSw
                obtain ⟨hcp, hcq⟩ := HCP.out _ hSw
                go_simp
                try with_reducible rfl
              try simp only [Act.put, List.setIfInBounds_toArray, List.set_cons_zero, List.set_cons_succ]
              refine ztake_5 (v := ?vv11) (by kernel_rfl) (by kernel_rfl) (by kernel_rfl) (fun _ _ _ h => h) (Or.inl ⟨by rfl, ?hy11⟩) hx9 ?_
              case hy11 =>
                intro wX hSw
                obtain ⟨hcp, hcq⟩ := HCP.out _ hSw
                go_simp
                try with_reducible rfl
              try simp only [Act.put, List.setIfInBounds_toArray, List.set_cons_zero, List.set_cons_succ]
              refine ztake_6 (v := ?vv12) (by kernel_rfl) (by kernel_rfl) (by kernel_rfl) (fun _ _ _ h => h) (Or.inl ⟨by rfl, ?hy12⟩) hx9 ?_
              case hy12 =>
                intro wX hSw
                obtain ⟨hcp, hcq⟩ := HCP.out _ hSw
                go_simp
                try with_reducible rfl
              try simp only [Act.put, List.setIfInBounds_toArray, List.set_cons_zero, List.set_cons_succ]
              refine ztake_7 (v := ?vv13) (by kernel_rfl) (by kernel_rfl) (by kernel_rfl) (fun _ _ _ h => h) (Or.inl ⟨by rfl, ?hy13⟩) hx9 ?_
              case hy13 =>
                intro wX hSw
                obtain ⟨hcp, hcq⟩ := HCP.out _ hSw
                go_simp
                try with_reducible rfl
              try simp only [Act.put, List.setIfInBounds_toArray, List.set_cons_zero, List.set_cons_succ]
              refine ztake_8 (v := ?vv14) (by kernel_rfl) (by kernel_rfl) (by kernel_rfl) (fun _ _ _ h => h) (Or.inl ⟨by rfl, ?hy14⟩) hx9 ?_
              case hy14 =>
                intro wX hSw
                obtain ⟨hcp, hcq⟩ := HCP.out _ hSw
                go_simp
                try with_reducible rfl
              try simp only [Act.put, List.setIfInBounds_toArray, List.set_cons_zero, List.set_cons_succ]
              refine ztake_9 (v := ?vv15) (by kernel_rfl) (by kernel_rfl) (by kernel_rfl) (fun _ _ _ h => h) (Or.inl ⟨by rfl, ?hy15⟩) hx9 ?_
              case hy15 =>
                intro wX hSw
                obtain ⟨hcp, hcq⟩ := HCP.out _ hSw
                go_simp
                try with_reducible rfl
              try simp only [Act.put, List.setIfInBounds_toArray, List.set_cons_zero, List.set_cons_succ]
              refine ztake_10 (v := ?vv16) (by kernel_rfl) (by kernel_rfl) (by kernel_rfl) (fun _ _ _ h => h) (Or.inl ⟨by rfl, ?hy16⟩) hx9 ?_
              case hy16 =>
                intro wX hSw
                obtain ⟨hcp, hcq⟩ := HCP.out _ hSw
                go_simp
                try with_reducible rfl
              try simp only [Act.put, List.setIfInBounds_toArray, List.set_cons_zero, List.set_cons_succ]
              refine ztake_11 (v := ?vv17) (by kernel_rfl) (by kernel_rfl) (by kernel_rfl) (fun _ _ _ h => h) (Or.inl ⟨by rfl, ?hy17⟩) hx9 ?_
              case hy17 =>
                intro wX hSw
                obtain ⟨hcp, hcq⟩ := HCP.out _ hSw
                go_simp
                try with_reducible rfl
              try simp only [Act.put, List.setIfInBounds_toArray, List.set_cons_zero, List.set_cons_succ]
              refine ztake_12 (v := ?vv18) (by kernel_rfl) (by kernel_rfl) (by kernel_rfl) (fun _ _ _ h => h) (Or.inl ⟨by rfl, ?hy18⟩) hx9 ?_
              case hy18 =>
                intro wX hSw
                obtain ⟨hcp, hcq⟩ := HCP.out _ hSw
                go_simp
                try with_reducible rfl
              try simp only [Act.put, List.setIfInBounds_toArray, List.set_cons_zero, List.set_cons_succ]
              refine ztake_13 (v := ?vv19) (by kernel_rfl) (by kernel_rfl) (by kernel_rfl) (fun _ _ _ h => h) (Or.inl ⟨by rfl, ?hy19⟩) hx9 ?_
              case hy19 =>
                intro wX hSw
                obtain ⟨hcp, hcq⟩ := HCP.out _ hSw
                go_simp
                try with_reducible rfl
              try simp only [Act.put, List.setIfInBounds_toArray, List.set_cons_zero, List.set_cons_succ]
              have cl := (HS9.out.box.2 3 _ rfl).1
              obtain ⟨w10, hw10⟩ : ∃ w10, w10 = w9.alloc (.cells #[.bool fl] 4) := ⟨_, rfl⟩
              have HS10 := Lib.hid (show OnlySt w1 B gx s (.slice (some ⟨g', 0, none⟩) (nL + 1) c') pv (nL + 1) nQ (ms ++ [(m, a)]) ps w10 by rw [hw10]; exact HS9.out.below ((Below.refl _ _).alloc (Nat.le_refl _) _))
              have HCN : Hid (∀ i u, [Value.bool fl][i]? = some u → w10.cell? ⟨w9.heap.size, i, none⟩ = some u) := by show ∀ i u, _; rw [hw10]; exact cells_new w9 [.bool fl] 4
              have cl3 := (HS10.out.box.2 3 _ rfl).1
              have hx10 := HS10.out.bel
              have HW10 := Lib.hid hw10
              clear hw10
              refine zready_1_14 (by kernel_rfl) ?_ ?_
              · intro KQ hK
                rw [if_pos (by rfl)]
                clear cl3
                unfold Oper.wp execOp
                go_simp
                refine hK.out _ _ hx9 (fun _ => ?_)
                clear hK KQ
                try simp only [Act.put, List.setIfInBounds_toArray, List.set_cons_zero, List.set_cons_succ]
                refine zready_14 (by kernel_rfl) ?_
                intro KQ hK
                rw [if_pos (by rfl)]
                refine wp_build_bool _ rfl fl rfl ?_
                rw [← HW10.out]
                refine hK.out _ _ hx10 (fun _ => ?_)
                clear hK KQ
                try simp only [Act.put, List.setIfInBounds_toArray, List.set_cons_zero, List.set_cons_succ]
                refine zready_15 (by kernel_rfl) ?_
                intro KQ hK
                rw [if_pos (by rfl)]
                refine wp_app_elemL w10 _ _ 24 rfl B 4 (.bool false) 1 1 Try.underlying24 info_bool rfl (by decide) (by decide) pv nQ (bools ps) rfl HS10.out.rowP w9.heap.size [.bool fl] rfl rfl HCN.out (fun u hu => by rw [List.mem_singleton] at hu; rw [hu]; rfl) (by omega) HS10.out.hB ?_
                intro g2 c9 w11 ho11 hg11 hat11
                obtain ⟨⟨hbx11, hx11⟩, hs12⟩ := HS10.out.flag ho11 hg11 hat11
                refine hK.out _ _ hx11 (fun _ => ?_)
                clear hK KQ
                try simp only [Act.put, List.setIfInBounds_toArray, List.set_cons_zero, List.set_cons_succ]
                refine ztake_16 (v := ?vv20) (by kernel_rfl) (by kernel_rfl) (by kernel_rfl) (fun _ _ _ h => h) (Or.inl ⟨by rfl, ?hy20⟩) hx11 ?_
                case hy20 =>
                  intro wX hSw
                  go_simp
                  try with_reducible rfl
                try simp only [Act.put, List.setIfInBounds_toArray, List.set_cons_zero, List.set_cons_succ]
                have k11 := (hbx11.2 3 _ rfl).1
                have f11 := (hbx11.2 3 _ rfl).2
                obtain ⟨w12, hw12⟩ : ∃ w12, w12 = w11.setCell ⟨gx, 3, none⟩ (.slice (some ⟨g2, 0, none⟩) (nQ + 1) c9) := ⟨_, rfl⟩
                rw [← hw12] at hs12
                have HS12 := Lib.hid hs12
                have hx12 := hs12.bel
                clear hs12 ho11 hg11 hat11 hbx11
                refine zready_17 (by kernel_rfl) ?_
                intro KQ hK
                rw [if_pos (by rfl)]
                unfold Oper.wp execOp
                go_simp
                rw [← hw12]
                refine hK.out _ _ hx12 (fun _ => ?_)
                clear hK KQ
                try simp only [Act.put, List.setIfInBounds_toArray, List.set_cons_zero, List.set_cons_succ]
                clear hw12 k11 f11
                refine wpAnyH_done (by kernel_rfl) ?_ _
                go_wp2_with fail
                go_roundw
                case rel => exact ⟨k + 1, _, _, nL + 1, nQ + 1, _, _, by go_num, by omega, by omega, by omega, by omega, HS12.out⟩
                case measure => simp [intOf]; omega
              · intro KQ hK
                rw [if_pos (by rfl)]
                refine wp_build_bool _ rfl fl rfl ?_
                rw [← HW10.out]
                refine hK.out _ _ hx10 (fun _ => ?_)
                clear hK KQ cl
                try simp only [Act.put, List.setIfInBounds_toArray, List.set_cons_zero, List.set_cons_succ]
                refine zready_1 (by kernel_rfl) ?_
                intro KQ hK
                rw [if_pos (by rfl)]
                unfold Oper.wp execOp
                go_simp
                refine hK.out _ _ hx10 (fun _ => ?_)
                clear hK KQ
                try simp only [Act.put, List.setIfInBounds_toArray, List.set_cons_zero, List.set_cons_succ]
                refine zready_15 (by kernel_rfl) ?_
                intro KQ hK
                rw [if_pos (by rfl)]
                refine wp_app_elemL w10 _ _ 24 rfl B 4 (.bool false) 1 1 Try.underlying24 info_bool rfl (by decide) (by decide) pv nQ (bools ps) rfl HS10.out.rowP w9.heap.size [.bool fl] rfl rfl HCN.out (fun u hu => by rw [List.mem_singleton] at hu; rw [hu]; rfl) (by omega) HS10.out.hB ?_
                intro g2 c9 w11 ho11 hg11 hat11
                obtain ⟨⟨hbx11, hx11⟩, hs12⟩ := HS10.out.flag ho11 hg11 hat11
                refine hK.out _ _ hx11 (fun _ => ?_)
                clear hK KQ
                try simp only [Act.put, List.setIfInBounds_toArray, List.set_cons_zero, List.set_cons_succ]
                refine ztake_16 (v := ?vv21) (by kernel_rfl) (by kernel_rfl) (by kernel_rfl) (fun _ _ _ h => h) (Or.inl ⟨by rfl, ?hy21⟩) hx11 ?_
                case hy21 =>
                  intro wX hSw
                  go_simp
                  try with_reducible rfl
                try simp only [Act.put, List.setIfInBounds_toArray, List.set_cons_zero, List.set_cons_succ]
                have k11 := (hbx11.2 3 _ rfl).1
                have f11 := (hbx11.2 3 _ rfl).2
                obtain ⟨w12, hw12⟩ : ∃ w12, w12 = w11.setCell ⟨gx, 3, none⟩ (.slice (some ⟨g2, 0, none⟩) (nQ + 1) c9) := ⟨_, rfl⟩
                rw [← hw12] at hs12
                have HS12 := Lib.hid hs12
                have hx12 := hs12.bel
                clear hs12 ho11 hg11 hat11 hbx11
                refine zready_17 (by kernel_rfl) ?_
                intro KQ hK
                rw [if_pos (by rfl)]
                unfold Oper.wp execOp
                go_simp
                rw [← hw12]
                refine hK.out _ _ hx12 (fun _ => ?_)
                clear hK KQ
                try simp only [Act.put, List.setIfInBounds_toArray, List.set_cons_zero, List.set_cons_succ]
                clear hw12 k11 f11
                refine wpAnyH_done (by kernel_rfl) ?_ _
                go_wp2_with fail
                go_roundw
                case rel => exact ⟨k + 1, _, _, nL + 1, nQ + 1, _, _, by go_num, by omega, by omega, by omega, by omega, HS12.out⟩
                case measure => simp [intOf]; omega
            · have i3 : (nP : Int) ≤ (k : Int) := by omega
              obtain ⟨fl, hfl⟩ : ∃ fl, fl = true := ⟨_, rfl⟩
              refine ztake_0 (v := ?vv22) (by kernel_rfl) (by kernel_rfl) (by kernel_rfl) (fun _ _ _ h => h) (Or.inl ⟨by rfl, ?hy22⟩) hx9 ?_
              case hy22 =>
                intro wX hSw
                have hcp := HC3.out _ hSw
                go_simp
                try with_reducible rfl
              try simp only [Act.put, List.setIfInBounds_toArray, List.set_cons_zero, List.set_cons_succ]
              refine ztake_2 (v := ?vv23) (by kernel_rfl) (by kernel_rfl) (by kernel_rfl) (fun _ _ _ h => h) (Or.inl ⟨by rfl, ?hy23⟩) hx9 ?_
              case hy23 =>
                intro wX hSw
                have hcp := HC3.out _ hSw
                go_simp
                try with_reducible rfl
              try simp only [Act.put, List.setIfInBounds_toArray, List.set_cons_zero, List.set_cons_succ]
              refine ztake_3 (v := ?vv24) (by kernel_rfl) (by kernel_rfl) (by kernel_rfl) (fun _ _ _ h => h) (Or.inl ⟨by rfl, ?hy24⟩) hx9 ?_
              case hy24 =>
                intro wX hSw
                have hcp := HC3.out _ hSw
                go_simp
                try with_reducible rfl
              try simp only [Act.put, List.setIfInBounds_toArray, List.set_cons_zero, List.set_cons_succ]
              refine ztake_4 (v := ?vv25) (by kernel_rfl) (by kernel_rfl) (by kernel_rfl) (fun _ _ _ h => h) (Or.inl ⟨by rfl, ?hy25⟩) hx9 ?_
              case hy25 =>
                intro wX hSw
                have hcp := HC3.out _ hSw
                go_simp
                try with_reducible rfl
              try simp only [Act.put, List.setIfInBounds_toArray, List.set_cons_zero, List.set_cons_succ]
              refine ztake_5 (v := ?vv26) (by kernel_rfl) (by kernel_rfl) (by kernel_rfl) (fun _ _ _ h => h) (Or.inl ⟨by rfl, ?hy26⟩) hx9 ?_
              case hy26 =>
                intro wX hSw
                have hcp := HC3.out _ hSw
                go_simp
                try with_reducible rfl
              try simp only [Act.put, List.setIfInBounds_toArray, List.set_cons_zero, List.set_cons_succ]
              refine ztake_6 (v := ?vv27) (by kernel_rfl) (by kernel_rfl) (by kernel_rfl) (fun _ _ _ h => h) (Or.inl ⟨by rfl, ?hy27⟩) hx9 ?_
              case hy27 =>
                intro wX hSw
                have hcp := HC3.out _ hSw
                go_simp
                try with_reducible rfl
              try simp only [Act.put, List.setIfInBounds_toArray, List.set_cons_zero, List.set_cons_succ]
              refine ztake_7 (v := ?vv28) (by kernel_rfl) (by kernel_rfl) (by kernel_rfl) (fun _ _ _ h => h) (Or.inl ⟨by rfl, ?hy28⟩) hx9 ?_
              case hy28 =>
                intro wX hSw
                have hcp := HC3.out _ hSw
                go_simp
                try with_reducible rfl
              try simp only [Act.put, List.setIfInBounds_toArray, List.set_cons_zero, List.set_cons_succ]
              refine ztake_8 (v := undef) (by kernel_rfl) (by kernel_rfl) (by kernel_rfl) (fun _ _ _ h => h) (Or.inr ⟨by rfl, rfl⟩) hx9 ?_
              try simp only [Act.put, List.setIfInBounds_toArray, List.set_cons_zero, List.set_cons_succ]
              refine ztake_9 (v := undef) (by kernel_rfl) (by kernel_rfl) (by kernel_rfl) (fun _ _ _ h => h) (Or.inr ⟨by rfl, rfl⟩) hx9 ?_
              try simp only [Act.put, List.setIfInBounds_toArray, List.set_cons_zero, List.set_cons_succ]
              refine ztake_10 (v := undef) (by kernel_rfl) (by kernel_rfl) (by kernel_rfl) (fun _ _ _ h => h) (Or.inr ⟨by rfl, rfl⟩) hx9 ?_
              try simp only [Act.put, List.setIfInBounds_toArray, List.set_cons_zero, List.set_cons_succ]
              refine ztake_11 (v := undef) (by kernel_rfl) (by kernel_rfl) (by kernel_rfl) (fun _ _ _ h => h) (Or.inr ⟨by rfl, rfl⟩) hx9 ?_
              try simp only [Act.put, List.setIfInBounds_toArray, List.set_cons_zero, List.set_cons_succ]
              refine ztake_12 (v := undef) (by kernel_rfl) (by kernel_rfl) (by kernel_rfl) (fun _ _ _ h => h) (Or.inr ⟨by rfl, rfl⟩) hx9 ?_
              try simp only [Act.put, List.setIfInBounds_toArray, List.set_cons_zero, List.set_cons_succ]
              refine ztake_13 (v := ?vv29) (by kernel_rfl) (by kernel_rfl) (by kernel_rfl) (fun _ _ _ h => h) (Or.inl ⟨by rfl, ?hy29⟩) hx9 ?_
              case hy29 =>
                intro wX hSw
                go_simp
                try with_reducible rfl
              try simp only [Act.put, List.setIfInBounds_toArray, List.set_cons_zero, List.set_cons_succ]
              have cl := (HS9.out.box.2 3 _ rfl).1
              obtain ⟨w10, hw10⟩ : ∃ w10, w10 = w9.alloc (.cells #[.bool fl] 4) := ⟨_, rfl⟩
              have HS10 := Lib.hid (show OnlySt w1 B gx s (.slice (some ⟨g', 0, none⟩) (nL + 1) c') pv (nL + 1) nQ (ms ++ [(m, a)]) ps w10 by rw [hw10]; exact HS9.out.below ((Below.refl _ _).alloc (Nat.le_refl _) _))
              have HCN : Hid (∀ i u, [Value.bool fl][i]? = some u → w10.cell? ⟨w9.heap.size, i, none⟩ = some u) := by show ∀ i u, _; rw [hw10]; exact cells_new w9 [.bool fl] 4
              have cl3 := (HS10.out.box.2 3 _ rfl).1
              have hx10 := HS10.out.bel
              have HW10 := Lib.hid hw10
              clear hw10
              refine zready_1_14 (by kernel_rfl) ?_ ?_
              · intro KQ hK
                rw [if_pos (by rfl)]
                clear cl3
                unfold Oper.wp execOp
                go_simp
                refine hK.out _ _ hx9 (fun _ => ?_)
                clear hK KQ
                try simp only [Act.put, List.setIfInBounds_toArray, List.set_cons_zero, List.set_cons_succ]
                refine zready_14 (by kernel_rfl) ?_
                intro KQ hK
                rw [if_pos (by rfl)]
                refine wp_build_bool _ rfl fl (by rw [hfl]; rfl) ?_
                rw [← HW10.out]
                refine hK.out _ _ hx10 (fun _ => ?_)
                clear hK KQ
                try simp only [Act.put, List.setIfInBounds_toArray, List.set_cons_zero, List.set_cons_succ]
                refine zready_15 (by kernel_rfl) ?_
                intro KQ hK
                rw [if_pos (by rfl)]
                refine wp_app_elemL w10 _ _ 24 rfl B 4 (.bool false) 1 1 Try.underlying24 info_bool rfl (by decide) (by decide) pv nQ (bools ps) rfl HS10.out.rowP w9.heap.size [.bool fl] rfl rfl HCN.out (fun u hu => by rw [List.mem_singleton] at hu; rw [hu]; rfl) (by omega) HS10.out.hB ?_
                intro g2 c9 w11 ho11 hg11 hat11
                obtain ⟨⟨hbx11, hx11⟩, hs12⟩ := HS10.out.flag ho11 hg11 hat11
                refine hK.out _ _ hx11 (fun _ => ?_)
                clear hK KQ
                try simp only [Act.put, List.setIfInBounds_toArray, List.set_cons_zero, List.set_cons_succ]
                refine ztake_16 (v := ?vv30) (by kernel_rfl) (by kernel_rfl) (by kernel_rfl) (fun _ _ _ h => h) (Or.inl ⟨by rfl, ?hy30⟩) hx11 ?_
                case hy30 =>
                  intro wX hSw
                  go_simp
                  try with_reducible rfl
                try simp only [Act.put, List.setIfInBounds_toArray, List.set_cons_zero, List.set_cons_succ]
                have k11 := (hbx11.2 3 _ rfl).1
                have f11 := (hbx11.2 3 _ rfl).2
                obtain ⟨w12, hw12⟩ : ∃ w12, w12 = w11.setCell ⟨gx, 3, none⟩ (.slice (some ⟨g2, 0, none⟩) (nQ + 1) c9) := ⟨_, rfl⟩
                rw [← hw12] at hs12
                have HS12 := Lib.hid hs12
                have hx12 := hs12.bel
                clear hs12 ho11 hg11 hat11 hbx11
                refine zready_17 (by kernel_rfl) ?_
                intro KQ hK
                rw [if_pos (by rfl)]
                unfold Oper.wp execOp
                go_simp
                rw [← hw12]
                refine hK.out _ _ hx12 (fun _ => ?_)
                clear hK KQ
                try simp only [Act.put, List.setIfInBounds_toArray, List.set_cons_zero, List.set_cons_succ]
                clear hw12 k11 f11
                refine wpAnyH_done (by kernel_rfl) ?_ _
                go_wp2_with fail
                go_roundw
                case rel => exact ⟨k + 1, _, _, nL + 1, nQ + 1, _, _, by go_num, by omega, by omega, by omega, by omega, HS12.out⟩
                case measure => simp [intOf]; omega
              · intro KQ hK
                rw [if_pos (by rfl)]
                refine wp_build_bool _ rfl fl (by rw [hfl]; rfl) ?_
                rw [← HW10.out]
                refine hK.out _ _ hx10 (fun _ => ?_)
                clear hK KQ cl
                try simp only [Act.put, List.setIfInBounds_toArray, List.set_cons_zero, List.set_cons_succ]
                refine zready_1 (by kernel_rfl) ?_
                intro KQ hK
                rw [if_pos (by rfl)]
                unfold Oper.wp execOp
                go_simp
                refine hK.out _ _ hx10 (fun _ => ?_)
                clear hK KQ
                try simp only [Act.put, List.setIfInBounds_toArray, List.set_cons_zero, List.set_cons_succ]
                refine zready_15 (by kernel_rfl) ?_
                intro KQ hK
                rw [if_pos (by rfl)]
                refine wp_app_elemL w10 _ _ 24 rfl B 4 (.bool false) 1 1 Try.underlying24 info_bool rfl (by decide) (by decide) pv nQ (bools ps) rfl HS10.out.rowP w9.heap.size [.bool fl] rfl rfl HCN.out (fun u hu => by rw [List.mem_singleton] at hu; rw [hu]; rfl) (by omega) HS10.out.hB ?_
                intro g2 c9 w11 ho11 hg11 hat11
                obtain ⟨⟨hbx11, hx11⟩, hs12⟩ := HS10.out.flag ho11 hg11 hat11
                refine hK.out _ _ hx11 (fun _ => ?_)
                clear hK KQ
                try simp only [Act.put, List.setIfInBounds_toArray, List.set_cons_zero, List.set_cons_succ]
                refine ztake_16 (v := ?vv31) (by kernel_rfl) (by kernel_rfl) (by kernel_rfl) (fun _ _ _ h => h) (Or.inl ⟨by rfl, ?hy31⟩) hx11 ?_
                case hy31 =>
                  intro wX hSw
                  go_simp
                  try with_reducible rfl
                try simp only [Act.put, List.setIfInBounds_toArray, List.set_cons_zero, List.set_cons_succ]
                have k11 := (hbx11.2 3 _ rfl).1
                have f11 := (hbx11.2 3 _ rfl).2
                obtain ⟨w12, hw12⟩ : ∃ w12, w12 = w11.setCell ⟨gx, 3, none⟩ (.slice (some ⟨g2, 0, none⟩) (nQ + 1) c9) := ⟨_, rfl⟩
                rw [← hw12] at hs12
                have HS12 := Lib.hid hs12
                have hx12 := hs12.bel
                clear hs12 ho11 hg11 hat11 hbx11
                refine zready_17 (by kernel_rfl) ?_
                intro KQ hK
                rw [if_pos (by rfl)]
                unfold Oper.wp execOp
                go_simp
                rw [← hw12]
                refine hK.out _ _ hx12 (fun _ => ?_)
                clear hK KQ
                try simp only [Act.put, List.setIfInBounds_toArray, List.set_cons_zero, List.set_cons_succ]
                clear hw12 k11 f11
                refine wpAnyH_done (by kernel_rfl) ?_ _
                go_wp2_with fail
                go_roundw
                case rel => exact ⟨k + 1, _, _, nL + 1, nQ + 1, _, _, by go_num, by omega, by omega, by omega, by omega, HS12.out⟩
                case measure => simp [intOf]; omega
          · intro KQ hK
            rw [if_pos (by rfl)]
            refine wp_build_msg _ rfl m a rfl ?_
            rw [← HW3.out]
            refine hK.out _ _ hx3 (fun _ => ?_)
            clear hK KQ cl
            try simp only [Act.put, List.setIfInBounds_toArray, List.set_cons_zero, List.set_cons_succ]
            refine zready_1 (by kernel_rfl) ?_
            intro KQ hK
            rw [if_pos (by rfl)]
            unfold Oper.wp execOp
            go_simp
            refine hK.out _ _ hx3 (fun _ => ?_)
            clear hK KQ
            try simp only [Act.put, List.setIfInBounds_toArray, List.set_cons_zero, List.set_cons_succ]
            refine zready_8 (by kernel_rfl) ?_
            intro KQ hK
            rw [if_pos (by rfl)]
            refine wp_app_elemL w3 _ _ 23 rfl B 42 (msgV zeroM zeroA) 18 256 Try.underlying23 info_mes8 rfl (by decide) (by decide) lv nL (cellsM ms) rfl HS3.out.rowL w2.heap.size (msgC m a) rfl rfl HC3N.out (one_msg m a) (by omega) HS3.out.hB ?_
            intro g' c' w5 ho5 hg5 hat5
            obtain ⟨⟨hbx5, hx5⟩, hs8⟩ := HS3.out.msg HMEM.out ho5 hg5 hat5
            refine hK.out _ _ hx5 (fun _ => ?_)
            clear hK KQ
            try simp only [Act.put, List.setIfInBounds_toArray, List.set_cons_zero, List.set_cons_succ]
            refine ztake_9 (v := ?vv32) (by kernel_rfl) (by kernel_rfl) (by kernel_rfl) (fun _ _ _ h => h) (Or.inl ⟨by rfl, ?hy32⟩) hx5 ?_
            case hy32 =>
              intro wX hSw
              go_simp
              try with_reducible rfl
            try simp only [Act.put, List.setIfInBounds_toArray, List.set_cons_zero, List.set_cons_succ]
            have k5 := (hbx5.2 2 _ rfl).1
            have f5 := (hbx5.2 2 _ rfl).2
            obtain ⟨w8, hw8⟩ : ∃ w8, w8 = w5.setCell ⟨gx, 2, none⟩ (.slice (some ⟨g', 0, none⟩) (nL + 1) c') := ⟨_, rfl⟩
            rw [← hw8] at hs8
            have HS8 := Lib.hid hs8
            have hx8 := hs8.bel
            clear hs8 ho5 hg5 hat5 hbx5
            refine zready_10 (by kernel_rfl) ?_
            intro KQ hK
            rw [if_pos (by rfl)]
            unfold Oper.wp execOp
            go_simp
            rw [← hw8]
            refine hK.out _ _ hx8 (fun _ => ?_)
            clear hK KQ
            try simp only [Act.put, List.setIfInBounds_toArray, List.set_cons_zero, List.set_cons_succ]
            clear hw8 k5 f5
            refine wpAnyH_done (by kernel_rfl) ?_ _
            go_upto_region 9 with fail
            have c3 := HC3.out _ hx8
            obtain ⟨w9, hw9⟩ : ∃ w9, w9 = w8.drew := ⟨_, rfl⟩
            have HS9 : Hid (OnlySt w1 B gx s (.slice (some ⟨g', 0, none⟩) (nL + 1) c') pv (nL + 1) nQ (ms ++ [(m, a)]) ps w9) := by rw [hw9]; exact HS8.out.below (Below.refl _ _).drew
            have hx9 := HS9.out.bel
            have HW9 := Lib.hid hw9
            clear c3
            refine wp_region_held_drew (S := fun w' => Below w1.heap.size w1 w') (by kernel_rfl) (by rw [← hw9]; exact hx9) (fun _ => ?_)
            rw [← HW9.out]
            clear hw9
            by_cases hP : k < nP
            · have i3 : ¬ ((nP : Int) ≤ (k : Int)) := by omega
              have i4 : (k : Int) < (nP : Int) := by omega
              obtain ⟨bP, oP, xP, hAP, _⟩ := (HI.out _ hx9).put_ (k := k) (by rw [HNP.out]; exact hP)
              have HCP : Hid (∀ wX, Below w1.heap.size w1 wX → wX.cell? ⟨gs, 3, none⟩ = some (.slice (some ⟨bP, oP, none⟩) nP s.cP) ∧ wX.cell? ⟨bP, oP + k, none⟩ = some (.bool (s.P[k]?.getD false))) := fun wX h => ⟨by rw [← hAP]; exact HC3.out _ h, rd_cell (HI.out _ h).rP hAP (bools_at (by rw [(HI.out _ h).zP, HNP.out]; exact hP))⟩
              clear hAP
              obtain ⟨fl, hfl⟩ : ∃ fl, fl = s.P[k]?.getD false := ⟨_, rfl⟩
              rw [← hfl] at HCP
              clear hfl
              refine ztake_0 (v := ?vv33) (by kernel_rfl) (by kernel_rfl) (by kernel_rfl) (fun _ _ _ h => h) (Or.inl ⟨by rfl, ?hy33⟩) hx9 ?_
              case hy33 =>
                intro wX hSw
                obtain ⟨hcp, hcq⟩ := HCP.out _ hSw
                go_simp
                try with_reducible rfl
              try simp only [Act.put, List.setIfInBounds_toArray, List.set_cons_zero, List.set_cons_succ]
              refine ztake_2 (v := ?vv34) (by kernel_rfl) (by kernel_rfl) (by kernel_rfl) (fun _ _ _ h => h) (Or.inl ⟨by rfl, ?hy34⟩) hx9 ?_
              case hy34 =>
                intro wX hSw
                obtain ⟨hcp, hcq⟩ := HCP.out _ hSw
                go_simp
                try with_reducible rfl
              try simp only [Act.put, List.setIfInBounds_toArray, List.set_cons_zero, List.set_cons_succ]
              refine ztake_3 (v := ?vv35) (by kernel_rfl) (by kernel_rfl) (by kernel_rfl) (fun _ _ _ h => h) (Or.inl ⟨by rfl, ?hy35⟩) hx9 ?_
              case hy35 =>
                intro wX hSw
                obtain ⟨hcp, hcq⟩ := HCP.out _ hSw
                go_simp
                try with_reducible rfl
              try simp only [Act.put, List.setIfInBounds_toArray, List.set_cons_zero, List.set_cons_succ]
              refine ztake_4 (v := ?vv36) (by kernel_rfl) (by kernel_rfl) (by kernel_rfl) (fun _ _ _ h => h) (Or.inl ⟨by rfl, ?hy36⟩) hx9 ?_
              case hy36 =>
                intro wX hSw
                obtain ⟨hcp, hcq⟩ := HCP.out _ hSw
                go_simp
                try with_reducible rfl
              try simp only [Act.put, List.setIfInBounds_toArray, List.set_cons_zero, List.set_cons_succ]
              refine ztake_5 (v := ?vv37) (by kernel_rfl) (by kernel_rfl) (by kernel_rfl) (fun _ _ _ h => h) (Or.inl ⟨by rfl, ?hy37⟩) hx9 ?_
              case hy37 =>
                intro wX hSw
                obtain ⟨hcp, hcq⟩ := HCP.out _ hSw
                go_simp
                try with_reducible rfl
              try simp only [Act.put, List.setIfInBounds_toArray, List.set_cons_zero, List.set_cons_succ]
              refine ztake_6 (v := ?vv38) (by kernel_rfl) (by kernel_rfl) (by kernel_rfl) (fun _ _ _ h => h) (Or.inl ⟨by rfl, ?hy38⟩) hx9 ?_
              case hy38 =>
                intro wX hSw
                obtain ⟨hcp, hcq⟩ := HCP.out _ hSw
                go_simp
                try with_reducible rfl
              try simp only [Act.put, List.setIfInBounds_toArray, List.set_cons_zero, List.set_cons_succ]
              refine ztake_7 (v := ?vv39) (by kernel_rfl) (by kernel_rfl) (by kernel_rfl) (fun _ _ _ h => h) (Or.inl ⟨by rfl, ?hy39⟩) hx9 ?_
              case hy39 =>
                intro wX hSw
                obtain ⟨hcp, hcq⟩ := HCP.out _ hSw
                go_simp
                try with_reducible rfl
              try simp only [Act.put, List.setIfInBounds_toArray, List.set_cons_zero, List.set_cons_succ]
              refine ztake_8 (v := ?vv40) (by kernel_rfl) (by kernel_rfl) (by kernel_rfl) (fun _ _ _ h => h) (Or.inl ⟨by rfl, ?hy40⟩) hx9 ?_
              case hy40 =>
                intro wX hSw
                obtain ⟨hcp, hcq⟩ := HCP.out _ hSw
                go_simp
                try with_reducible rfl
              try simp only [Act.put, List.setIfInBounds_toArray, List.set_cons_zero, List.set_cons_succ]
              refine ztake_9 (v := ?vv41) (by kernel_rfl) (by kernel_rfl) (by kernel_rfl) (fun _ _ _ h => h) (Or.inl ⟨by rfl, ?hy41⟩) hx9 ?_
              case hy41 =>
                intro wX hSw
                obtain ⟨hcp, hcq⟩ := HCP.out _ hSw
                go_simp
                try with_reducible rfl
              try simp only [Act.put, List.setIfInBounds_toArray, List.set_cons_zero, List.set_cons_succ]
              refine ztake_10 (v := ?vv42) (by kernel_rfl) (by kernel_rfl) (by kernel_rfl) (fun _ _ _ h => h) (Or.inl ⟨by rfl, ?hy42⟩) hx9 ?_
              case hy42 =>
                intro wX hSw
                obtain ⟨hcp, hcq⟩ := HCP.out _ hSw
                go_simp
                try with_reducible rfl
              try simp only [Act.put, List.setIfInBounds_toArray, List.set_cons_zero, List.set_cons_succ]
              refine ztake_11 (v := ?vv43) (by kernel_rfl) (by kernel_rfl) (by kernel_rfl) (fun _ _ _ h => h) (Or.inl ⟨by rfl, ?hy43⟩) hx9 ?_
              case hy43 =>
                intro wX hSw
                obtain ⟨hcp, hcq⟩ := HCP.out _ hSw
                go_simp
                try with_reducible rfl
              try simp only [Act.put, List.setIfInBounds_toArray, List.set_cons_zero, List.set_cons_succ]
              refine ztake_12 (v := ?vv44) (by kernel_rfl) (by kernel_rfl) (by kernel_rfl) (fun _ _ _ h => h) (Or.inl ⟨by rfl, ?hy44⟩) hx9 ?_
              case hy44 =>
                intro wX hSw
                obtain ⟨hcp, hcq⟩ := HCP.out _ hSw
                go_simp
                try with_reducible rfl
              try simp only [Act.put, List.setIfInBounds_toArray, List.set_cons_zero, List.set_cons_succ]
              refine ztake_13 (v := ?vv45) (by kernel_rfl) (by kernel_rfl) (by kernel_rfl) (fun _ _ _ h => h) (Or.inl ⟨by rfl, ?hy45⟩) hx9 ?_
              case hy45 =>
                intro wX hSw
                obtain ⟨hcp, hcq⟩ := HCP.out _ hSw
                go_simp
                try with_reducible rfl
              try simp only [Act.put, List.setIfInBounds_toArray, List.set_cons_zero, List.set_cons_succ]
              have cl := (HS9.out.box.2 3 _ rfl).1
              obtain ⟨w10, hw10⟩ : ∃ w10, w10 = w9.alloc (.cells #[.bool fl] 4) := ⟨_, rfl⟩
              have HS10 := Lib.hid (show OnlySt w1 B gx s (.slice (some ⟨g', 0, none⟩) (nL + 1) c') pv (nL + 1) nQ (ms ++ [(m, a)]) ps w10 by rw [hw10]; exact HS9.out.below ((Below.refl _ _).alloc (Nat.le_refl _) _))
              have HCN : Hid (∀ i u, [Value.bool fl][i]? = some u → w10.cell? ⟨w9.heap.size, i, none⟩ = some u) := by show ∀ i u, _; rw [hw10]; exact cells_new w9 [.bool fl] 4
              have cl3 := (HS10.out.box.2 3 _ rfl).1
              have hx10 := HS10.out.bel
              have HW10 := Lib.hid hw10
              clear hw10
              refine zready_1_14 (by kernel_rfl) ?_ ?_
              · intro KQ hK
                rw [if_pos (by rfl)]
                clear cl3
                unfold Oper.wp execOp
                go_simp
                refine hK.out _ _ hx9 (fun _ => ?_)
                clear hK KQ
                try simp only [Act.put, List.setIfInBounds_toArray, List.set_cons_zero, List.set_cons_succ]
                refine zready_14 (by kernel_rfl) ?_
                intro KQ hK
                rw [if_pos (by rfl)]
                refine wp_build_bool _ rfl fl rfl ?_
                rw [← HW10.out]
                refine hK.out _ _ hx10 (fun _ => ?_)
                clear hK KQ
                try simp only [Act.put, List.setIfInBounds_toArray, List.set_cons_zero, List.set_cons_succ]
                refine zready_15 (by kernel_rfl) ?_
                intro KQ hK
                rw [if_pos (by rfl)]
                refine wp_app_elemL w10 _ _ 24 rfl B 4 (.bool false) 1 1 Try.underlying24 info_bool rfl (by decide) (by decide) pv nQ (bools ps) rfl HS10.out.rowP w9.heap.size [.bool fl] rfl rfl HCN.out (fun u hu => by rw [List.mem_singleton] at hu; rw [hu]; rfl) (by omega) HS10.out.hB ?_
                intro g2 c9 w11 ho11 hg11 hat11
                obtain ⟨⟨hbx11, hx11⟩, hs12⟩ := HS10.out.flag ho11 hg11 hat11
                refine hK.out _ _ hx11 (fun _ => ?_)
                clear hK KQ
                try simp only [Act.put, List.setIfInBounds_toArray, List.set_cons_zero, List.set_cons_succ]
                refine ztake_16 (v := ?vv46) (by kernel_rfl) (by kernel_rfl) (by kernel_rfl) (fun _ _ _ h => h) (Or.inl ⟨by rfl, ?hy46⟩) hx11 ?_
                case hy46 =>
                  intro wX hSw
                  go_simp
                  try with_reducible rfl
                try simp only [Act.put, List.setIfInBounds_toArray, List.set_cons_zero, List.set_cons_succ]
                have k11 := (hbx11.2 3 _ rfl).1
                have f11 := (hbx11.2 3 _ rfl).2
                obtain ⟨w12, hw12⟩ : ∃ w12, w12 = w11.setCell ⟨gx, 3, none⟩ (.slice (some ⟨g2, 0, none⟩) (nQ + 1) c9) := ⟨_, rfl⟩
                rw [← hw12] at hs12
                have HS12 := Lib.hid hs12
                have hx12 := hs12.bel
                clear hs12 ho11 hg11 hat11 hbx11
                refine zready_17 (by kernel_rfl) ?_
                intro KQ hK
                rw [if_pos (by rfl)]
                unfold Oper.wp execOp
                go_simp
                rw [← hw12]
                refine hK.out _ _ hx12 (fun _ => ?_)
                clear hK KQ
                try simp only [Act.put, List.setIfInBounds_toArray, List.set_cons_zero, List.set_cons_succ]
                clear hw12 k11 f11
                refine wpAnyH_done (by kernel_rfl) ?_ _
                go_wp2_with fail
                go_roundw
                case rel => exact ⟨k + 1, _, _, nL + 1, nQ + 1, _, _, by go_num, by omega, by omega, by omega, by omega, HS12.out⟩
                case measure => simp [intOf]; omega
              · intro KQ hK
                rw [if_pos (by rfl)]
                refine wp_build_bool _ rfl fl rfl ?_
                rw [← HW10.out]
                refine hK.out _ _ hx10 (fun _ => ?_)
                clear hK KQ cl
                try simp only [Act.put, List.setIfInBounds_toArray, List.set_cons_zero, List.set_cons_succ]
                refine zready_1 (by kernel_rfl) ?_
                intro KQ hK
                rw [if_pos (by rfl)]
                unfold Oper.wp execOp
                go_simp
                refine hK.out _ _ hx10 (fun _ => ?_)
                clear hK KQ
                try simp only [Act.put, List.setIfInBounds_toArray, List.set_cons_zero, List.set_cons_succ]
                refine zready_15 (by kernel_rfl) ?_
                intro KQ hK
                rw [if_pos (by rfl)]
                refine wp_app_elemL w10 _ _ 24 rfl B 4 (.bool false) 1 1 Try.underlying24 info_bool rfl (by decide) (by decide) pv nQ (bools ps) rfl HS10.out.rowP w9.heap.size [.bool fl] rfl rfl HCN.out (fun u hu => by rw [List.mem_singleton] at hu; rw [hu]; rfl) (by omega) HS10.out.hB ?_
                intro g2 c9 w11 ho11 hg11 hat11
                obtain ⟨⟨hbx11, hx11⟩, hs12⟩ := HS10.out.flag ho11 hg11 hat11
                refine hK.out _ _ hx11 (fun _ => ?_)
                clear hK KQ
                try simp only [Act.put, List.setIfInBounds_toArray, List.set_cons_zero, List.set_cons_succ]
                refine ztake_16 (v := ?vv47) (by kernel_rfl) (by kernel_rfl) (by kernel_rfl) (fun _ _ _ h => h) (Or.inl ⟨by rfl, ?hy47⟩) hx11 ?_
                case hy47 =>
                  intro wX hSw
                  go_simp
                  try with_reducible rfl
                try simp only [Act.put, List.setIfInBounds_toArray, List.set_cons_zero, List.set_cons_succ]
                have k11 := (hbx11.2 3 _ rfl).1
                have f11 := (hbx11.2 3 _ rfl).2
                obtain ⟨w12, hw12⟩ : ∃ w12, w12 = w11.setCell ⟨gx, 3, none⟩ (.slice (some ⟨g2, 0, none⟩) (nQ + 1) c9) := ⟨_, rfl⟩
                rw [← hw12] at hs12
                have HS12 := Lib.hid hs12
                have hx12 := hs12.bel
                clear hs12 ho11 hg11 hat11 hbx11
                refine zready_17 (by kernel_rfl) ?_
                intro KQ hK
                rw [if_pos (by rfl)]
                unfold Oper.wp execOp
                go_simp
                rw [← hw12]
                refine hK.out _ _ hx12 (fun _ => ?_)
                clear hK KQ
                try simp only [Act.put, List.setIfInBounds_toArray, List.set_cons_zero, List.set_cons_succ]
                clear hw12 k11 f11
                refine wpAnyH_done (by kernel_rfl) ?_ _
                go_wp2_with fail
                go_roundw
                case rel => exact ⟨k + 1, _, _, nL + 1, nQ + 1, _, _, by go_num, by omega, by omega, by omega, by omega, HS12.out⟩
                case measure => simp [intOf]; omega
            · have i3 : (nP : Int) ≤ (k : Int) := by omega
              obtain ⟨fl, hfl⟩ : ∃ fl, fl = true := ⟨_, rfl⟩
              refine ztake_0 (v := ?vv48) (by kernel_rfl) (by kernel_rfl) (by kernel_rfl) (fun _ _ _ h => h) (Or.inl ⟨by rfl, ?hy48⟩) hx9 ?_
              case hy48 =>
                intro wX hSw
                have hcp := HC3.out _ hSw
                go_simp
                try with_reducible rfl
              try simp only [Act.put, List.setIfInBounds_toArray, List.set_cons_zero, List.set_cons_succ]
              refine ztake_2 (v := ?vv49) (by kernel_rfl) (by kernel_rfl) (by kernel_rfl) (fun _ _ _ h => h) (Or.inl ⟨by rfl, ?hy49⟩) hx9 ?_
              case hy49 =>
                intro wX hSw
                have hcp := HC3.out _ hSw
                go_simp
                try with_reducible rfl
              try simp only [Act.put, List.setIfInBounds_toArray, List.set_cons_zero, List.set_cons_succ]
              refine ztake_3 (v := ?vv50) (by kernel_rfl) (by kernel_rfl) (by kernel_rfl) (fun _ _ _ h => h) (Or.inl ⟨by rfl, ?hy50⟩) hx9 ?_
              case hy50 =>
                intro wX hSw
                have hcp := HC3.out _ hSw
                go_simp
                try with_reducible rfl
              try simp only [Act.put, List.setIfInBounds_toArray, List.set_cons_zero, List.set_cons_succ]
              refine ztake_4 (v := ?vv51) (by kernel_rfl) (by kernel_rfl) (by kernel_rfl) (fun _ _ _ h => h) (Or.inl ⟨by rfl, ?hy51⟩) hx9 ?_
              case hy51 =>
                intro wX hSw
                have hcp := HC3.out _ hSw
                go_simp
                try with_reducible rfl
              try simp only [Act.put, List.setIfInBounds_toArray, List.set_cons_zero, List.set_cons_succ]
              refine ztake_5 (v := ?vv52) (by kernel_rfl) (by kernel_rfl) (by kernel_rfl) (fun _ _ _ h => h) (Or.inl ⟨by rfl, ?hy52⟩) hx9 ?_
              case hy52 =>
                intro wX hSw
                have hcp := HC3.out _ hSw
                go_simp
                try with_reducible rfl
              try simp only [Act.put, List.setIfInBounds_toArray, List.set_cons_zero, List.set_cons_succ]
              refine ztake_6 (v := ?vv53) (by kernel_rfl) (by kernel_rfl) (by kernel_rfl) (fun _ _ _ h => h) (Or.inl ⟨by rfl, ?hy53⟩) hx9 ?_
              case hy53 =>
                intro wX hSw
                have hcp := HC3.out _ hSw
                go_simp
                try with_reducible rfl
              try simp only [Act.put, List.setIfInBounds_toArray, List.set_cons_zero, List.set_cons_succ]
              refine ztake_7 (v := ?vv54) (by kernel_rfl) (by kernel_rfl) (by kernel_rfl) (fun _ _ _ h => h) (Or.inl ⟨by rfl, ?hy54⟩) hx9 ?_
              case hy54 =>
                intro wX hSw
                have hcp := HC3.out _ hSw
                go_simp
                try with_reducible rfl
              try simp only [Act.put, List.setIfInBounds_toArray, List.set_cons_zero, List.set_cons_succ]
              refine ztake_8 (v := undef) (by kernel_rfl) (by kernel_rfl) (by kernel_rfl) (fun _ _ _ h => h) (Or.inr ⟨by rfl, rfl⟩) hx9 ?_
              try simp only [Act.put, List.setIfInBounds_toArray, List.set_cons_zero, List.set_cons_succ]
              refine ztake_9 (v := undef) (by kernel_rfl) (by kernel_rfl) (by kernel_rfl) (fun _ _ _ h => h) (Or.inr ⟨by rfl, rfl⟩) hx9 ?_
              try simp only [Act.put, List.setIfInBounds_toArray, List.set_cons_zero, List.set_cons_succ]
              refine ztake_10 (v := undef) (by kernel_rfl) (by kernel_rfl) (by kernel_rfl) (fun _ _ _ h => h) (Or.inr ⟨by rfl, rfl⟩) hx9 ?_
              try simp only [Act.put, List.setIfInBounds_toArray, List.set_cons_zero, List.set_cons_succ]
              refine ztake_11 (v := undef) (by kernel_rfl) (by kernel_rfl) (by kernel_rfl) (fun _ _ _ h => h) (Or.inr ⟨by rfl, rfl⟩) hx9 ?_
              try simp only [Act.put, List.setIfInBounds_toArray, List.set_cons_zero, List.set_cons_succ]
              refine ztake_12 (v := undef) (by kernel_rfl) (by kernel_rfl) (by kernel_rfl) (fun _ _ _ h => h) (Or.inr ⟨by rfl, rfl⟩) hx9 ?_
              try simp only [Act.put, List.setIfInBounds_toArray, List.set_cons_zero, List.set_cons_succ]
              refine ztake_13 (v := ?vv55) (by kernel_rfl) (by kernel_rfl) (by kernel_rfl) (fun _ _ _ h => h) (Or.inl ⟨by rfl, ?hy55⟩) hx9 ?_
              case hy55 =>
                intro wX hSw
                go_simp
                try with_reducible rfl
              try simp only [Act.put, List.setIfInBounds_toArray, List.set_cons_zero, List.set_cons_succ]
              have cl := (HS9.out.box.2 3 _ rfl).1
              obtain ⟨w10, hw10⟩ : ∃ w10, w10 = w9.alloc (.cells #[.bool fl] 4) := ⟨_, rfl⟩
              have HS10 := Lib.hid (show OnlySt w1 B gx s (.slice (some ⟨g', 0, none⟩) (nL + 1) c') pv (nL + 1) nQ (ms ++ [(m, a)]) ps w10 by rw [hw10]; exact HS9.out.below ((Below.refl _ _).alloc (Nat.le_refl _) _))
              have HCN : Hid (∀ i u, [Value.bool fl][i]? = some u → w10.cell? ⟨w9.heap.size, i, none⟩ = some u) := by show ∀ i u, _; rw [hw10]; exact cells_new w9 [.bool fl] 4
              have cl3 := (HS10.out.box.2 3 _ rfl).1
              have hx10 := HS10.out.bel
              have HW10 := Lib.hid hw10
              clear hw10
              refine zready_1_14 (by kernel_rfl) ?_ ?_
              · intro KQ hK
                rw [if_pos (by rfl)]
                clear cl3
                unfold Oper.wp execOp
                go_simp
                refine hK.out _ _ hx9 (fun _ => ?_)
                clear hK KQ
                try simp only [Act.put, List.setIfInBounds_toArray, List.set_cons_zero, List.set_cons_succ]
                refine zready_14 (by kernel_rfl) ?_
                intro KQ hK
                rw [if_pos (by rfl)]
                refine wp_build_bool _ rfl fl (by rw [hfl]; rfl) ?_
                rw [← HW10.out]
                refine hK.out _ _ hx10 (fun _ => ?_)
                clear hK KQ
                try simp only [Act.put, List.setIfInBounds_toArray, List.set_cons_zero, List.set_cons_succ]
                refine zready_15 (by kernel_rfl) ?_
                intro KQ hK
                rw [if_pos (by rfl)]
                refine wp_app_elemL w10 _ _ 24 rfl B 4 (.bool false) 1 1 Try.underlying24 info_bool rfl (by decide) (by decide) pv nQ (bools ps) rfl HS10.out.rowP w9.heap.size [.bool fl] rfl rfl HCN.out (fun u hu => by rw [List.mem_singleton] at hu; rw [hu]; rfl) (by omega) HS10.out.hB ?_
                intro g2 c9 w11 ho11 hg11 hat11
                obtain ⟨⟨hbx11, hx11⟩, hs12⟩ := HS10.out.flag ho11 hg11 hat11
                refine hK.out _ _ hx11 (fun _ => ?_)
                clear hK KQ
                try simp only [Act.put, List.setIfInBounds_toArray, List.set_cons_zero, List.set_cons_succ]
                refine ztake_16 (v := ?vv56) (by kernel_rfl) (by kernel_rfl) (by kernel_rfl) (fun _ _ _ h => h) (Or.inl ⟨by rfl, ?hy56⟩) hx11 ?_
                case hy56 =>
                  intro wX hSw
                  go_simp
                  try with_reducible rfl
                try simp only [Act.put, List.setIfInBounds_toArray, List.set_cons_zero, List.set_cons_succ]
                have k11 := (hbx11.2 3 _ rfl).1
                have f11 := (hbx11.2 3 _ rfl).2
                obtain ⟨w12, hw12⟩ : ∃ w12, w12 = w11.setCell ⟨gx, 3, none⟩ (.slice (some ⟨g2, 0, none⟩) (nQ + 1) c9) := ⟨_, rfl⟩
                rw [← hw12] at hs12
                have HS12 := Lib.hid hs12
                have hx12 := hs12.bel
                clear hs12 ho11 hg11 hat11 hbx11
                refine zready_17 (by kernel_rfl) ?_
                intro KQ hK
                rw [if_pos (by rfl)]
                unfold Oper.wp execOp
                go_simp
                rw [← hw12]
                refine hK.out _ _ hx12 (fun _ => ?_)
                clear hK KQ
                try simp only [Act.put, List.setIfInBounds_toArray, List.set_cons_zero, List.set_cons_succ]
                clear hw12 k11 f11
                refine wpAnyH_done (by kernel_rfl) ?_ _
                go_wp2_with fail
                go_roundw
                case rel => exact ⟨k + 1, _, _, nL + 1, nQ + 1, _, _, by go_num, by omega, by omega, by omega, by omega, HS12.out⟩
                case measure => simp [intOf]; omega
              · intro KQ hK
                rw [if_pos (by rfl)]
                refine wp_build_bool _ rfl fl (by rw [hfl]; rfl) ?_
                rw [← HW10.out]
                refine hK.out _ _ hx10 (fun _ => ?_)
                clear hK KQ cl
                try simp only [Act.put, List.setIfInBounds_toArray, List.set_cons_zero, List.set_cons_succ]
                refine zready_1 (by kernel_rfl) ?_
                intro KQ hK
                rw [if_pos (by rfl)]
                unfold Oper.wp execOp
                go_simp
                refine hK.out _ _ hx10 (fun _ => ?_)
                clear hK KQ
                try simp only [Act.put, List.setIfInBounds_toArray, List.set_cons_zero, List.set_cons_succ]
                refine zready_15 (by kernel_rfl) ?_
                intro KQ hK
                rw [if_pos (by rfl)]
                refine wp_app_elemL w10 _ _ 24 rfl B 4 (.bool false) 1 1 Try.underlying24 info_bool rfl (by decide) (by decide) pv nQ (bools ps) rfl HS10.out.rowP w9.heap.size [.bool fl] rfl rfl HCN.out (fun u hu => by rw [List.mem_singleton] at hu; rw [hu]; rfl) (by omega) HS10.out.hB ?_
                intro g2 c9 w11 ho11 hg11 hat11
                obtain ⟨⟨hbx11, hx11⟩, hs12⟩ := HS10.out.flag ho11 hg11 hat11
                refine hK.out _ _ hx11 (fun _ => ?_)
                clear hK KQ
                try simp only [Act.put, List.setIfInBounds_toArray, List.set_cons_zero, List.set_cons_succ]
                refine ztake_16 (v := ?vv57) (by kernel_rfl) (by kernel_rfl) (by kernel_rfl) (fun _ _ _ h => h) (Or.inl ⟨by rfl, ?hy57⟩) hx11 ?_
                case hy57 =>
                  intro wX hSw
                  go_simp
                  try with_reducible rfl
                try simp only [Act.put, List.setIfInBounds_toArray, List.set_cons_zero, List.set_cons_succ]
                have k11 := (hbx11.2 3 _ rfl).1
                have f11 := (hbx11.2 3 _ rfl).2
                obtain ⟨w12, hw12⟩ : ∃ w12, w12 = w11.setCell ⟨gx, 3, none⟩ (.slice (some ⟨g2, 0, none⟩) (nQ + 1) c9) := ⟨_, rfl⟩
                rw [← hw12] at hs12
                have HS12 := Lib.hid hs12
                have hx12 := hs12.bel
                clear hs12 ho11 hg11 hat11 hbx11
                refine zready_17 (by kernel_rfl) ?_
                intro KQ hK
                rw [if_pos (by rfl)]
                unfold Oper.wp execOp
                go_simp
                rw [← hw12]
                refine hK.out _ _ hx12 (fun _ => ?_)
                clear hK KQ
                try simp only [Act.put, List.setIfInBounds_toArray, List.set_cons_zero, List.set_cons_succ]
                clear hw12 k11 f11
                refine wpAnyH_done (by kernel_rfl) ?_ _
                go_wp2_with fail
                go_roundw
                case rel => exact ⟨k + 1, _, _, nL + 1, nQ + 1, _, _, by go_num, by omega, by omega, by omega, by omega, HS12.out⟩
                case measure => simp [intOf]; omega
        · have j1 : (m.k != kd) = true := by simp [hkk]
          clear hkk
          go_wp2_with fail
          go_roundw
          case rel => exact ⟨k + 1, lv, pv, nL, nQ, ms, ps, by go_num, by omega, by omega, by omega, by omega, HS.out⟩
          case measure => simp [intOf]; omega
      · have i2 : ¬ ((k : Int) < 12) := by omega
        obtain ⟨s', hbx', hin'⟩ := HS.out.scr (HI.out _ hb)
        have HBX' := Lib.hid hbx'
        have HIN' := Lib.hid hin'
        clear hbx' hin'
        go_wp2_with (refine wpList_load_box rfl 26 _ rfl gx rfl (scrC s') HBX'.out _ Try.underlying26 rfl size_scr ?_)
        refine (realExact_is K R s' _ HIN'.out).mono ?_
        rintro e w9 ⟨rfl, hq9⟩
        have hb9 := hb.trans (hq9.mono hb.size)
        go_wp2_with fail
        go_ret
        exact ⟨rfl, HB1.out.trans (hb9.mono HB1.out.size)⟩
    · have i1 : ¬ ((k : Int) < (nM : Int)) := by omega
      obtain ⟨s', hbx', hin'⟩ := HS.out.scr (HI.out _ hb)
      have HBX' := Lib.hid hbx'
      have HIN' := Lib.hid hin'
      clear hbx' hin'
      go_wp2_with (refine wpList_load_box rfl 26 _ rfl gx rfl (scrC s') HBX'.out _ Try.underlying26 rfl size_scr ?_)
      refine (realExact_is K R s' _ HIN'.out).mono ?_
      rintro e w9 ⟨rfl, hq9⟩
      have hb9 := hb.trans (hq9.mono hb.size)
      go_wp2_with fail
      go_ret
      exact ⟨rfl, HB1.out.trans (hb9.mono HB1.out.size)⟩

end Go.Proofs.Ytcfnomnhameleaa
