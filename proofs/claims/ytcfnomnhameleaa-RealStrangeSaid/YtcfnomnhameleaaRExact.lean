/-
  The walk of 'RealExact', out of what it asks of packages book and real.
-/
import Derived.Test.YtcfnomnhameleaaRWakes
import Derived.Test.YtcfnomnhameleaaZJ
import Derived.Test.YtcfnomnhameleaaRTake
import Derived.Great.BuildSlice
import Derived.Deep.CutBlock
namespace Go.Proofs.Ytcfnomnhameleaa
open Go.RowKit

set_option maxRecDepth 100000 in
set_option maxHeartbeats 32000000 in
theorem realExact_is {I : BookIs} (K : BookK I) (R : RContracts I) (s : ScrD) (w : World) (h : ScrIn w s) :
    Calls Try.prog 3 #[scrV s] w (Tells w.heap.size w (.bool true)) := by
  obtain ⟨w1, hw1⟩ : ∃ w1, w1 = w.alloc (.cells #[.int .i64 s.N, .slice s.Al s.nl s.cl, .slice s.AM s.nM s.cM, .slice s.AP s.nP s.cP, .slice s.AW s.nW s.cW, .slice s.AX s.nX s.cX] 26) := ⟨_, rfl⟩
  have hb1 : Below w.heap.size w w1 := by rw [hw1]; exact (Below.refl _ _).alloc (Nat.le_refl _) _
  obtain ⟨gs, hgs⟩ : ∃ gs, gs = w.heap.size := ⟨_, rfl⟩
  have bx1 : Box w1 gs (scrC s) := by rw [hw1, hgs]; exact box_new w (scrC s) 26
  have HW := Lib.hid hw1
  have HX : Hid (∀ wX, Below w1.heap.size w1 wX → Box wX gs (scrC s)) := fun wX h => bx1.below h bx1.1
  have HI : Hid (∀ wX, Below w1.heap.size w1 wX → ScrIn wX s) := fun wX hX => h.below (hb1.trans (hX.mono hb1.size))
  have HB1 := Lib.hid hb1
  clear hw1 bx1 h hb1
  unfold scrV
  go_enter Try.func3, Try.ntmps3
  go_upto_region 1 with fail
  rw [← HW.out, ← hgs]
  clear hgs
  go_wp2_with (refine wpList_load_box rfl 26 _ rfl gs rfl (scrC s) (HX.out _ (Below.refl _ _)) _ Try.underlying26 rfl size_scr ?_)
  refine (heavy8_any s _ (HI.out _ (Below.refl _ _))).mono ?_
  rintro e w2 ⟨hv, rfl, hq2, hli⟩
  cases hv with
  | true =>
    go_wp2_with fail
    go_ret
    exact ⟨rfl, HB1.out.trans (hq2.mono HB1.out.size)⟩
  | false =>
    have HL := Lib.hid (hli rfl)
    clear hli
    obtain ⟨nM, hnM⟩ : ∃ nM, s.nM = nM := ⟨_, rfl⟩
    obtain ⟨nP, hnP⟩ : ∃ nP, s.nP = nP := ⟨_, rfl⟩
    obtain ⟨nW, hnW⟩ : ∃ nW, s.nW = nW := ⟨_, rfl⟩
    obtain ⟨nX, hnX⟩ : ∃ nX, s.nX = nX := ⟨_, rfl⟩
    obtain ⟨nl, hnl⟩ : ∃ nl, s.nl = nl := ⟨_, rfl⟩
    have HNM := Lib.hid hnM
    have HNP := Lib.hid hnP
    have HNW := Lib.hid hnW
    have HNX := Lib.hid hnX
    have HNL := Lib.hid hnl
    have hl100 : nl ≤ 100 := by have := HL.out.2.1; omega
    have HW200 : Hid (nW ≤ 200) := by have := HL.out.2.2.1; show nW ≤ 200; omega
    have HC0 : Hid (∀ wX, Below w1.heap.size w1 wX → wX.cell? ⟨gs, 0, none⟩ = some (.int .i64 s.N)) := fun wX h => ((HX.out _ h).2 0 _ rfl).1
    have HC1 : Hid (∀ wX, Below w1.heap.size w1 wX → wX.cell? ⟨gs, 1, none⟩ = some (.slice s.Al nl s.cl)) := fun wX h => by rw [← hnl]; exact ((HX.out _ h).2 1 _ rfl).1
    have HC2 : Hid (∀ wX, Below w1.heap.size w1 wX → wX.cell? ⟨gs, 2, none⟩ = some (.slice s.AM nM s.cM)) := fun wX h => by rw [← hnM]; exact ((HX.out _ h).2 2 _ rfl).1
    have HC3 : Hid (∀ wX, Below w1.heap.size w1 wX → wX.cell? ⟨gs, 3, none⟩ = some (.slice s.AP nP s.cP)) := fun wX h => by rw [← hnP]; exact ((HX.out _ h).2 3 _ rfl).1
    have HC4 : Hid (∀ wX, Below w1.heap.size w1 wX → wX.cell? ⟨gs, 4, none⟩ = some (.slice s.AW nW s.cW)) := fun wX h => by rw [← hnW]; exact ((HX.out _ h).2 4 _ rfl).1
    have HC5 : Hid (∀ wX, Below w1.heap.size w1 wX → wX.cell? ⟨gs, 5, none⟩ = some (.slice s.AX nX s.cX)) := fun wX h => by rw [← hnX]; exact ((HX.out _ h).2 5 _ rfl).1
    clear hnM hnP hnW hnX hnl
    go_wp2_with fail
    refine (K.new _).mono ?_
    rintro e w3 ⟨gb, F0, rfl, hI, hF, hq3⟩
    have hb3 : Below w1.heap.size w1 w3 := hq2.trans (hq3.mono hq2.size)
    obtain ⟨gr, hgr⟩ : ∃ gr, gr = w3.heap.size := ⟨_, rfl⟩
    obtain ⟨w4, hw4⟩ : ∃ w4, w4 = w3.alloc (.cells #[.slice none 0 0, .slice none 0 0, .slice none 0 0] 33) := ⟨_, rfl⟩
    have hq4 : Below w3.heap.size w3 w4 := by rw [hw4]; exact (Below.refl _ _).alloc (Nat.le_refl _) _
    have hP4 : Pair I w1.heap.size gb gr F0 (fun k => k = gr) [] [] [] [] w4 := by
      refine ⟨⟨K.kept hI hq4.size fun k hk => hq4.block k (K.lt hI k hk), fun k hk => Nat.le_trans hq2.size (hF k hk)⟩, ⟨by rw [hw4, hgr]; exact ref_new w3, fun k hk => by have := hb3.size; omega⟩, fun k hk e => ?_⟩
      have := K.lt hI k hk
      omega
    have HD4 : Hid (Desk I w1.heap.size gb gr F0 (fun k => k = gr) [] [] [] [] (.slice none 0 0) 0 [] w4) := ⟨hP4, World.ownsRow_nil _ _ _ _, rfl, fun g hg => by simp [Value.ownBlock] at hg, fun x hx => by simp at hx⟩
    have hb4 : Below w1.heap.size w1 w4 := hb3.trans (hq4.mono hb3.size)
    clear hI hF hq2 hq3 hq4 hP4 hb3
    go_upto_region 7 with fail
    rw [← hw4, ← hgr]
    clear hw4 hgr
    go_upto_block 0 with fail
    go_cut [5] from 6 to 63 (fun v wx => ∃ (lv : Value) (k : Nat) (L : List (List Int)) (F G : Nat → Prop) (ms : List (MsgD × MsgA)), lv = v ∧ k ≤ 12 ∧ Hid (L.length ≤ 12) ∧ Hid (∀ y ∈ L, y.length ≤ 2000) ∧ Hid (∀ x ∈ ms, MsgOk x.1 ∧ MsgFew 1000000 x.2) ∧ Hid (Desk I w1.heap.size gb gr F G L L [] [] lv k ms wx) ∧ Below w1.heap.size w1 wx)
    case first =>
      go_wp2_with fail
      go_loopw [5, 6] (fun v i wr => ∃ (lv : Value) (k : Nat) (L : List (List Int)) (F G : Nat → Prop) (ms : List (MsgD × MsgA)), lv = v ∧ i = .int .i64 k ∧ k ≤ nM ∧ k ≤ 12 ∧ Hid (L.length ≤ k) ∧ Hid (∀ y ∈ L, y.length ≤ 2000) ∧ Hid (∀ x ∈ ms, MsgOk x.1 ∧ MsgFew 1000000 x.2) ∧ Hid (Desk I w1.heap.size gb gr F G L L [] [] lv k ms wr) ∧ Below w1.heap.size w1 wr) (fun _ i _ => 12 - (intOf i).toNat)
      case atStart => exact ⟨_, 0, [], _, _, [], rfl, rfl, by omega, by omega, Nat.le_refl 0, fun y hy => by simp at hy, fun x hx => by simp at hx, HD4.out, hb4⟩
      case round =>
        clear hb4 HD4
        obtain ⟨lv, k, L, F, G, ms, rfl, rfl, hk, hk12, HLK, HLS, HMS, HD, hb⟩ := hrel
        have i0 : (0 : Int) ≤ (k : Int) := by omega
        have c2 := HC2.out _ hb
        by_cases hlt : k < nM
        · have i1 : (k : Int) < (nM : Int) := by omega
          by_cases hk2 : k < 12
          · have i2 : (k : Int) < 12 := by omega
            obtain ⟨b, off, x, hAM, hx, hmem, hrg⟩ := (HI.out _ hb).at_ (k := k) (by rw [HNM.out]; exact hlt)
            rw [hAM] at c2
            obtain ⟨m, a⟩ := x
            have HRG := Lib.hid hrg
            have HMX : Hid (∀ wX, Below w1.heap.size w1 wX → MsgIn wX m a) := fun wX h => ((HI.out _ h).msgs _ hmem).1
            have HOX : Hid (MsgOk m) := ((HI.out _ hb).msgs _ hmem).2.1
            have HFX : Hid (MsgFew 1000000 a) := (HL.out.1 k _ hk2 hx).more (by omega)
            clear hAM hmem hrg hx
            go_wp2_with (refine wpList_load_mid rfl 42 _ rfl b (off + k * 18) rfl (msgC m a) _ HRG.out Try.underlying42 rfl size_msg ?_)
            refine (rcopyMsg_any m a _ (HMX.out _ hb) HFX.out).mono ?_
            rintro e w5 ⟨a5, rfl, hn5, hf5, hq5⟩
            have hb5 := hb.trans (hq5.mono hb.size)
            have hn5b := Lib.hid hn5
            have HF5 := Lib.hid hf5
            clear hn5 hf5
            obtain ⟨gm, hgm⟩ : ∃ gm, gm = w5.heap.size := ⟨_, rfl⟩
            have HZgm := Lib.hid (box_new w5 (msgC zeroM zeroA) 42)
            go_wp2_with (first
              | (refine wpList_store_box rfl 42 _ _ rfl w5.heap.size 0 (msgC m a5) (msgC zeroM zeroA) (msgC m a5) rfl rfl HZgm.out (by simp [msgC]) rfl size_msg rfl ?_)
              | (refine wpList_run_to rfl 42 rfl (.pointer (some ⟨w5.heap.size, 0, none⟩)) (w5.alloc (.cells (msgC zeroM zeroA).toArray 42)) (by unfold execOp msgC zeroM zeroA; go_simp; done) ?_))
            intro w6 bxgm Tgm
            have tgm := Tgm (fun k => k = w5.heap.size) rfl
            have hqw6 : Below w5.heap.size w5 w6 := ((Below.refl _ _).alloc (Nat.le_refl _) _).trans (tgm.below (fun k hk => by rw [hk]; exact Nat.le_refl _) (by simp))
            rw [← hgm] at bxgm ⊢
            clear Tgm tgm HZgm
            have hq56 : Below wr.heap.size wr w6 := hq5.trans (hqw6.mono hq5.size)
            have hb6 : Below w1.heap.size w1 w6 := hb.trans (hq56.mono hb.size)
            have HD6 := Lib.hid (HD.out.below K hq56)
            have HN6 := Lib.hid (hn5b.out.below hqw6)
            have hgm6 : wr.heap.size ≤ gm := by rw [hgm]; exact hq5.size
            have HBM6 : Hid (Box w6 gm (msgC m a5)) := bxgm
            have HGT : Hid (∀ j, (F j ∨ G j ∨ lv.ownBlock = some j) → j < wr.heap.size) := fun j hj => by
              rcases hj with hj | hj | hj
              · exact K.lt HD.out.pair.1.1 j hj
              · exact HD.out.pair.2.1.1.lt j hj
              · exact (own_lt HD.out.row hj).1
            have HGM6 := Lib.hid hgm6
            clear hq5 hqw6 hn5b hgm bxgm hgm6 HRG
            have c3 := HC3.out _ hb6
            by_cases hP : k < nP
            · have i3 : (k : Int) < (nP : Int) := by omega
              obtain ⟨bP, oP, xP, hAP, kP⟩ := (HI.out _ hb6).put_ (k := k) (by rw [HNP.out]; exact hP)
              rw [hAP] at c3
              clear hAP
              cases xP with
              | false =>
                have HFR : Hid (MsgFree w6 (fun j => F j ∨ G j ∨ lv.ownBlock = some j) m a5) := HN6.out.free fun j hj hh => by have := HGT.out j hj; have := (HN6.out.lt hh).2; omega
                obtain ⟨wa, hwa⟩ : ∃ wa, wa = w6.alloc (.cells (msgC m a5).toArray 42) := ⟨_, rfl⟩
                have hqa : Below w6.heap.size w6 wa := by rw [hwa]; exact (Below.refl _ _).alloc (Nat.le_refl _) _
                have HDA := Lib.hid (HD6.out.below K hqa)
                have HFA : Hid (MsgFree wa (fun j => F j ∨ G j ∨ lv.ownBlock = some j) m a5) := HFR.out.step (Touch.of hqa) fun _ hj => .inl hj
                have HCA : Hid (∀ i u, (msgC m a5)[i]? = some u → wa.cell? ⟨w6.heap.size, i, none⟩ = some u) := by show ∀ i u, _; rw [hwa]; exact cells_new w6 (msgC m a5) 42
                have hba : Below w1.heap.size w1 wa := hb6.trans (hqa.mono hb6.size)
                clear hqa
                go_wp2_with (first
                  | (refine wpList_load_box rfl 42 _ rfl gm rfl (msgC m a5) HBM6.out _ Try.underlying42 rfl size_msg ?_)
                  | (refine wpList_build_msg rfl _ rfl m a5 rfl ?_; rw [← hwa])
                  | (at_builtin; refine wpList_app_elemL _ rfl _ _ 23 rfl w1.heap.size 42 (msgV zeroM zeroA) 18 256 Try.underlying23 info_mes8 rfl (by decide) (by decide) lv k (cellsM ms) rfl HDA.out.row w6.heap.size (msgC m a5) rfl rfl HCA.out (one_msg m a5) (by omega) hba.size ?_))
                intro g' c' w' ho' hg' hat'
                have hat2 : lv.ownBlock = some g' ∨ g' = wa.heap.size := by rw [hwa]; first | exact hat' | simpa using hat'
                rw [← hwa] at hg'
                have HD' := Lib.hid (HDA.out.push K HFA.out ho' hg' hat2)
                have hb' : Below w1.heap.size w1 w' := hba.trans ((Touch.grown (F := fun j => lv.ownBlock = some j) hg' fun _ e => e).below (fun j hj => (own_lt HDA.out.row hj).2) hba.size)
                clear ho' hg' hat' hat2 hwa
                go_wp2_with fail
                go_roundw
                case rel => exact ⟨_, k + 1, L, _, _, ms ++ [(m, a5)], rfl, by go_num, by omega, by omega, (Nat.le_succ_of_le HLK.out), HLS.out, fun x hx => by
                  rcases List.mem_append.1 hx with hx | hx
                  · exact HMS.out x hx
                  · rw [List.mem_singleton] at hx
                    subst hx
                    exact ⟨HOX.out, HF5.out⟩, HD'.out, hb'⟩
                case measure => simp [intOf]; omega
              | true =>
                go_wp2_with (refine wpList_load_box rfl 42 _ rfl gm rfl (msgC m a5) HBM6.out _ Try.underlying42 rfl size_msg ?_)
                refine (put_is K m a5 _ HD6.out.pair (Nat.le_trans hb.size hq56.size) HN6.out.in_ HF5.out (by have := HLK.out; omega) HLS.out).mono ?_
                rintro e w7 ⟨a7, F7, G7, rfl, hP7, ht7, hF7, hG7, hn7, ha7, hf7⟩
                have hb7 : Below w1.heap.size w1 w7 := hb6.trans (ht7.below (fun j hj => by
                  rcases hj with hj | hj
                  · exact HD6.out.pair.1.2 j hj
                  · exact HD6.out.pair.2.1.2 j hj) hb6.size)
                have HBM7 : Hid (Box w7 gm (msgC m a5)) := HBM6.out.touch ht7 fun hj => by
                  have h1 := HGM6.out
                  have h2 := HGT.out gm (hj.imp id .inl)
                  omega
                have hgm6 : gm < w6.heap.size := HBM6.out.1
                have HFG7 : Hid ((∀ j, F7 j → F j ∨ w6.heap.size ≤ j) ∧ (∀ j, G7 j → G j ∨ w6.heap.size ≤ j)) := ⟨hF7, hG7⟩
                have HFR7 : Hid (MsgFree w7 (fun j => (F7 j ∨ G7 j ∨ lv.ownBlock = some j) ∨ j = gm) (putM L m) a7) := hn7.free fun j hj hh => by
                  rcases hj with (hj | hj | hj) | hj
                  · exact (ha7 j hh).1 hj
                  · exact (ha7 j hh).2 hj
                  · have := HGT.out j (.inr (.inr hj)); have := (hn7.lt hh).2; have := hq56.size; omega
                  · have := (hn7.lt hh).2; omega
                have hgm7 : gm < w7.heap.size := HBM7.out.1
                have HF7 := Lib.hid hf7
                have HP7 := Lib.hid hP7
                have HT67 := Lib.hid ht7
                obtain ⟨mp, hmp⟩ : ∃ mp, mp = putM L m := ⟨_, rfl⟩
                rw [← hmp] at HFR7 ⊢
                have HOP : Hid (MsgOk mp) := by show MsgOk mp; rw [hmp]; exact putM_ok HOX.out (by have := HLK.out; omega)
                clear hP7 ht7 hF7 hG7 hn7 ha7 hf7 hmp
                obtain ⟨gx, hgx⟩ : ∃ gx, gx = w7.heap.size := ⟨_, rfl⟩
                have HZgx := Lib.hid (box_new w7 (msgC zeroM zeroA) 42)
                go_wp2_with (first
                  | (refine wpList_store_box rfl 42 _ _ rfl w7.heap.size 0 (msgC mp a7) (msgC zeroM zeroA) (msgC mp a7) rfl rfl HZgx.out (by simp [msgC]) rfl size_msg rfl ?_)
                  | (refine wpList_run_to rfl 42 rfl (.pointer (some ⟨w7.heap.size, 0, none⟩)) (w7.alloc (.cells (msgC zeroM zeroA).toArray 42)) (by unfold execOp msgC zeroM zeroA; go_simp; done) ?_))
                intro w8 bxgx Tgx
                have tgx := Tgx (fun k => k = w7.heap.size) rfl
                have hqw8 : Below w7.heap.size w7 w8 := ((Below.refl _ _).alloc (Nat.le_refl _) _).trans (tgx.below (fun k hk => by rw [hk]; exact Nat.le_refl _) (by simp))
                rw [← hgx] at bxgx ⊢
                clear Tgx tgx HZgx
                have HBM8 : Hid (Box w8 gm (msgC m a5)) := HBM7.out.below hqw8 hgm7
                have hb8 := hb7.trans (hqw8.mono hb7.size)
                have HBX8 := Lib.hid bxgx
                have HQ8 := Lib.hid hqw8
                clear hqw8 hgx bxgx
                go_upto_region 17 with (first
                  | (refine wpList_load_box rfl 42 _ rfl gx rfl (msgC mp a7) HBX8.out _ Try.underlying42 rfl size_msg ?_)
                  | (refine wpList_store_box rfl 42 _ _ rfl gm 0 (msgC mp a7) (msgC m a5) (msgC mp a7) rfl rfl HBM8.out (by simp [msgC]) rfl size_msg rfl ?_))
                intro w9 bx9 T9
                have t9 := T9 (fun j => j = gm) rfl
                have t79 : Touch (fun j => j = gm) w7 w9 := (Touch.of HQ8.out).trans t9 fun _ e => .inl e
                have t69 : Touch (fun j => F j ∨ G j ∨ j = gm) w6 w9 := (HT67.out.mono fun _ h => h.imp id .inl).trans t79 fun _ e => .inl (.inr (.inr e))
                have hr9 : Touch (fun j => F j ∨ G j) wr w9 := (Touch.of hq56).trans t69 fun j hj => by
                  rcases hj with hj | hj | hj
                  · exact .inl (.inl hj)
                  · exact .inl (.inr hj)
                  · exact .inr (by rw [hj]; exact HGM6.out)
                have hgmF : ¬ F7 gm ∧ ¬ G7 gm := ⟨fun hj => by
                  rcases HFG7.out.1 gm hj with h2 | h2
                  · have := HGT.out gm (.inl h2); have := HGM6.out; omega
                  · omega, fun hj => by
                  rcases HFG7.out.2 gm hj with h2 | h2
                  · have := HGT.out gm (.inr (.inl h2)); have := HGM6.out; omega
                  · omega⟩
                have HD9 : Hid (Desk I w1.heap.size gb gr F7 G7 (putLB L m) (putLB L m) [] [] lv k ms w9) := HD.out.both (HP7.out.touch K t79 fun j hj => by rw [hj]; exact hgmF) hr9
                  (fun j hj => (HFG7.out.1 j hj).imp id fun e => Nat.le_trans hq56.size e) (fun j hj => (HFG7.out.2 j hj).imp id fun e => Nat.le_trans hq56.size e)
                have HFR : Hid (MsgFree w9 (fun j => F7 j ∨ G7 j ∨ lv.ownBlock = some j) mp a7) := HFR7.out.step (t79.mono fun j e => .inr e) fun j hj => .inl (.inl hj)
                have hb9 : Below w1.heap.size w1 w9 := hb7.trans (t79.below (fun j hj => by rw [hj]; exact Nat.le_trans hb.size HGM6.out) hb7.size)
                have HBM9 := Lib.hid bx9
                clear T9 t9 t79 t69 hr9 hgmF bx9
                obtain ⟨wa, hwa⟩ : ∃ wa, wa = w9.alloc (.cells (msgC mp a7).toArray 42) := ⟨_, rfl⟩
                have hqa : Below w9.heap.size w9 wa := by rw [hwa]; exact (Below.refl _ _).alloc (Nat.le_refl _) _
                have HDA := Lib.hid (HD9.out.below K hqa)
                have HFA : Hid (MsgFree wa (fun j => F7 j ∨ G7 j ∨ lv.ownBlock = some j) mp a7) := HFR.out.step (Touch.of hqa) fun _ hj => .inl hj
                have HCA : Hid (∀ i u, (msgC mp a7)[i]? = some u → wa.cell? ⟨w9.heap.size, i, none⟩ = some u) := by show ∀ i u, _; rw [hwa]; exact cells_new w9 (msgC mp a7) 42
                have hba : Below w1.heap.size w1 wa := hb9.trans (hqa.mono hb9.size)
                clear hqa
                go_wp2_with (first
                  | (refine wpList_load_box rfl 42 _ rfl gm rfl (msgC mp a7) HBM9.out _ Try.underlying42 rfl size_msg ?_)
                  | (refine wpList_build_msg rfl _ rfl mp a7 rfl ?_; rw [← hwa])
                  | (at_builtin; refine wpList_app_elemL _ rfl _ _ 23 rfl w1.heap.size 42 (msgV zeroM zeroA) 18 256 Try.underlying23 info_mes8 rfl (by decide) (by decide) lv k (cellsM ms) rfl HDA.out.row w9.heap.size (msgC mp a7) rfl rfl HCA.out (one_msg mp a7) (by omega) hba.size ?_))
                intro g' c' w' ho' hg' hat'
                have hat2 : lv.ownBlock = some g' ∨ g' = wa.heap.size := by rw [hwa]; first | exact hat' | simpa using hat'
                rw [← hwa] at hg'
                have HD' := Lib.hid (HDA.out.push K HFA.out ho' hg' hat2)
                have hb' : Below w1.heap.size w1 w' := hba.trans ((Touch.grown (F := fun j => lv.ownBlock = some j) hg' fun _ e => e).below (fun j hj => (own_lt HDA.out.row hj).2) hba.size)
                clear ho' hg' hat' hat2 hwa
                go_wp2_with fail
                go_roundw
                case rel => exact ⟨_, k + 1, (putLB L m), _, _, ms ++ [(mp, a7)], rfl, by go_num, by omega, by omega, (show (putLB L m).length ≤ k + 1 by have := putLB_len L m; have := HLK.out; omega), (putLB_small HLS.out m), fun x hx => by
                  rcases List.mem_append.1 hx with hx | hx
                  · exact HMS.out x hx
                  · rw [List.mem_singleton] at hx
                    subst hx
                    exact ⟨HOP.out, HF7.out⟩, HD'.out, hb'⟩
                case measure => simp [intOf]; omega
            · have i3 : ¬ ((k : Int) < (nP : Int)) := by omega
              have HFR : Hid (MsgFree w6 (fun j => F j ∨ G j ∨ lv.ownBlock = some j) m a5) := HN6.out.free fun j hj hh => by have := HGT.out j hj; have := (HN6.out.lt hh).2; omega
              obtain ⟨wa, hwa⟩ : ∃ wa, wa = w6.alloc (.cells (msgC m a5).toArray 42) := ⟨_, rfl⟩
              have hqa : Below w6.heap.size w6 wa := by rw [hwa]; exact (Below.refl _ _).alloc (Nat.le_refl _) _
              have HDA := Lib.hid (HD6.out.below K hqa)
              have HFA : Hid (MsgFree wa (fun j => F j ∨ G j ∨ lv.ownBlock = some j) m a5) := HFR.out.step (Touch.of hqa) fun _ hj => .inl hj
              have HCA : Hid (∀ i u, (msgC m a5)[i]? = some u → wa.cell? ⟨w6.heap.size, i, none⟩ = some u) := by show ∀ i u, _; rw [hwa]; exact cells_new w6 (msgC m a5) 42
              have hba : Below w1.heap.size w1 wa := hb6.trans (hqa.mono hb6.size)
              clear hqa
              go_wp2_with (first
                | (refine wpList_load_box rfl 42 _ rfl gm rfl (msgC m a5) HBM6.out _ Try.underlying42 rfl size_msg ?_)
                | (refine wpList_build_msg rfl _ rfl m a5 rfl ?_; rw [← hwa])
                | (at_builtin; refine wpList_app_elemL _ rfl _ _ 23 rfl w1.heap.size 42 (msgV zeroM zeroA) 18 256 Try.underlying23 info_mes8 rfl (by decide) (by decide) lv k (cellsM ms) rfl HDA.out.row w6.heap.size (msgC m a5) rfl rfl HCA.out (one_msg m a5) (by omega) hba.size ?_))
              intro g' c' w' ho' hg' hat'
              have hat2 : lv.ownBlock = some g' ∨ g' = wa.heap.size := by rw [hwa]; first | exact hat' | simpa using hat'
              rw [← hwa] at hg'
              have HD' := Lib.hid (HDA.out.push K HFA.out ho' hg' hat2)
              have hb' : Below w1.heap.size w1 w' := hba.trans ((Touch.grown (F := fun j => lv.ownBlock = some j) hg' fun _ e => e).below (fun j hj => (own_lt HDA.out.row hj).2) hba.size)
              clear ho' hg' hat' hat2 hwa
              go_wp2_with fail
              go_roundw
              case rel => exact ⟨_, k + 1, L, _, _, ms ++ [(m, a5)], rfl, by go_num, by omega, by omega, (Nat.le_succ_of_le HLK.out), HLS.out, fun x hx => by
                rcases List.mem_append.1 hx with hx | hx
                · exact HMS.out x hx
                · rw [List.mem_singleton] at hx
                  subst hx
                  exact ⟨HOX.out, HF5.out⟩, HD'.out, hb'⟩
              case measure => simp [intOf]; omega
          · have i2 : ¬ ((k : Int) < 12) := by omega
            go_wp2_with fail
            go_meet
            exact ⟨lv, k, L, F, G, ms, rfl, by omega, Nat.le_trans HLK.out hk12, HLS.out, HMS.out, HD.out, hb⟩
        · have i1 : ¬ ((k : Int) < (nM : Int)) := by omega
          go_wp2_with fail
          go_meet
          exact ⟨lv, k, L, F, G, ms, rfl, by omega, Nat.le_trans HLK.out hk12, HLS.out, HMS.out, HD.out, hb⟩
    case rest =>
      clear HD4 hb4
      obtain ⟨lv, kM, L, F1, G1, ms, rfl, hkM, HLL, HLS, HMS, HD1, hb5⟩ := hcut
      go_upto_block 2 with fail
      go_cut [5] from 6 to 103 (fun v wx => ∃ (S : List (Int × Int)) (F G : Nat → Prop), lv = v ∧ Hid (S.length ≤ 200) ∧ Hid (Desk I w1.heap.size gb gr F G L L S S lv kM ms wx) ∧ Below w1.heap.size w1 wx)
      case first =>
        go_wp2_with fail
        go_loopw [10] (fun i wr => ∃ (j : Nat) (S : List (Int × Int)) (F G : Nat → Prop), i = .int .i64 j ∧ j ≤ nW ∧ Hid (S.length ≤ j) ∧ Hid (Desk I w1.heap.size gb gr F G L L S S lv kM ms wr) ∧ Below w1.heap.size w1 wr) (fun i _ => nW - (intOf i).toNat)
        case atStart => exact ⟨0, [], _, _, rfl, by omega, Nat.le_refl 0, HD1.out, hb5⟩
        case round =>
          clear hb5 HD1
          obtain ⟨j, S, F, G, rfl, hj, HSJ, HD, hb⟩ := hrel
          have i0 : (0 : Int) ≤ (j : Int) := by omega
          have c4 := HC4.out _ hb
          have c5 := HC5.out _ hb
          have hj200 : j ≤ 200 := Nat.le_trans hj HW200.out
          by_cases hlt : j < nW
          · have i1 : (j : Int) < (nW : Int) := by omega
            by_cases hlx : j < nX
            · have i2 : (j : Int) < (nX : Int) := by omega
              obtain ⟨bW, oW, hAW, _, _⟩ := ScrIn.num_ (HI.out _ hb).rW (k := j) (by rw [(HI.out _ hb).zW, HNW.out]; exact hlt)
              obtain ⟨bX, oX, hAX, _, _⟩ := ScrIn.num_ (HI.out _ hb).rX (k := j) (by rw [(HI.out _ hb).zX, HNX.out]; exact hlx)
              obtain ⟨who, hwho⟩ : ∃ who, who = s.W[j]?.getD 0 := ⟨_, rfl⟩
              obtain ⟨dg, hdg⟩ : ∃ dg, dg = s.X[j]?.getD 0 := ⟨_, rfl⟩
              have HCW : Hid (∀ wX, Below w1.heap.size w1 wX → wX.cell? ⟨gs, 4, none⟩ = some (.slice (some ⟨bW, oW, none⟩) nW s.cW) ∧ wX.cell? ⟨bW, oW + j, none⟩ = some (.int .i64 who)) := fun wX h => ⟨by rw [← hAW]; exact HC4.out _ h, by rw [hwho]; exact rd_cell (HI.out _ h).rW hAW (i64s_at (by rw [(HI.out _ h).zW, HNW.out]; exact hlt))⟩
              have HCX : Hid (∀ wX, Below w1.heap.size w1 wX → wX.cell? ⟨gs, 5, none⟩ = some (.slice (some ⟨bX, oX, none⟩) nX s.cX) ∧ wX.cell? ⟨bX, oX + j, none⟩ = some (.int .i64 dg)) := fun wX h => ⟨by rw [← hAX]; exact HC5.out _ h, by rw [hdg]; exact rd_cell (HI.out _ h).rX hAX (i64s_at (by rw [(HI.out _ h).zX, HNX.out]; exact hlx))⟩
              clear hAW hAX hwho hdg
              obtain ⟨cd, S2, hS2, hsb, hsr⟩ := sign_two K gb gr L S who dg (by have := HLL.out; omega) (by have := HSJ.out; have := HW200.out; omega)
              have HSB := Lib.hid hsb
              have HSR := Lib.hid hsr
              have HS2 : Hid (S2.length ≤ j + 1) := by have := HSJ.out; show S2.length ≤ j + 1; omega
              have jcd : (cd != cd) = false := by simp
              clear hsb hsr hS2
              go_upto_region 21 with fail
              clear c4 c5
              have hxd : Below w1.heap.size w1 wr.drew := hb.drew
              have HDD := Lib.hid (HD.out.below K (Below.refl wr.heap.size wr).drew)
              refine wp_region_held_drew (S := fun w' => Below w1.heap.size w1 w') (by kernel_rfl) hxd (fun _ => ?_)
              refine ztake_0 (v := ?vv1) (by kernel_rfl) (by kernel_rfl) (by kernel_rfl) (fun _ _ _ h => h) (Or.inl ⟨by rfl, ?hy1⟩) hxd ?_
              case hy1 =>
                intro wX hSw
                obtain ⟨x4, x4b⟩ := HCW.out _ hSw
                obtain ⟨x5, x5b⟩ := HCX.out _ hSw
                go_simp
                try with_reducible rfl
              try simp only [Act.put, List.setIfInBounds_toArray, List.set_cons_zero, List.set_cons_succ]
              refine ztake_1 (v := ?vv2) (by kernel_rfl) (by kernel_rfl) (by kernel_rfl) (fun _ _ _ h => h) (Or.inl ⟨by rfl, ?hy2⟩) hxd ?_
              case hy2 =>
                intro wX hSw
                obtain ⟨x4, x4b⟩ := HCW.out _ hSw
                obtain ⟨x5, x5b⟩ := HCX.out _ hSw
                go_simp
                try with_reducible rfl
              try simp only [Act.put, List.setIfInBounds_toArray, List.set_cons_zero, List.set_cons_succ]
              refine ztake_2 (v := ?vv3) (by kernel_rfl) (by kernel_rfl) (by kernel_rfl) (fun _ _ _ h => h) (Or.inl ⟨by rfl, ?hy3⟩) hxd ?_
              case hy3 =>
                intro wX hSw
                obtain ⟨x4, x4b⟩ := HCW.out _ hSw
                obtain ⟨x5, x5b⟩ := HCX.out _ hSw
                go_simp
                try with_reducible rfl
              try simp only [Act.put, List.setIfInBounds_toArray, List.set_cons_zero, List.set_cons_succ]
              refine ztake_3 (v := ?vv4) (by kernel_rfl) (by kernel_rfl) (by kernel_rfl) (fun _ _ _ h => h) (Or.inl ⟨by rfl, ?hy4⟩) hxd ?_
              case hy4 =>
                intro wX hSw
                obtain ⟨x4, x4b⟩ := HCW.out _ hSw
                obtain ⟨x5, x5b⟩ := HCX.out _ hSw
                go_simp
                try with_reducible rfl
              try simp only [Act.put, List.setIfInBounds_toArray, List.set_cons_zero, List.set_cons_succ]
              refine ztake_4 (v := ?vv5) (by kernel_rfl) (by kernel_rfl) (by kernel_rfl) (fun _ _ _ h => h) (Or.inl ⟨by rfl, ?hy5⟩) hxd ?_
              case hy5 =>
                intro wX hSw
                obtain ⟨x4, x4b⟩ := HCW.out _ hSw
                obtain ⟨x5, x5b⟩ := HCX.out _ hSw
                go_simp
                try with_reducible rfl
              try simp only [Act.put, List.setIfInBounds_toArray, List.set_cons_zero, List.set_cons_succ]
              refine ztake_5 (v := ?vv6) (by kernel_rfl) (by kernel_rfl) (by kernel_rfl) (fun _ _ _ h => h) (Or.inl ⟨by rfl, ?hy6⟩) hxd ?_
              case hy6 =>
                intro wX hSw
                obtain ⟨x4, x4b⟩ := HCW.out _ hSw
                obtain ⟨x5, x5b⟩ := HCX.out _ hSw
                go_simp
                try with_reducible rfl
              try simp only [Act.put, List.setIfInBounds_toArray, List.set_cons_zero, List.set_cons_succ]
              refine ztake_6 (v := ?vv7) (by kernel_rfl) (by kernel_rfl) (by kernel_rfl) (fun _ _ _ h => h) (Or.inl ⟨by rfl, ?hy7⟩) hxd ?_
              case hy7 =>
                intro wX hSw
                obtain ⟨x4, x4b⟩ := HCW.out _ hSw
                obtain ⟨x5, x5b⟩ := HCX.out _ hSw
                go_simp
                try with_reducible rfl
              try simp only [Act.put, List.setIfInBounds_toArray, List.set_cons_zero, List.set_cons_succ]
              refine ztake_7 (v := ?vv8) (by kernel_rfl) (by kernel_rfl) (by kernel_rfl) (fun _ _ _ h => h) (Or.inl ⟨by rfl, ?hy8⟩) hxd ?_
              case hy8 =>
                intro wX hSw
                obtain ⟨x4, x4b⟩ := HCW.out _ hSw
                obtain ⟨x5, x5b⟩ := HCX.out _ hSw
                go_simp
                try with_reducible rfl
              try simp only [Act.put, List.setIfInBounds_toArray, List.set_cons_zero, List.set_cons_succ]
              refine ztake_8 (v := ?vv9) (by kernel_rfl) (by kernel_rfl) (by kernel_rfl) (fun _ _ _ h => h) (Or.inl ⟨by rfl, ?hy9⟩) hxd ?_
              case hy9 =>
                intro wX hSw
                obtain ⟨x4, x4b⟩ := HCW.out _ hSw
                obtain ⟨x5, x5b⟩ := HCX.out _ hSw
                go_simp
                try with_reducible rfl
              try simp only [Act.put, List.setIfInBounds_toArray, List.set_cons_zero, List.set_cons_succ]
              refine ztake_9 (v := ?vv10) (by kernel_rfl) (by kernel_rfl) (by kernel_rfl) (fun _ _ _ h => h) (Or.inl ⟨by rfl, ?hy10⟩) hxd ?_
              case hy10 =>
                intro wX hSw
                obtain ⟨x4, x4b⟩ := HCW.out _ hSw
                obtain ⟨x5, x5b⟩ := HCX.out _ hSw
                go_simp
                try with_reducible rfl
              try simp only [Act.put, List.setIfInBounds_toArray, List.set_cons_zero, List.set_cons_succ]
              refine ztake_10 (v := ?vv11) (by kernel_rfl) (by kernel_rfl) (by kernel_rfl) (fun _ _ _ h => h) (Or.inl ⟨by rfl, ?hy11⟩) hxd ?_
              case hy11 =>
                intro wX hSw
                obtain ⟨x4, x4b⟩ := HCW.out _ hSw
                obtain ⟨x5, x5b⟩ := HCX.out _ hSw
                go_simp
                try with_reducible rfl
              try simp only [Act.put, List.setIfInBounds_toArray, List.set_cons_zero, List.set_cons_succ]
              refine ztake_13 (v := ?vv12) (by kernel_rfl) (by kernel_rfl) (by kernel_rfl) (fun _ _ _ h => h) (Or.inl ⟨by rfl, ?hy12⟩) hxd ?_
              case hy12 =>
                intro wX hSw
                obtain ⟨x4, x4b⟩ := HCW.out _ hSw
                obtain ⟨x5, x5b⟩ := HCX.out _ hSw
                go_simp
                try with_reducible rfl
              try simp only [Act.put, List.setIfInBounds_toArray, List.set_cons_zero, List.set_cons_succ]
              refine ztake_14 (v := ?vv13) (by kernel_rfl) (by kernel_rfl) (by kernel_rfl) (fun _ _ _ h => h) (Or.inl ⟨by rfl, ?hy13⟩) hxd ?_
              case hy13 =>
                intro wX hSw
                obtain ⟨x4, x4b⟩ := HCW.out _ hSw
                obtain ⟨x5, x5b⟩ := HCX.out _ hSw
                go_simp
                try with_reducible rfl
              try simp only [Act.put, List.setIfInBounds_toArray, List.set_cons_zero, List.set_cons_succ]
              refine ztake_15 (v := ?vv14) (by kernel_rfl) (by kernel_rfl) (by kernel_rfl) (fun _ _ _ h => h) (Or.inl ⟨by rfl, ?hy14⟩) hxd ?_
              case hy14 =>
                intro wX hSw
                obtain ⟨x4, x4b⟩ := HCW.out _ hSw
                obtain ⟨x5, x5b⟩ := HCX.out _ hSw
                go_simp
                try with_reducible rfl
              try simp only [Act.put, List.setIfInBounds_toArray, List.set_cons_zero, List.set_cons_succ]
              refine ztake_16 (v := ?vv15) (by kernel_rfl) (by kernel_rfl) (by kernel_rfl) (fun _ _ _ h => h) (Or.inl ⟨by rfl, ?hy15⟩) hxd ?_
              case hy15 =>
                intro wX hSw
                obtain ⟨x4, x4b⟩ := HCW.out _ hSw
                obtain ⟨x5, x5b⟩ := HCX.out _ hSw
                go_simp
                try with_reducible rfl
              try simp only [Act.put, List.setIfInBounds_toArray, List.set_cons_zero, List.set_cons_succ]
              refine ztake_17 (v := ?vv16) (by kernel_rfl) (by kernel_rfl) (by kernel_rfl) (fun _ _ _ h => h) (Or.inl ⟨by rfl, ?hy16⟩) hxd ?_
              case hy16 =>
                intro wX hSw
                obtain ⟨x4, x4b⟩ := HCW.out _ hSw
                obtain ⟨x5, x5b⟩ := HCX.out _ hSw
                go_simp
                try with_reducible rfl
              try simp only [Act.put, List.setIfInBounds_toArray, List.set_cons_zero, List.set_cons_succ]
              refine ztake_18 (v := ?vv17) (by kernel_rfl) (by kernel_rfl) (by kernel_rfl) (fun _ _ _ h => h) (Or.inl ⟨by rfl, ?hy17⟩) hxd ?_
              case hy17 =>
                intro wX hSw
                obtain ⟨x4, x4b⟩ := HCW.out _ hSw
                obtain ⟨x5, x5b⟩ := HCX.out _ hSw
                go_simp
                try with_reducible rfl
              try simp only [Act.put, List.setIfInBounds_toArray, List.set_cons_zero, List.set_cons_succ]
              refine ztake_19 (v := ?vv18) (by kernel_rfl) (by kernel_rfl) (by kernel_rfl) (fun _ _ _ h => h) (Or.inl ⟨by rfl, ?hy18⟩) hxd ?_
              case hy18 =>
                intro wX hSw
                obtain ⟨x4, x4b⟩ := HCW.out _ hSw
                obtain ⟨x5, x5b⟩ := HCX.out _ hSw
                go_simp
                try with_reducible rfl
              try simp only [Act.put, List.setIfInBounds_toArray, List.set_cons_zero, List.set_cons_succ]
              refine ztake_20 (v := ?vv19) (by kernel_rfl) (by kernel_rfl) (by kernel_rfl) (fun _ _ _ h => h) (Or.inl ⟨by rfl, ?hy19⟩) hxd ?_
              case hy19 =>
                intro wX hSw
                obtain ⟨x4, x4b⟩ := HCW.out _ hSw
                obtain ⟨x5, x5b⟩ := HCX.out _ hSw
                go_simp
                try with_reducible rfl
              try simp only [Act.put, List.setIfInBounds_toArray, List.set_cons_zero, List.set_cons_succ]
              refine ztake_21 (v := ?vv20) (by kernel_rfl) (by kernel_rfl) (by kernel_rfl) (fun _ _ _ h => h) (Or.inl ⟨by rfl, ?hy20⟩) hxd ?_
              case hy20 =>
                intro wX hSw
                obtain ⟨x4, x4b⟩ := HCW.out _ hSw
                obtain ⟨x5, x5b⟩ := HCX.out _ hSw
                go_simp
                try with_reducible rfl
              try simp only [Act.put, List.setIfInBounds_toArray, List.set_cons_zero, List.set_cons_succ]
              refine ztake_22 (v := ?vv21) (by kernel_rfl) (by kernel_rfl) (by kernel_rfl) (fun _ _ _ h => h) (Or.inl ⟨by rfl, ?hy21⟩) hxd ?_
              case hy21 =>
                intro wX hSw
                obtain ⟨x4, x4b⟩ := HCW.out _ hSw
                obtain ⟨x5, x5b⟩ := HCX.out _ hSw
                go_simp
                try with_reducible rfl
              try simp only [Act.put, List.setIfInBounds_toArray, List.set_cons_zero, List.set_cons_succ]
              refine ztake_23 (v := ?vv22) (by kernel_rfl) (by kernel_rfl) (by kernel_rfl) (fun _ _ _ h => h) (Or.inl ⟨by rfl, ?hy22⟩) hxd ?_
              case hy22 =>
                intro wX hSw
                obtain ⟨x4, x4b⟩ := HCW.out _ hSw
                obtain ⟨x5, x5b⟩ := HCX.out _ hSw
                go_simp
                try with_reducible rfl
              try simp only [Act.put, List.setIfInBounds_toArray, List.set_cons_zero, List.set_cons_succ]
              refine zready_11 (by kernel_rfl) ?_
              intro KQ hK
              rw [if_pos (by rfl)]
              try go_simp
              refine (HSB.out _ F HDD.out.pair.1.1).mono ?_
              rintro e w6 ⟨rfl, F6, hI6, ht6, hf6⟩
              have hb6 : Below w1.heap.size w1 w6 := hxd.trans (ht6.below HDD.out.pair.1.2 hxd.size)
              have HD6 := Lib.hid (HDD.out.left hxd.size hI6 ht6 hf6)
              clear hI6 ht6 hf6
              refine hK.out _ _ hb6 (fun _ => ?_)
              clear hK KQ
              try simp only [Act.put, List.setIfInBounds_toArray, List.set_cons_zero, List.set_cons_succ]
              refine zready_12 (by kernel_rfl) ?_
              intro KQ hK
              rw [if_pos (by rfl)]
              try go_simp
              refine (num8_any _ _).mono ?_
              rintro e w' ⟨rfl, rfl⟩
              refine hK.out _ _ hb6 (fun _ => ?_)
              clear hK KQ
              try simp only [Act.put, List.setIfInBounds_toArray, List.set_cons_zero, List.set_cons_succ]
              refine zready_24 (by kernel_rfl) ?_
              intro KQ hK
              rw [if_pos (by rfl)]
              try go_simp
              refine (HSR.out _ G HD6.out.pair.2.1.1).mono ?_
              rintro e w9 ⟨rfl, G9, hR9, ht9, hf9⟩
              have hb9 : Below w1.heap.size w1 w9 := hb6.trans (ht9.below HD6.out.pair.2.1.2 hb6.size)
              have HD9 := Lib.hid (HD6.out.right K hb6.size hR9 ht9 hf9)
              clear hR9 ht9 hf9 HD6
              refine hK.out _ _ hb9 (fun _ => ?_)
              clear hK KQ
              try simp only [Act.put, List.setIfInBounds_toArray, List.set_cons_zero, List.set_cons_succ]
              refine ztake_25 (v := ?vv23) (by kernel_rfl) (by kernel_rfl) (by kernel_rfl) (fun _ _ _ h => h) (Or.inl ⟨by rfl, ?hy23⟩) hb9 ?_
              case hy23 =>
                intro wX hSw
                go_simp
                try with_reducible rfl
              try simp only [Act.put, List.setIfInBounds_toArray, List.set_cons_zero, List.set_cons_succ]
              refine wpAnyH_done (by kernel_rfl) ?_ _
              clear HDD HD
              go_wp2_with fail
              go_roundw
              case rel => exact ⟨j + 1, S2, _, _, by go_num, by omega, HS2.out, HD9.out, hb9⟩
              case measure => simp [intOf]; omega
            · have i2 : ¬ ((j : Int) < (nX : Int)) := by omega
              go_wp2_with fail
              go_meet
              exact ⟨S, F, G, rfl, Nat.le_trans HSJ.out (Nat.le_trans hj HW200.out), HD.out, hb⟩
          · have i1 : ¬ ((j : Int) < (nW : Int)) := by omega
            go_wp2_with fail
            go_meet
            exact ⟨S, F, G, rfl, Nat.le_trans HSJ.out (Nat.le_trans hj HW200.out), HD.out, hb⟩
      case rest =>
        clear HD1 hb5
        obtain ⟨S, F, G, rfl, HS200, HD, hb5⟩ := hcut
        obtain ⟨lA, lc, hlv, hrow⟩ : ∃ A c, lv = .slice A kM c ∧ True := by
          obtain ⟨A, c, e, _⟩ := ownS_slice HD.out.row
          exact ⟨A, c, e, trivial⟩
        subst hlv
        clear hrow
        go_wp2_with fail
        go_loopw [11] (fun i wr => ∃ j : Nat, i = .int .i64 j ∧ j ≤ kM ∧ Hid (Desk I w1.heap.size gb gr F G L L S S (.slice lA kM lc) kM ms wr) ∧ Below w1.heap.size w1 wr) (fun i _ => kM - (intOf i).toNat)
        case atStart => exact ⟨0, rfl, by omega, HD.out, hb5⟩
        case round =>
          clear hb5 HD
          obtain ⟨j, rfl, hj, HD, hb⟩ := hrel
          have i0 : (0 : Int) ≤ (j : Int) := by omega
          by_cases hlt : j < kM
          · have i1 : (j : Int) < (kM : Int) := by omega
            obtain ⟨⟨m, a⟩, hx⟩ : ∃ x, ms[j]? = some x := ⟨ms[j]'(by rw [HD.out.len]; exact hlt), by simp [HD.out.len, hlt]⟩
            have hmem := List.mem_of_getElem? hx
            obtain ⟨_, _, hv, bR, hbR, hbRl, _, _⟩ := HD.out.at_ hx
            cases hv
            subst hbR
            have HRG : Hid (∀ wX, Below wr.heap.size wr wX → wX.rangeAt bR (j * 18) (msgC m a)) := fun wX h => by
              obtain ⟨_, _, hv, bR2, hbR2, _, _, hc⟩ := (HD.out.below K h).at_ hx
              cases hv
              cases hbR2
              exact hc
            have HMX : Hid (∀ wX, Below wr.heap.size wr wX → MsgIn wX m a) := fun wX h => ((HD.out.below K h).msgs _ hmem).here
            have HOX : Hid (MsgOk m) := (HMS.out _ hmem).1
            have HFX : Hid (MsgFew 1000000 a) := (HMS.out _ hmem).2
            clear hx hmem hbRl
            go_wp2_with (refine wpList_load_mid rfl 42 _ rfl bR (j * 18) rfl (msgC m a) _ (HRG.out _ (Below.refl _ _)) Try.underlying42 rfl size_msg ?_)
            refine (rcopyMsg_any m a _ (HMX.out _ (Below.refl _ _)) HFX.out).mono ?_
            rintro e w5 ⟨a5, rfl, hn5, hf5, hq5⟩
            have HN5 := Lib.hid hn5
            have HF5 := Lib.hid hf5
            clear hn5 hf5
            obtain ⟨gm, hgm⟩ : ∃ gm, gm = w5.heap.size := ⟨_, rfl⟩
            have HZgm := Lib.hid (box_new w5 (msgC zeroM zeroA) 42)
            go_wp2_with (first
              | (refine wpList_store_box rfl 42 _ _ rfl w5.heap.size 0 (msgC m a5) (msgC zeroM zeroA) (msgC m a5) rfl rfl HZgm.out (by simp [msgC]) rfl size_msg rfl ?_)
              | (refine wpList_run_to rfl 42 rfl (.pointer (some ⟨w5.heap.size, 0, none⟩)) (w5.alloc (.cells (msgC zeroM zeroA).toArray 42)) (by unfold execOp msgC zeroM zeroA; go_simp; done) ?_))
            intro w6 bxgm Tgm
            have tgm := Tgm (fun k => k = w5.heap.size) rfl
            have hqw6 : Below w5.heap.size w5 w6 := ((Below.refl _ _).alloc (Nat.le_refl _) _).trans (tgm.below (fun k hk => by rw [hk]; exact Nat.le_refl _) (by simp))
            rw [← hgm] at bxgm ⊢
            clear Tgm tgm HZgm
            have hq56 : Below wr.heap.size wr w6 := hq5.trans (hqw6.mono hq5.size)
            have HM6 : Hid (∀ wX, Below w6.heap.size w6 wX → MsgIn wX m a5) := fun wX h => (HN5.out.below (hqw6.trans (h.mono hqw6.size))).in_
            have HBM6 := Lib.hid bxgm
            have HQ6 := Lib.hid hq56
            have hb6 : Below w1.heap.size w1 w6 := hb.trans (hq56.mono hb.size)
            clear hq5 hqw6 HN5 hgm bxgm hq56
            have c1 := HC1.out _ hb6
            have qi := HI.out _ hb6
            go_wp2_with fail
            refine (copyNumbers_any s.Al s.cl nl s.l _ (by rw [qi.zl]; exact HNL.out) qi.rl (by rw [← HNL.out]; exact qi.kl) (by omega)).mono ?_
            rintro e w7 ⟨v7, rfl, ho7, hq7⟩
            have hb7 := hb6.trans (hq7.mono hb6.size)
            have ho7b := own_cast ho7 (show (i64s s.l).length = nl by rw [i64s_length, qi.zl]; exact HNL.out)
            obtain ⟨A7, c7, rfl, hc7, hm7, hr7, _, hl7⟩ := own_val ho7b
            have H67 := Lib.hid hq7
            have HR7 := Lib.hid hr7
            clear hl7 ho7 ho7b qi c1 hr7 hm7 hq7
            obtain ⟨nL, hnL⟩ : ∃ nL, L.length = nL := ⟨_, rfl⟩
            have hDb : ∀ wX, Below w7.heap.size w7 wX → Desk I w1.heap.size gb gr F G L L S S (.slice (some ⟨bR, 0, none⟩) kM lc) kM ms wX := fun wX h => HD.out.below K (HQ6.out.trans ((H67.out.trans (h.mono H67.out.size)).mono HQ6.out.size))
            have HDB := Lib.hid hDb
            obtain ⟨AL, cL, kL0, hgrl⟩ := ref_row (hDb w7 (Below.refl _ _)).pair.2.1.1 hnL
            have KL : Hid (∀ wX, Below w7.heap.size w7 wX → wX.cell? ⟨gr, 0, none⟩ = some (.slice AL nL cL)) := fun wX h => (h.cell (p := ⟨gr, 0, none⟩) hgrl).trans kL0
            obtain ⟨rv, hrv⟩ : ∃ rv, realR L S s.N s.l m = rv := ⟨_, rfl⟩
            have HRV := Lib.hid hrv
            have HNL2 := Lib.hid hnL
            have j1 : (rv != rv) = false := by simp
            have j2 : ((nL : Int) != (nL : Int)) = false := by simp
            have HS1 : Hid (S.length ≤ 1000) := by have := HS200.out; show S.length ≤ 1000; omega
            have HL1 : Hid (L.length ≤ 1000) := by have := HLL.out; show L.length ≤ 1000; omega
            have HLS1 : Hid (∀ y ∈ L, y.length ≤ 1073741824) := fun y hy => by have := HLS.out y hy; omega
            have HLI : Hid (∀ wX, Below w7.heap.size w7 wX → Rd wX s.Al (i64s s.l)) := fun wX h => (HI.out _ (hb7.trans (h.mono hb7.size))).rl
            have HZL : Hid (s.l.length = nl) := by show _ = nl; rw [(HI.out _ hb7).zl]; exact HNL.out
            clear hDb kL0 hgrl hrv hnL
            go_upto_region 28 with fail
            have hxd : Below w7.heap.size w7 w7.drew := (Below.refl _ _).drew
            refine wp_region_held_drew (S := fun w' => Below w7.heap.size w7 w') (by kernel_rfl) hxd (fun _ => ?_)
            refine ztake_0 (v := ?vv24) (by kernel_rfl) (by kernel_rfl) (by kernel_rfl) (fun _ _ _ h => h) (Or.inl ⟨by rfl, ?hy24⟩) hxd ?_
            case hy24 =>
              intro wX hSw
              have hw7 := hb7.trans (hSw.mono hb7.size)
              have x0 := HC0.out _ hw7
              have x1 := HC1.out _ hw7
              have y0 := KL.out _ hSw
              go_simp
              try with_reducible rfl
            try simp only [Act.put, List.setIfInBounds_toArray, List.set_cons_zero, List.set_cons_succ]
            refine ztake_1 (v := ?vv25) (by kernel_rfl) (by kernel_rfl) (by kernel_rfl) (fun _ _ _ h => h) (Or.inl ⟨by rfl, ?hy25⟩) hxd ?_
            case hy25 =>
              intro wX hSw
              have hw7 := hb7.trans (hSw.mono hb7.size)
              have x0 := HC0.out _ hw7
              have x1 := HC1.out _ hw7
              have y0 := KL.out _ hSw
              go_simp
              try with_reducible rfl
            try simp only [Act.put, List.setIfInBounds_toArray, List.set_cons_zero, List.set_cons_succ]
            refine ztake_2 (v := ?vv26) (by kernel_rfl) (by kernel_rfl) (by kernel_rfl) (fun _ _ _ h => h) (Or.inl ⟨by rfl, ?hy26⟩) hxd ?_
            case hy26 =>
              intro wX hSw
              have hw7 := hb7.trans (hSw.mono hb7.size)
              have x0 := HC0.out _ hw7
              have x1 := HC1.out _ hw7
              have y0 := KL.out _ hSw
              go_simp
              try with_reducible rfl
            try simp only [Act.put, List.setIfInBounds_toArray, List.set_cons_zero, List.set_cons_succ]
            refine ztake_3 (v := ?vv27) (by kernel_rfl) (by kernel_rfl) (by kernel_rfl) (fun _ _ _ h => h) (Or.inl ⟨by rfl, ?hy27⟩) hxd ?_
            case hy27 =>
              intro wX hSw
              have hw7 := hb7.trans (hSw.mono hb7.size)
              have x0 := HC0.out _ hw7
              have x1 := HC1.out _ hw7
              have y0 := KL.out _ hSw
              go_simp
              try with_reducible rfl
            try simp only [Act.put, List.setIfInBounds_toArray, List.set_cons_zero, List.set_cons_succ]
            refine ztake_4 (by kernel_rfl) (by kernel_rfl) (by kernel_rfl) (fun _ _ _ h => h) (yieldsIf_load_mid rfl 42 _ rfl gm 0 rfl (msgC m a5) _ (fun w' h => box_range (HBM6.out.below (H67.out.trans (h.mono H67.out.size)) HBM6.out.1)) Try.underlying42 rfl size_msg) hxd ?_
            try simp only [Act.put, List.setIfInBounds_toArray, List.set_cons_zero, List.set_cons_succ]
            refine ztake_7 (v := ?vv28) (by kernel_rfl) (by kernel_rfl) (by kernel_rfl) (fun _ _ _ h => h) (Or.inl ⟨by rfl, ?hy28⟩) hxd ?_
            case hy28 =>
              intro wX hSw
              have hw7 := hb7.trans (hSw.mono hb7.size)
              have x0 := HC0.out _ hw7
              have x1 := HC1.out _ hw7
              have y0 := KL.out _ hSw
              go_simp
              try with_reducible rfl
            try simp only [Act.put, List.setIfInBounds_toArray, List.set_cons_zero, List.set_cons_succ]
            refine ztake_8 (v := ?vv29) (by kernel_rfl) (by kernel_rfl) (by kernel_rfl) (fun _ _ _ h => h) (Or.inl ⟨by rfl, ?hy29⟩) hxd ?_
            case hy29 =>
              intro wX hSw
              have hw7 := hb7.trans (hSw.mono hb7.size)
              have x0 := HC0.out _ hw7
              have x1 := HC1.out _ hw7
              have y0 := KL.out _ hSw
              go_simp
              try with_reducible rfl
            try simp only [Act.put, List.setIfInBounds_toArray, List.set_cons_zero, List.set_cons_succ]
            refine ztake_9 (v := ?vv30) (by kernel_rfl) (by kernel_rfl) (by kernel_rfl) (fun _ _ _ h => h) (Or.inl ⟨by rfl, ?hy30⟩) hxd ?_
            case hy30 =>
              intro wX hSw
              have hw7 := hb7.trans (hSw.mono hb7.size)
              have x0 := HC0.out _ hw7
              have x1 := HC1.out _ hw7
              have y0 := KL.out _ hSw
              go_simp
              try with_reducible rfl
            try simp only [Act.put, List.setIfInBounds_toArray, List.set_cons_zero, List.set_cons_succ]
            refine ztake_10 (v := ?vv31) (by kernel_rfl) (by kernel_rfl) (by kernel_rfl) (fun _ _ _ h => h) (Or.inl ⟨by rfl, ?hy31⟩) hxd ?_
            case hy31 =>
              intro wX hSw
              have hw7 := hb7.trans (hSw.mono hb7.size)
              have x0 := HC0.out _ hw7
              have x1 := HC1.out _ hw7
              have y0 := KL.out _ hSw
              go_simp
              try with_reducible rfl
            try simp only [Act.put, List.setIfInBounds_toArray, List.set_cons_zero, List.set_cons_succ]
            refine ztake_11 (v := ?vv32) (by kernel_rfl) (by kernel_rfl) (by kernel_rfl) (fun _ _ _ h => h) (Or.inl ⟨by rfl, ?hy32⟩) hxd ?_
            case hy32 =>
              intro wX hSw
              have hw7 := hb7.trans (hSw.mono hb7.size)
              have x0 := HC0.out _ hw7
              have x1 := HC1.out _ hw7
              have y0 := KL.out _ hSw
              go_simp
              try with_reducible rfl
            try simp only [Act.put, List.setIfInBounds_toArray, List.set_cons_zero, List.set_cons_succ]
            refine ztake_12 (v := ?vv33) (by kernel_rfl) (by kernel_rfl) (by kernel_rfl) (fun _ _ _ h => h) (Or.inl ⟨by rfl, ?hy33⟩) hxd ?_
            case hy33 =>
              intro wX hSw
              have hw7 := hb7.trans (hSw.mono hb7.size)
              have x0 := HC0.out _ hw7
              have x1 := HC1.out _ hw7
              have y0 := KL.out _ hSw
              go_simp
              try with_reducible rfl
            try simp only [Act.put, List.setIfInBounds_toArray, List.set_cons_zero, List.set_cons_succ]
            refine ztake_13 (v := ?vv34) (by kernel_rfl) (by kernel_rfl) (by kernel_rfl) (fun _ _ _ h => h) (Or.inl ⟨by rfl, ?hy34⟩) hxd ?_
            case hy34 =>
              intro wX hSw
              have hw7 := hb7.trans (hSw.mono hb7.size)
              have x0 := HC0.out _ hw7
              have x1 := HC1.out _ hw7
              have y0 := KL.out _ hSw
              go_simp
              try with_reducible rfl
            try simp only [Act.put, List.setIfInBounds_toArray, List.set_cons_zero, List.set_cons_succ]
            refine ztake_14 (v := ?vv35) (by kernel_rfl) (by kernel_rfl) (by kernel_rfl) (fun _ _ _ h => h) (Or.inl ⟨by rfl, ?hy35⟩) hxd ?_
            case hy35 =>
              intro wX hSw
              have hw7 := hb7.trans (hSw.mono hb7.size)
              have x0 := HC0.out _ hw7
              have x1 := HC1.out _ hw7
              have y0 := KL.out _ hSw
              go_simp
              try with_reducible rfl
            try simp only [Act.put, List.setIfInBounds_toArray, List.set_cons_zero, List.set_cons_succ]
            refine ztake_15 (by kernel_rfl) (by kernel_rfl) (by kernel_rfl) (fun _ _ _ h => h) (yieldsIf_load_mid rfl 42 _ rfl bR (j * 18) rfl (msgC m a) _ (fun w' h => HRG.out _ (HQ6.out.trans ((H67.out.trans (h.mono H67.out.size)).mono HQ6.out.size))) Try.underlying42 rfl size_msg) hxd ?_
            try simp only [Act.put, List.setIfInBounds_toArray, List.set_cons_zero, List.set_cons_succ]
            refine zready_5 (by kernel_rfl) ?_
            intro KQ hK
            rw [if_pos (by rfl)]
            try go_simp
            refine (R.check rv gb L S A7 c7 nl s.l m a5 s.N _ (HDB.out _ hxd).pair.1.1 HRV.out (HM6.out _ (H67.out.trans (hxd.mono H67.out.size))) HOX.out HF5.out HZL.out (HR7.out.below hxd) (by omega) HS1.out HL1.out).mono ?_
            rintro e w8 ⟨rfl, hq8⟩
            have hx8 : Below w7.heap.size w7 w8 := hxd.trans (hq8.mono hxd.size)
            clear hq8
            refine hK.out _ _ hx8 (fun _ => ?_)
            clear hK KQ
            try simp only [Act.put, List.setIfInBounds_toArray, List.set_cons_zero, List.set_cons_succ]
            refine zready_6 (by kernel_rfl) ?_
            intro KQ hK
            rw [if_pos (by rfl)]
            try go_simp
            refine (num8_any _ _).mono ?_
            rintro e w' ⟨rfl, rfl⟩
            refine hK.out _ _ hx8 (fun _ => ?_)
            clear hK KQ
            try simp only [Act.put, List.setIfInBounds_toArray, List.set_cons_zero, List.set_cons_succ]
            refine zready_16 (by kernel_rfl) ?_
            intro KQ hK
            rw [if_pos (by rfl)]
            try go_simp
            refine (rreal_is rv gr L S s.Al s.cl nl s.l m a s.N _ (HDB.out _ hx8).pair.2.1.1 HRV.out (HMX.out _ (HQ6.out.trans ((H67.out.trans (hx8.mono H67.out.size)).mono HQ6.out.size))) HFX.out HZL.out (HLI.out _ hx8) (by omega) HS1.out HL1.out HLS1.out).mono ?_
            rintro e w10 ⟨rfl, hq10⟩
            have hx10 : Below w7.heap.size w7 w10 := hx8.trans (hq10.mono hx8.size)
            clear hq10
            refine hK.out _ _ hx10 (fun _ => ?_)
            clear hK KQ
            try simp only [Act.put, List.setIfInBounds_toArray, List.set_cons_zero, List.set_cons_succ]
            refine ztake_17 (v := ?vv36) (by kernel_rfl) (by kernel_rfl) (by kernel_rfl) (fun _ _ _ h => h) (Or.inl ⟨by rfl, ?hy36⟩) hx10 ?_
            case hy36 =>
              intro wX hSw
              go_simp
              try with_reducible rfl
            try simp only [Act.put, List.setIfInBounds_toArray, List.set_cons_zero, List.set_cons_succ]
            refine ztake_18 (v := ?vv37) (by kernel_rfl) (by kernel_rfl) (by kernel_rfl) (fun _ _ _ h => h) (Or.inl ⟨by rfl, ?hy37⟩) hx10 ?_
            case hy37 =>
              intro wX hSw
              go_simp
              try with_reducible rfl
            try simp only [Act.put, List.setIfInBounds_toArray, List.set_cons_zero, List.set_cons_succ]
            refine ztake_19 (by kernel_rfl) (by kernel_rfl) (by kernel_rfl) (fun _ _ _ h => h) (yieldsIf_load_mid rfl 42 _ rfl gm 0 rfl (msgC m a5) _ (fun w' h => box_range (HBM6.out.below (H67.out.trans (h.mono H67.out.size)) HBM6.out.1)) Try.underlying42 rfl size_msg) hx10 ?_
            try simp only [Act.put, List.setIfInBounds_toArray, List.set_cons_zero, List.set_cons_succ]
            refine ztake_20 (v := ?vv38) (by kernel_rfl) (by kernel_rfl) (by kernel_rfl) (fun _ _ _ h => h) (Or.inl ⟨by rfl, ?hy38⟩) hx10 ?_
            case hy38 =>
              intro wX hSw
              have hw7 := hb7.trans (hSw.mono hb7.size)
              have x0 := HC0.out _ hw7
              have x1 := HC1.out _ hw7
              have y0 := KL.out _ hSw
              go_simp
              try with_reducible rfl
            try simp only [Act.put, List.setIfInBounds_toArray, List.set_cons_zero, List.set_cons_succ]
            refine ztake_21 (v := ?vv39) (by kernel_rfl) (by kernel_rfl) (by kernel_rfl) (fun _ _ _ h => h) (Or.inl ⟨by rfl, ?hy39⟩) hx10 ?_
            case hy39 =>
              intro wX hSw
              have hw7 := hb7.trans (hSw.mono hb7.size)
              have x0 := HC0.out _ hw7
              have x1 := HC1.out _ hw7
              have y0 := KL.out _ hSw
              go_simp
              try with_reducible rfl
            try simp only [Act.put, List.setIfInBounds_toArray, List.set_cons_zero, List.set_cons_succ]
            refine ztake_22 (v := ?vv40) (by kernel_rfl) (by kernel_rfl) (by kernel_rfl) (fun _ _ _ h => h) (Or.inl ⟨by rfl, ?hy40⟩) hx10 ?_
            case hy40 =>
              intro wX hSw
              have hw7 := hb7.trans (hSw.mono hb7.size)
              have x0 := HC0.out _ hw7
              have x1 := HC1.out _ hw7
              have y0 := KL.out _ hSw
              go_simp
              try with_reducible rfl
            try simp only [Act.put, List.setIfInBounds_toArray, List.set_cons_zero, List.set_cons_succ]
            refine ztake_23 (by kernel_rfl) (by kernel_rfl) (by kernel_rfl) (fun _ _ _ h => h) (yieldsIf_load_mid rfl 42 _ rfl bR (j * 18) rfl (msgC m a) _ (fun w' h => HRG.out _ (HQ6.out.trans ((H67.out.trans (h.mono H67.out.size)).mono HQ6.out.size))) Try.underlying42 rfl size_msg) hx10 ?_
            try simp only [Act.put, List.setIfInBounds_toArray, List.set_cons_zero, List.set_cons_succ]
            refine zready_24 (by kernel_rfl) ?_
            intro KQ hK
            rw [if_pos (by rfl)]
            try go_simp
            refine (reqMsg_is true m m a5 a _ (by simp) (HM6.out _ (H67.out.trans (hx10.mono H67.out.size))) (HMX.out _ (HQ6.out.trans ((H67.out.trans (hx10.mono H67.out.size)).mono HQ6.out.size))) HF5.out HFX.out).mono ?_
            rintro e w11 ⟨rfl, hq11⟩
            have hx11 : Below w7.heap.size w7 w11 := hx10.trans (hq11.mono hx10.size)
            clear hq11
            refine hK.out _ _ hx11 (fun _ => ?_)
            clear hK KQ
            try simp only [Act.put, List.setIfInBounds_toArray, List.set_cons_zero, List.set_cons_succ]
            refine ztake_25 (v := ?vv41) (by kernel_rfl) (by kernel_rfl) (by kernel_rfl) (fun _ _ _ h => h) (Or.inl ⟨by rfl, ?hy41⟩) hx11 ?_
            case hy41 =>
              intro wX hSw
              go_simp
              try with_reducible rfl
            try simp only [Act.put, List.setIfInBounds_toArray, List.set_cons_zero, List.set_cons_succ]
            refine ztake_26 (v := ?vv42) (by kernel_rfl) (by kernel_rfl) (by kernel_rfl) (fun _ _ _ h => h) (Or.inl ⟨by rfl, ?hy42⟩) hx11 ?_
            case hy42 =>
              intro wX hSw
              go_simp
              try with_reducible rfl
            try simp only [Act.put, List.setIfInBounds_toArray, List.set_cons_zero, List.set_cons_succ]
            refine ztake_27 (v := ?vv43) (by kernel_rfl) (by kernel_rfl) (by kernel_rfl) (fun _ _ _ h => h) (Or.inl ⟨by rfl, ?hy43⟩) hx11 ?_
            case hy43 =>
              intro wX hSw
              go_simp
              try with_reducible rfl
            try simp only [Act.put, List.setIfInBounds_toArray, List.set_cons_zero, List.set_cons_succ]
            refine ztake_28 (v := ?vv44) (by kernel_rfl) (by kernel_rfl) (by kernel_rfl) (fun _ _ _ h => h) (Or.inl ⟨by rfl, ?hy44⟩) hx11 ?_
            case hy44 =>
              intro wX hSw
              have hw7 := hb7.trans (hSw.mono hb7.size)
              have x0 := HC0.out _ hw7
              have x1 := HC1.out _ hw7
              have y0 := KL.out _ hSw
              go_simp
              try with_reducible rfl
            try simp only [Act.put, List.setIfInBounds_toArray, List.set_cons_zero, List.set_cons_succ]
            refine ztake_29 (v := ?vv45) (by kernel_rfl) (by kernel_rfl) (by kernel_rfl) (fun _ _ _ h => h) (Or.inl ⟨by rfl, ?hy45⟩) hx11 ?_
            case hy45 =>
              intro wX hSw
              have hw7 := hb7.trans (hSw.mono hb7.size)
              have x0 := HC0.out _ hw7
              have x1 := HC1.out _ hw7
              have y0 := KL.out _ hSw
              go_simp
              try with_reducible rfl
            try simp only [Act.put, List.setIfInBounds_toArray, List.set_cons_zero, List.set_cons_succ]
            refine ztake_30 (v := ?vv46) (by kernel_rfl) (by kernel_rfl) (by kernel_rfl) (fun _ _ _ h => h) (Or.inl ⟨by rfl, ?hy46⟩) hx11 ?_
            case hy46 =>
              intro wX hSw
              have hw7 := hb7.trans (hSw.mono hb7.size)
              have x0 := HC0.out _ hw7
              have x1 := HC1.out _ hw7
              have y0 := KL.out _ hSw
              go_simp
              try with_reducible rfl
            try simp only [Act.put, List.setIfInBounds_toArray, List.set_cons_zero, List.set_cons_succ]
            refine zready_31 (by kernel_rfl) ?_
            intro KQ hK
            rw [if_pos (by rfl)]
            try go_simp
            refine (eqNumbers_any A7 s.Al c7 s.cl nl nl s.l s.l _ HZL.out HZL.out (HR7.out.below hx11) (HLI.out _ hx11) (by omega) (by omega)).mono ?_
            rintro e w12 ⟨rfl, d12, hw12⟩
            have hx12 : Below w7.heap.size w7 w12 := by rw [hw12]; exact below_n hx11 d12
            clear hw12
            rw [show decide (s.l = s.l) = true from decide_eq_true rfl]
            refine hK.out _ _ hx12 (fun _ => ?_)
            clear hK KQ
            try simp only [Act.put, List.setIfInBounds_toArray, List.set_cons_zero, List.set_cons_succ]
            refine ztake_32 (v := ?vv47) (by kernel_rfl) (by kernel_rfl) (by kernel_rfl) (fun _ _ _ h => h) (Or.inl ⟨by rfl, ?hy47⟩) hx12 ?_
            case hy47 =>
              intro wX hSw
              go_simp
              try with_reducible rfl
            try simp only [Act.put, List.setIfInBounds_toArray, List.set_cons_zero, List.set_cons_succ]
            refine ztake_33 (v := ?vv48) (by kernel_rfl) (by kernel_rfl) (by kernel_rfl) (fun _ _ _ h => h) (Or.inl ⟨by rfl, ?hy48⟩) hx12 ?_
            case hy48 =>
              intro wX hSw
              go_simp
              try with_reducible rfl
            try simp only [Act.put, List.setIfInBounds_toArray, List.set_cons_zero, List.set_cons_succ]
            refine ztake_34 (v := ?vv49) (by kernel_rfl) (by kernel_rfl) (by kernel_rfl) (fun _ _ _ h => h) (Or.inl ⟨by rfl, ?hy49⟩) hx12 ?_
            case hy49 =>
              intro wX hSw
              go_simp
              try with_reducible rfl
            try simp only [Act.put, List.setIfInBounds_toArray, List.set_cons_zero, List.set_cons_succ]
            refine ztake_35 (v := ?vv50) (by kernel_rfl) (by kernel_rfl) (by kernel_rfl) (fun _ _ _ h => h) (Or.inl ⟨by rfl, ?hy50⟩) hx12 ?_
            case hy50 =>
              intro wX hSw
              go_simp
              try with_reducible rfl
            try simp only [Act.put, List.setIfInBounds_toArray, List.set_cons_zero, List.set_cons_succ]
            refine ztake_37 (v := ?vv51) (by kernel_rfl) (by kernel_rfl) (by kernel_rfl) (fun _ _ _ h => h) (Or.inl ⟨by rfl, ?hy51⟩) hx12 ?_
            case hy51 =>
              intro wX hSw
              have hw7 := hb7.trans (hSw.mono hb7.size)
              have x0 := HC0.out _ hw7
              have x1 := HC1.out _ hw7
              have y0 := KL.out _ hSw
              go_simp
              try with_reducible rfl
            try simp only [Act.put, List.setIfInBounds_toArray, List.set_cons_zero, List.set_cons_succ]
            refine ztake_38 (v := ?vv52) (by kernel_rfl) (by kernel_rfl) (by kernel_rfl) (fun _ _ _ h => h) (Or.inl ⟨by rfl, ?hy52⟩) hx12 ?_
            case hy52 =>
              intro wX hSw
              have hw7 := hb7.trans (hSw.mono hb7.size)
              have x0 := HC0.out _ hw7
              have x1 := HC1.out _ hw7
              have y0 := KL.out _ hSw
              go_simp
              try with_reducible rfl
            try simp only [Act.put, List.setIfInBounds_toArray, List.set_cons_zero, List.set_cons_succ]
            refine ztake_39 (v := ?vv53) (by kernel_rfl) (by kernel_rfl) (by kernel_rfl) (fun _ _ _ h => h) (Or.inl ⟨by rfl, ?hy53⟩) hx12 ?_
            case hy53 =>
              intro wX hSw
              have hw7 := hb7.trans (hSw.mono hb7.size)
              have x0 := HC0.out _ hw7
              have x1 := HC1.out _ hw7
              have y0 := KL.out _ hSw
              go_simp
              try with_reducible rfl
            try simp only [Act.put, List.setIfInBounds_toArray, List.set_cons_zero, List.set_cons_succ]
            refine ztake_40 (v := ?vv54) (by kernel_rfl) (by kernel_rfl) (by kernel_rfl) (fun _ _ _ h => h) (Or.inl ⟨by rfl, ?hy54⟩) hx12 ?_
            case hy54 =>
              intro wX hSw
              have hw7 := hb7.trans (hSw.mono hb7.size)
              have x0 := HC0.out _ hw7
              have x1 := HC1.out _ hw7
              have y0 := KL.out _ hSw
              go_simp
              try with_reducible rfl
            try simp only [Act.put, List.setIfInBounds_toArray, List.set_cons_zero, List.set_cons_succ]
            refine ztake_41 (v := ?vv55) (by kernel_rfl) (by kernel_rfl) (by kernel_rfl) (fun _ _ _ h => h) (Or.inl ⟨by rfl, ?hy55⟩) hx12 ?_
            case hy55 =>
              intro wX hSw
              have hw7 := hb7.trans (hSw.mono hb7.size)
              have x0 := HC0.out _ hw7
              have x1 := HC1.out _ hw7
              have y0 := KL.out _ hSw
              go_simp
              try with_reducible rfl
            try simp only [Act.put, List.setIfInBounds_toArray, List.set_cons_zero, List.set_cons_succ]
            refine zready_36 (by kernel_rfl) ?_
            intro KQ hK
            rw [if_pos (by rfl)]
            try go_simp
            refine (K.count gb L S _ (HDB.out _ hx12).pair.1.1 HL1.out).mono ?_
            rintro e w9 ⟨rfl, d9, hw9⟩
            have hx9 : Below w7.heap.size w7 w9 := by rw [hw9]; exact below_n hx12 d9
            clear hw9
            rw [HNL2.out]
            refine hK.out _ _ hx9 (fun _ => ?_)
            clear hK KQ
            try simp only [Act.put, List.setIfInBounds_toArray, List.set_cons_zero, List.set_cons_succ]
            refine ztake_42 (v := ?vv56) (by kernel_rfl) (by kernel_rfl) (by kernel_rfl) (fun _ _ _ h => h) (Or.inl ⟨by rfl, ?hy56⟩) hx9 ?_
            case hy56 =>
              intro wX hSw
              go_simp
              try with_reducible rfl
            try simp only [Act.put, List.setIfInBounds_toArray, List.set_cons_zero, List.set_cons_succ]
            refine ztake_43 (v := ?vv57) (by kernel_rfl) (by kernel_rfl) (by kernel_rfl) (fun _ _ _ h => h) (Or.inl ⟨by rfl, ?hy57⟩) hx9 ?_
            case hy57 =>
              intro wX hSw
              go_simp
              try with_reducible rfl
            try simp only [Act.put, List.setIfInBounds_toArray, List.set_cons_zero, List.set_cons_succ]
            refine wpAnyH_done (by kernel_rfl) ?_ _
            have hb9 : Below w1.heap.size w1 w9 := hb7.trans (hx9.mono hb7.size)
            have HD9 := Lib.hid (HDB.out _ hx9)
            go_wp2_with fail
            go_roundw
            case rel => exact ⟨j + 1, by go_num, by omega, HD9.out, hb9⟩
            case measure => simp [intOf]; omega
          · have i1 : ¬ ((j : Int) < (kM : Int)) := by omega
            go_wp2_with fail
            refine (R.check_nil none 0 0 vote1 zeroA 4 _).mono ?_
            rintro e w6 ⟨rfl, hq6⟩
            have hb6 := hb.trans (hq6.mono hb.size)
            go_wp2_with fail
            refine (num8_any _ _).mono ?_
            rintro e w' ⟨rfl, rfl⟩
            go_wp2_with fail
            refine (wakes8_any K R _).mono ?_
            rintro e w7 ⟨rfl, hq7⟩
            have hb7 := hb6.trans (hq7.mono hb6.size)
            go_wp2_with fail
            go_ret
            exact ⟨rfl, HB1.out.trans (hb7.mono HB1.out.size)⟩

end Go.Proofs.Ytcfnomnhameleaa
