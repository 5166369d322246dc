/-
  The walk of 'MessageChecks', out of what it asks of package message.
-/
import Derived.Test.YtafkcofocjellaaMLaw
import Derived.Test.YtafkcofocjellaaMWeigh
import Derived.Test.YtafkcofocjellaaMFour
import Derived.Test.YtafkcofocjellaaMMay
import Derived.Test.YtafkcofocjellaaZA
import Derived.Deep.DeepCutAuto
import Derived.Deep.CutRange
import Derived.Deep.RegionLaw
namespace Go.Proofs.Ytafkcofocjellaa
open Go.RowKit

set_option maxRecDepth 100000 in
set_option maxHeartbeats 16000000 in
theorem messageChecks_walk {E : MsgD → Int → List Int} {D : List Int → Int → Option MsgD} (HC : Hid (MCodec E D)) (C : MContracts E D) (a : Option Addr) (len cap : Nat) (w : World) (ha : MAsks w a len cap) :
    Calls Try.prog 3 #[.slice a len cap] w fun e w' => e = .returned (.bool true) ∧ Below w.heap.size w w' := by
  obtain ⟨hl, hm, hi⟩ := ha
  unfold maxLen at hm
  have HI := Lib.hid hi
  clear hi
  go_enter Try.func3, Try.ntmps3
  go_wp2_with fail
  go_loopw [3] (fun i wr => ∃ k : Nat, i = .int .i64 k ∧ k ≤ len ∧ k ≤ 8 ∧ Below w.heap.size w wr) (fun i _ => 8 - (intOf i).toNat)
  case atStart => exact ⟨0, rfl, by omega, by omega, Below.refl _ _⟩
  case round =>
    obtain ⟨k, rfl, hk, hkm, hb⟩ := hrel
    by_cases hlt : k < len
    · by_cases hmo : k < 8
      · have i0 : (0 : Int) ≤ (k : Int) := by omega
        have i1 : (k : Int) < (len : Int) := by omega
        have i2 : (k : Int) < 8 := by omega
        obtain ⟨b, off, ⟨m, ma, N, XA, cX, X⟩, nX, rfl, (hnX : X.length = nX), hA⟩ := (HI.out k hlt).all
        have HNX := Lib.hid hnX
        have HA := Lib.hid hA
        obtain ⟨gp, hgp⟩ : ∃ gp, gp = wr.heap.size := ⟨_, rfl⟩
        have HZB := Lib.hid (box_new wr (askC zeroM zeroA 0 none 0 0) 35)
        have HRG := Lib.hid (hA _ hb).2
        clear hnX hA
        go_upto_region 4 with fail
        go_wp2_with (first
          | (refine wpList_load_mid rfl 35 _ rfl b (off + k * 20) rfl (askC m ma N XA nX cX) _ HRG.out Try.underlying35 rfl size_mask ?_)
          | (refine wpList_store_box rfl 35 _ _ rfl wr.heap.size 0 (askC m ma N XA nX cX) (askC zeroM zeroA 0 none 0 0) (askC m ma N XA nX cX) rfl rfl HZB.out (by simp [askC]) rfl size_mask rfl ?_)
          | (refine wpList_run_to rfl 35 rfl (.pointer (some ⟨wr.heap.size, 0, none⟩)) (wr.alloc (.cells (askC zeroM zeroA 0 none 0 0).toArray 35)) (by unfold execOp askC zeroM zeroA; go_simp; done) ?_))
        intro ws bxs Ts
        have ts := Ts (fun k => k = wr.heap.size) rfl
        have hrs : Below wr.heap.size wr ws := ((Below.refl _ _).alloc (Nat.le_refl _) _).trans (ts.below (fun k hk => by rw [hk]; exact Nat.le_refl _) (by simp))
        have hb0 : Below w.heap.size w ws := hb.trans (hrs.mono hb.size)
        rw [← hgp] at bxs ⊢
        have HBP : Hid (∀ wX, Below ws.heap.size ws wX → Box wX gp (askC m ma N XA nX cX)) := fun wX h => bxs.below h bxs.1
        have HOK := Lib.hid (HA.out _ hb).1.ok
        have HN := Lib.hid (HA.out _ hb).1.wN
        have HIN : Hid (∀ wX, Below ws.heap.size ws wX → MsgIn wX m ma) := fun wX h => (HA.out _ (hb0.trans (h.mono hb0.size))).1.hi
        have HFW := Lib.hid (HA.out _ hb).1.few
        clear Ts ts hrs bxs hb hgp HRG HZB HA
        go_wp2_with (refine wpList_load_mid rfl 32 _ rfl gp 0 rfl (msgC m ma) _ (box_ask (HBP.out _ (Below.refl _ _))) Try.underlying32 rfl size_msg ?_)
        refine (mheavy_any m ma _ (HIN.out _ (Below.refl _ _)) HOK.out HFW.out).mono ?_
        rintro e w1 ⟨hv, rfl, hb1, hfew⟩
        have HFE := Lib.hid hfew
        clear hfew
        cases hv with
        | true =>
          go_wp2_with fail
          go_ret
          exact ⟨rfl, hb0.trans (hb1.mono hb0.size)⟩
        | false =>
          have HF1 := Lib.hid ((HFE.out rfl).more (show 2000 ≤ 1000000 by omega))
          clear HFE HFW
          go_wp2_with (refine wpList_load_mid rfl 32 _ rfl gp 0 rfl (msgC m ma) _ (box_ask (HBP.out _ (hb1))) Try.underlying32 rfl size_msg ?_)
          refine (rcopyMsg_any m ma _ (HIN.out _ hb1) HF1.out).mono ?_
          rintro e w2 ⟨a2, rfl, hn2, hf2, hq2⟩
          have hb2 := hb1.trans (hq2.mono hb1.size)
          have HI2 : Hid (∀ wX, Below w2.heap.size w2 wX → MsgIn wX m a2) := fun wX h => (hn2.below h).in_
          have HF2 := Lib.hid hf2
          clear hn2 hf2 hq2
          obtain ⟨g3, hg3⟩ : ∃ g3, g3 = w2.heap.size := ⟨_, rfl⟩
          have HZg3 := Lib.hid (box_new w2 (msgC zeroM zeroA) 32)
          go_wp2_with (first
            | (refine wpList_store_box rfl 32 _ _ rfl w2.heap.size 0 (msgC m a2) (msgC zeroM zeroA) (msgC m a2) rfl rfl HZg3.out (by simp [msgC]) rfl size_msg rfl ?_)
            | (refine wpList_run_to rfl 32 rfl (.pointer (some ⟨w2.heap.size, 0, none⟩)) (w2.alloc (.cells (msgC zeroM zeroA).toArray 32)) (by unfold execOp msgC zeroM zeroA; go_simp; done) ?_))
          intro w3 bxg3 Tg3
          have tg3 := Tg3 (fun k => k = w2.heap.size) rfl
          have hqw3 : Below w2.heap.size w2 w3 := ((Below.refl _ _).alloc (Nat.le_refl _) _).trans (tg3.below (fun k hk => by rw [hk]; exact Nat.le_refl _) (by simp))
          have hw3 := hb2.trans (hqw3.mono hb2.size)
          rw [← hg3] at bxg3 ⊢
          have HBg3 : Hid (∀ wX, Below w3.heap.size w3 wX → Box wX g3 (msgC m a2)) := fun wX h => bxg3.below h bxg3.1
          clear Tg3 tg3 bxg3 hg3 HZg3
          have q18 := ((HBP.out _ hw3).2 18 _ rfl).1
          go_wp2_with (refine wpList_load_mid rfl 32 _ rfl g3 0 rfl (msgC m a2) _ (box_range (HBg3.out _ (Below.refl _ _))) Try.underlying32 rfl size_msg ?_)
          cases hv : messB m N with
          | false =>
            have HV := Lib.hid hv
            clear hv
            refine (C.check_no m a2 N _ HV.out (HI2.out _ hqw3) HOK.out HF2.out HN.out).mono ?_
            rintro e w4 ⟨rfl, hq4⟩
            have hb4 := hw3.trans (hq4.mono hw3.size)
            clear q18
            have q18 := ((HBP.out _ hb4).2 18 _ rfl).1
            go_wp2_with fail
            refine (mnum_any _ _).mono ?_
            rintro e w' ⟨rfl, rfl⟩
            go_wp2_with (refine wpList_load_mid rfl 32 _ rfl gp 0 rfl (msgC m ma) _ (box_ask (HBP.out _ (hb4))) Try.underlying32 rfl size_msg ?_)
            refine (rmsg_is false m ma N _ HV.out (HIN.out _ hb4) HF1.out).mono ?_
            rintro e w5 ⟨rfl, hq5⟩
            have hb5 := hb4.trans (hq5.mono hb4.size)
            have h35 := hq4.trans (hq5.mono hq4.size)
            go_wp2_with (first
              | (refine wpList_load_midG 32 _ rfl g3 0 rfl rfl (msgC m a2) _ (box_range (HBg3.out _ h35)) Try.underlying32 rfl size_msg ?_)
              | (refine wpList_load_midG 32 _ rfl gp 0 rfl rfl (msgC m ma) _ (box_ask (HBP.out _ (hb5))) Try.underlying32 rfl size_msg ?_))
            refine (reqMsg_is true m m a2 ma _ (by simp) (HI2.out _ (hqw3.trans (h35.mono hqw3.size))) (HIN.out _ hb5) HF2.out HF1.out).mono ?_
            rintro e w6 ⟨rfl, hq6⟩
            have hb6 := hb5.trans (hq6.mono hb5.size)
            go_wp2_with fail
            go_roundw
            case rel => exact ⟨k + 1, by go_num, by omega, by omega, hb0.trans (hb6.mono hb0.size)⟩
            case measure => simp [intOf]; omega
          | true =>
            have HV := Lib.hid hv
            clear hv
            refine (C.check_yes m a2 N _ HV.out (HI2.out _ hqw3) HOK.out HF2.out HN.out).mono ?_
            rintro e w4 ⟨rfl, hq4⟩
            have hb4 := hw3.trans (hq4.mono hw3.size)
            clear q18
            have q18 := ((HBP.out _ hb4).2 18 _ rfl).1
            go_wp2_with fail
            refine (mnum_any _ _).mono ?_
            rintro e w' ⟨rfl, rfl⟩
            go_wp2_with (refine wpList_load_mid rfl 32 _ rfl gp 0 rfl (msgC m ma) _ (box_ask (HBP.out _ (hb4))) Try.underlying32 rfl size_msg ?_)
            refine (rmsg_is true m ma N _ HV.out (HIN.out _ hb4) HF1.out).mono ?_
            rintro e w5 ⟨rfl, hq5⟩
            have hb5 := hb4.trans (hq5.mono hb4.size)
            have h35 := hq4.trans (hq5.mono hq4.size)
            go_wp2_with (first
              | (refine wpList_load_midG 32 _ rfl g3 0 rfl rfl (msgC m a2) _ (box_range (HBg3.out _ h35)) Try.underlying32 rfl size_msg ?_)
              | (refine wpList_load_midG 32 _ rfl gp 0 rfl rfl (msgC m ma) _ (box_ask (HBP.out _ (hb5))) Try.underlying32 rfl size_msg ?_))
            refine (reqMsg_is true m m a2 ma _ (by simp) (HI2.out _ (hqw3.trans (h35.mono hqw3.size))) (HIN.out _ hb5) HF2.out HF1.out).mono ?_
            rintro e w6 ⟨rfl, hq6⟩
            have hb6 := hb5.trans (hq6.mono hb5.size)
            go_wp2_with fail
            go_roundw
            case rel => exact ⟨k + 1, by go_num, by omega, by omega, hb0.trans (hb6.mono hb0.size)⟩
            case measure => simp [intOf]; omega
      · have i2 : ¬ ((k : Int) < 8) := by omega
        have i1 : (k : Int) < (len : Int) := by omega
        go_wp2_with fail
        refine (mwakes_any HC.out C _).mono ?_
        rintro e w' ⟨rfl, hbw⟩
        go_wp2_with fail
        go_ret
        exact ⟨rfl, hb.trans (hbw.mono hb.size)⟩
    · have i1 : ¬ ((k : Int) < (len : Int)) := by omega
      go_wp2_with fail
      refine (mwakes_any HC.out C _).mono ?_
      rintro e w' ⟨rfl, hbw⟩
      go_wp2_with fail
      go_ret
      exact ⟨rfl, hb.trans (hbw.mono hb.size)⟩

end Go.Proofs.Ytafkcofocjellaa
