/-
  The walk of 'MessageWider', out of what it asks of package message.
-/
import Derived.Test.YtafkcofocjellaaMLaw
import Derived.Test.YtafkcofocjellaaMWeigh
import Derived.Test.YtafkcofocjellaaMFour
import Derived.Test.YtafkcofocjellaaMMay
import Derived.Test.YtafkcofocjellaaZA
import Derived.Deep.DeepCutAuto
import Derived.Deep.CutRange
import Derived.Deep.RegionLaw
import Derived.Test.YtafkcofocjellaaMCode
namespace Go.Proofs.Ytafkcofocjellaa
open Go.RowKit

/-- what may be among some nodes may be among three more, but for headers and certificates -/
theorem mess_wider {m : MsgD} {N : Int} (h : messB m N = true) (h4 : ¬ (m.k = 4)) (h6 : ¬ (m.k = 6)) (hN : ¬ (16 < N + 3)) : messB m (N + 3) = true := by
  obtain ⟨⟨hm, hf, ht, hne⟩, hform, ho⟩ := mess_parts h
  have hm2 : mayB (N + 3) = true := by
    simp only [mayB, decide_eq_true_eq] at hm ⊢
    omega
  unfold messB
  rw [Bool.and_eq_true, Bool.and_eq_true, decide_eq_true_eq]
  refine ⟨?_, ?_, ho⟩
  · unfold idsB
    rw [decide_eq_true_eq]
    exact ⟨hm2, by omega, by omega, hne⟩
  · unfold formB at hform ⊢
    by_cases h1 : m.k = 1 ∨ m.k = 3
    · rw [if_pos h1] at hform ⊢
      rw [Bool.and_eq_true, Bool.and_eq_true, decide_eq_true_eq] at hform ⊢
      exact ⟨hform.1, hform.2.1, by omega⟩
    · rw [if_neg h1] at hform ⊢
      rw [if_neg h4, if_neg h6] at hform ⊢
      exact hform
theorem mess_to (m : MsgD) (N : Int) : messB { m with t := N + 1 } N = false := by
  cases h : messB { m with t := N + 1 } N with
  | false => rfl
  | true =>
    have := (mess_parts h).1.2.2.1
    simp only at this
    omega
theorem mess_self (m : MsgD) (N : Int) : messB { m with t := m.f } N = false := by
  cases h : messB { m with t := m.f } N with
  | false => rfl
  | true => exact absurd rfl (mess_parts h).1.2.2.2
theorem mess_nine (m : MsgD) (N : Int) : messB { m with k := 9 } N = false := by
  cases h : messB { m with k := 9 } N with
  | false => rfl
  | true =>
    have := mess_kind (mess_parts h).2.1
    simp only at this
    omega
theorem MsgIn.heads {w : World} {m : MsgD} {a : MsgA} (h : MsgIn w m a) (k f t : Int) : MsgIn w { m with k := k, f := f, t := t } a := ⟨h.zL, h.rL, h.kL, h.xL, h.zhB, h.rhB, h.khB, h.xhB, h.zhP, h.rhP, h.khP, h.xhP, h.zcB, h.rcB, h.kcB, h.xcB, h.zcP, h.rcP, h.kcP, h.xcP, h.zcS, h.rcS, h.kcS, h.xcS, h.zD, h.rD, h.kD, h.xD⟩
theorem MsgOk.heads {m : MsgD} (h : MsgOk m) {k f t : Int} (hk : I64 k) (hf : I64 f) (ht : I64 t) : MsgOk { m with k := k, f := f, t := t } := ⟨hk, hf, ht, h.wd, h.wba, h.wbn, h.wL, h.wha, h.whr, h.whB, h.whP, h.wca, h.wcr, h.wcB, h.wcP, h.wcd, h.wcS, h.wD⟩

set_option maxRecDepth 100000 in
set_option maxHeartbeats 16000000 in
theorem messageWider_walk {E : MsgD → Int → List Int} {D : List Int → Int → Option MsgD} (HC : Hid (MCodec E D)) (C : MContracts E D) (a : Option Addr) (len cap : Nat) (w : World) (ha : MAsks w a len cap) :
    Calls Try.prog 6 #[.slice a len cap] w fun e w' => e = .returned (.bool true) ∧ Below w.heap.size w w' := by
  obtain ⟨hl, hm, hi⟩ := ha
  unfold maxLen at hm
  have HI := Lib.hid hi
  clear hi
  go_enter Try.func6, Try.ntmps6
  go_wp2_with fail
  go_loopw [3] (fun i wr => ∃ k : Nat, i = .int .i64 k ∧ k ≤ len ∧ k ≤ 8 ∧ Below w.heap.size w wr) (fun i _ => 8 - (intOf i).toNat)
  case atStart => exact ⟨0, rfl, by omega, by omega, Below.refl _ _⟩
  case round =>
    obtain ⟨k, rfl, hk, hkm, hb⟩ := hrel
    by_cases hlt : k < len
    · by_cases hmo : k < 8
      · have i0 : (0 : Int) ≤ (k : Int) := by omega
        have i1 : (k : Int) < (len : Int) := by omega
        have i2 : (k : Int) < 8 := by omega
        obtain ⟨b, off, ⟨m, ma, N, XA, cX, X⟩, nX, rfl, (hnX : X.length = nX), hA⟩ := (HI.out k hlt).all
        have HNX := Lib.hid hnX
        have HA := Lib.hid hA
        obtain ⟨gp, hgp⟩ : ∃ gp, gp = wr.heap.size := ⟨_, rfl⟩
        have HZB := Lib.hid (box_new wr (askC zeroM zeroA 0 none 0 0) 35)
        have HRG := Lib.hid (hA _ hb).2
        clear hnX hA
        go_upto_region 4 with fail
        go_wp2_with (first
          | (refine wpList_load_mid rfl 35 _ rfl b (off + k * 20) rfl (askC m ma N XA nX cX) _ HRG.out Try.underlying35 rfl size_mask ?_)
          | (refine wpList_store_box rfl 35 _ _ rfl wr.heap.size 0 (askC m ma N XA nX cX) (askC zeroM zeroA 0 none 0 0) (askC m ma N XA nX cX) rfl rfl HZB.out (by simp [askC]) rfl size_mask rfl ?_)
          | (refine wpList_run_to rfl 35 rfl (.pointer (some ⟨wr.heap.size, 0, none⟩)) (wr.alloc (.cells (askC zeroM zeroA 0 none 0 0).toArray 35)) (by unfold execOp askC zeroM zeroA; go_simp; done) ?_))
        intro ws bxs Ts
        have ts := Ts (fun k => k = wr.heap.size) rfl
        have hrs : Below wr.heap.size wr ws := ((Below.refl _ _).alloc (Nat.le_refl _) _).trans (ts.below (fun k hk => by rw [hk]; exact Nat.le_refl _) (by simp))
        have hb0 : Below w.heap.size w ws := hb.trans (hrs.mono hb.size)
        rw [← hgp] at bxs ⊢
        have HBP : Hid (∀ wX, Below ws.heap.size ws wX → Box wX gp (askC m ma N XA nX cX)) := fun wX h => bxs.below h bxs.1
        have HOK := Lib.hid (HA.out _ hb).1.ok
        have HN := Lib.hid (HA.out _ hb).1.wN
        have HIN : Hid (∀ wX, Below ws.heap.size ws wX → MsgIn wX m ma) := fun wX h => (HA.out _ (hb0.trans (h.mono hb0.size))).1.hi
        have HFW := Lib.hid (HA.out _ hb).1.few
        clear Ts ts hrs bxs hb hgp HRG HZB HA
        go_wp2_with (refine wpList_load_mid rfl 32 _ rfl gp 0 rfl (msgC m ma) _ (box_ask (HBP.out _ (Below.refl _ _))) Try.underlying32 rfl size_msg ?_)
        refine (mheavy_any m ma _ (HIN.out _ (Below.refl _ _)) HOK.out HFW.out).mono ?_
        rintro e w1 ⟨hv, rfl, hb1, hfew⟩
        have HFE := Lib.hid hfew
        clear hfew
        cases hv with
        | true =>
          go_wp2_with fail
          go_ret
          exact ⟨rfl, hb0.trans (hb1.mono hb0.size)⟩
        | false =>
          have HF1 := Lib.hid ((HFE.out rfl).more (show 2000 ≤ 1000000 by omega))
          clear HFE HFW
          have q18 := ((HBP.out _ hb1).2 18 _ rfl).1
          go_wp2_with (refine wpList_load_mid rfl 32 _ rfl gp 0 rfl (msgC m ma) _ (box_ask (HBP.out _ (hb1))) Try.underlying32 rfl size_msg ?_)
          cases hv : messB m N with
          | false =>
            have HV := Lib.hid hv
            clear hv
            refine (C.check_no m ma N _ HV.out (HIN.out _ hb1) HOK.out HF1.out HN.out).mono ?_
            rintro e w2 ⟨rfl, hq2⟩
            have hb2 := hb1.trans (hq2.mono hb1.size)
            clear q18
            go_wp2_with fail
            refine (mnum_any _ _).mono ?_
            rintro e w' ⟨rfl, rfl⟩
            go_wp2_with fail
            go_roundw
            case rel => exact ⟨k + 1, by go_num, by omega, by omega, hb0.trans (hb2.mono hb0.size)⟩
            case measure => simp [intOf]; omega
          | true =>
            have HV := Lib.hid hv
            clear hv
            refine (C.check_yes m ma N _ HV.out (HIN.out _ hb1) HOK.out HF1.out HN.out).mono ?_
            rintro e w2 ⟨rfl, hq2⟩
            have hb2 := hb1.trans (hq2.mono hb1.size)
            clear q18 hq2
            have q18 := ((HBP.out _ hb2).2 18 _ rfl).1
            go_wp2_with fail
            refine (mnum_any _ _).mono ?_
            rintro e w' ⟨rfl, rfl⟩
            have hN16 : 1 ≤ N ∧ N ≤ 16 := may_le (mess_parts HV.out).1.1
            by_cases hw : 16 < N + 3
            · go_wp2_with fail
              go_roundw
              case rel => exact ⟨k + 1, by go_num, by omega, by omega, hb0.trans (hb2.mono hb0.size)⟩
              case measure => simp [intOf]; omega
            have q0 := ((HBP.out _ hb2).2 0 _ rfl).1
            have HN3 : Hid (I64 (N + 3)) := by show I64 _; unfold I64; omega
            have HN1 : Hid (I64 (N + 1)) := by show I64 _; unfold I64; omega
            by_cases h4 : m.k = 4
            · have HH4 := Lib.hid h4
              have j4 : (m.k != 4) = false := by simp [h4]
              go_upto_region 11 with fail
              clear q0 h4 j4
              go_wp2_with (refine wpList_load_mid rfl 32 _ rfl gp 0 rfl (msgC m ma) _ (box_ask (HBP.out _ (hb2))) Try.underlying32 rfl size_msg ?_)
              refine (rcopyMsg_any m ma _ (HIN.out _ hb2) HF1.out).mono ?_
              rintro e w3 ⟨a3, rfl, hnw3, hfw3, hqw3⟩
              have hw3 := hb2.trans (hqw3.mono hb2.size)
              have HIa3 : Hid (∀ wX, Below w3.heap.size w3 wX → MsgIn wX m a3) := fun wX h => (hnw3.below h).in_
              have HFa3 := Lib.hid hfw3
              have hqq3 := hqw3
              clear hnw3 hfw3 hqw3
              obtain ⟨g3, hg3⟩ : ∃ g3, g3 = w3.heap.size := ⟨_, rfl⟩
              have HG3 : Hid (g3 = w3.heap.size) := hg3
              have HZg3 := Lib.hid (box_new w3 (msgC zeroM zeroA) 32)
              go_wp2_with (first
                | (refine wpList_store_box rfl 32 _ _ rfl w3.heap.size 0 (msgC m a3) (msgC zeroM zeroA) (msgC m a3) rfl rfl HZg3.out (by simp [msgC]) rfl size_msg rfl ?_)
                | (refine wpList_run_to rfl 32 rfl (.pointer (some ⟨w3.heap.size, 0, none⟩)) (w3.alloc (.cells (msgC zeroM zeroA).toArray 32)) (by unfold execOp msgC zeroM zeroA; go_simp; done) ?_))
              intro w4 bxg3 Tg3
              have tg3 := Tg3 (fun k => k = w3.heap.size) rfl
              have hqw4 : Below w3.heap.size w3 w4 := ((Below.refl _ _).alloc (Nat.le_refl _) _).trans (tg3.below (fun k hk => by rw [hk]; exact Nat.le_refl _) (by simp))
              have hw4 := hw3.trans (hqw4.mono hw3.size)
              rw [← hg3] at bxg3 ⊢
              have HBg3 : Hid (∀ wX, Below w4.heap.size w4 wX → Box wX g3 (msgC m a3)) := fun wX h => bxg3.below h bxg3.1
              clear Tg3 tg3 bxg3 hg3 HZg3
              clear q18
              have q18 := ((HBP.out _ hw4).2 18 _ rfl).1
              have bz4 := HBg3.out _ (Below.refl _ _)
              have ka := (bz4.2 2 _ rfl).1
              have kf := (bz4.2 2 _ rfl).2
              obtain ⟨w5, hew5⟩ : ∃ w5, w5 = w4.setCell ⟨g3, 2, none⟩ (.int .i64 (N + 1)) := ⟨_, rfl⟩
              have bw5 : Box w5 g3 (msgC { m with t := N + 1 } a3) := by rw [hew5]; exact (bz4).set (j := 2) (by simp [msgC])
              have hg3w : w3.heap.size ≤ g3 := by have := HG3.out; omega
              have hq5 : Below w3.heap.size w4 w5 := by rw [hew5]; exact (Below.refl _ _).setCell hg3w _
              have hw5 : Below ws.heap.size ws w5 := hw4.trans (hq5.mono hw3.size)
              have hx5 : Below w3.heap.size w3 w5 := hqw4.trans hq5
              have HB3 : Hid (∀ wX, Below w5.heap.size w5 wX → Box wX g3 (msgC { m with t := N + 1 } a3)) := fun wX h => bw5.below h bw5.1
              have HI3 : Hid (∀ wX, Below w5.heap.size w5 wX → MsgIn wX m a3) := fun wX h => HIa3.out _ (hx5.trans (h.mono hx5.size))
              have HW5 := Lib.hid hew5
              clear bz4 bw5 hew5 hq5 hx5 hg3w
              go_upto_region 13 with fail
              rw [← HW5.out]
              clear ka kf q18
              go_wp2_with (refine wpList_load_mid rfl 32 _ rfl gp 0 rfl (msgC m ma) _ (box_ask (HBP.out _ (hw5))) Try.underlying32 rfl size_msg ?_)
              refine (rcopyMsg_any m ma _ (HIN.out _ hw5) HF1.out).mono ?_
              rintro e w6 ⟨a4, rfl, hnw6, hfw6, hqw6⟩
              have hw6 := hw5.trans (hqw6.mono hw5.size)
              have HIa4 : Hid (∀ wX, Below w6.heap.size w6 wX → MsgIn wX m a4) := fun wX h => (hnw6.below h).in_
              have HFa4 := Lib.hid hfw6
              have hqq6 := hqw6
              clear hnw6 hfw6 hqw6
              obtain ⟨g4, hg4⟩ : ∃ g4, g4 = w6.heap.size := ⟨_, rfl⟩
              have HG4 : Hid (g4 = w6.heap.size) := hg4
              have HZg4 := Lib.hid (box_new w6 (msgC zeroM zeroA) 32)
              go_wp2_with (first
                | (refine wpList_store_box rfl 32 _ _ rfl w6.heap.size 0 (msgC m a4) (msgC zeroM zeroA) (msgC m a4) rfl rfl HZg4.out (by simp [msgC]) rfl size_msg rfl ?_)
                | (refine wpList_run_to rfl 32 rfl (.pointer (some ⟨w6.heap.size, 0, none⟩)) (w6.alloc (.cells (msgC zeroM zeroA).toArray 32)) (by unfold execOp msgC zeroM zeroA; go_simp; done) ?_))
              intro w7 bxg4 Tg4
              have tg4 := Tg4 (fun k => k = w6.heap.size) rfl
              have hqw7 : Below w6.heap.size w6 w7 := ((Below.refl _ _).alloc (Nat.le_refl _) _).trans (tg4.below (fun k hk => by rw [hk]; exact Nat.le_refl _) (by simp))
              have hw7 := hw6.trans (hqw7.mono hw6.size)
              rw [← hg4] at bxg4 ⊢
              have HBg4 : Hid (∀ wX, Below w7.heap.size w7 wX → Box wX g4 (msgC m a4)) := fun wX h => bxg4.below h bxg4.1
              clear Tg4 tg4 bxg4 hg4 HZg4
              have bz7 := HBg4.out _ (Below.refl _ _)
              have k1 := (bz7.2 1 _ rfl).1
              have ka := (bz7.2 2 _ rfl).1
              have kf := (bz7.2 2 _ rfl).2
              obtain ⟨w8, hew8⟩ : ∃ w8, w8 = w7.setCell ⟨g4, 2, none⟩ (.int .i64 m.f) := ⟨_, rfl⟩
              have bw8 : Box w8 g4 (msgC { m with t := m.f } a4) := by rw [hew8]; exact (bz7).set (j := 2) (by simp [msgC])
              have hg4w : w6.heap.size ≤ g4 := by have := HG4.out; omega
              have hq8 : Below w6.heap.size w7 w8 := by rw [hew8]; exact (Below.refl _ _).setCell hg4w _
              have hw8 : Below ws.heap.size ws w8 := hw7.trans (hq8.mono hw6.size)
              have hx8 : Below w6.heap.size w6 w8 := hqw7.trans hq8
              have hx58 : Below w5.heap.size w5 w8 := hqq6.trans (hx8.mono hqq6.size)
              have HB4 : Hid (∀ wX, Below w8.heap.size w8 wX → Box wX g4 (msgC { m with t := m.f } a4)) := fun wX h => bw8.below h bw8.1
              have HI4 : Hid (∀ wX, Below w8.heap.size w8 wX → MsgIn wX m a4) := fun wX h => HIa4.out _ (hx8.trans (h.mono hx8.size))
              have HW8 := Lib.hid hew8
              clear bz7 bw8 hew8 hq8 hx8 hg4w hqq6
              go_upto_region 15 with fail
              rw [← HW8.out]
              clear ka kf k1
              go_wp2_with (refine wpList_load_mid rfl 32 _ rfl gp 0 rfl (msgC m ma) _ (box_ask (HBP.out _ (hw8))) Try.underlying32 rfl size_msg ?_)
              refine (rcopyMsg_any m ma _ (HIN.out _ hw8) HF1.out).mono ?_
              rintro e w9 ⟨a5, rfl, hnw9, hfw9, hqw9⟩
              have hw9 := hw8.trans (hqw9.mono hw8.size)
              have HIa5 : Hid (∀ wX, Below w9.heap.size w9 wX → MsgIn wX m a5) := fun wX h => (hnw9.below h).in_
              have HFa5 := Lib.hid hfw9
              have hqq9 := hqw9
              clear hnw9 hfw9 hqw9
              obtain ⟨g5, hg5⟩ : ∃ g5, g5 = w9.heap.size := ⟨_, rfl⟩
              have HG5 : Hid (g5 = w9.heap.size) := hg5
              have HZg5 := Lib.hid (box_new w9 (msgC zeroM zeroA) 32)
              go_wp2_with (first
                | (refine wpList_store_box rfl 32 _ _ rfl w9.heap.size 0 (msgC m a5) (msgC zeroM zeroA) (msgC m a5) rfl rfl HZg5.out (by simp [msgC]) rfl size_msg rfl ?_)
                | (refine wpList_run_to rfl 32 rfl (.pointer (some ⟨w9.heap.size, 0, none⟩)) (w9.alloc (.cells (msgC zeroM zeroA).toArray 32)) (by unfold execOp msgC zeroM zeroA; go_simp; done) ?_))
              intro w10 bxg5 Tg5
              have tg5 := Tg5 (fun k => k = w9.heap.size) rfl
              have hqw10 : Below w9.heap.size w9 w10 := ((Below.refl _ _).alloc (Nat.le_refl _) _).trans (tg5.below (fun k hk => by rw [hk]; exact Nat.le_refl _) (by simp))
              have hw10 := hw9.trans (hqw10.mono hw9.size)
              rw [← hg5] at bxg5 ⊢
              have HBg5 : Hid (∀ wX, Below w10.heap.size w10 wX → Box wX g5 (msgC m a5)) := fun wX h => bxg5.below h bxg5.1
              clear Tg5 tg5 bxg5 hg5 HZg5
              have bz10 := HBg5.out _ (Below.refl _ _)
              have ka := (bz10.2 0 _ rfl).1
              have kf := (bz10.2 0 _ rfl).2
              obtain ⟨w11, hew11⟩ : ∃ w11, w11 = w10.setCell ⟨g5, 0, none⟩ (.int .i64 9) := ⟨_, rfl⟩
              have bw11 : Box w11 g5 (msgC { m with k := 9 } a5) := by rw [hew11]; exact (bz10).set (j := 0) (by simp [msgC])
              have hg5w : w9.heap.size ≤ g5 := by have := HG5.out; omega
              have hq11 : Below w9.heap.size w10 w11 := by rw [hew11]; exact (Below.refl _ _).setCell hg5w _
              have hw11 : Below ws.heap.size ws w11 := hw10.trans (hq11.mono hw9.size)
              have hx11 : Below w9.heap.size w9 w11 := hqw10.trans hq11
              have hx811 : Below w8.heap.size w8 w11 := hqq9.trans (hx11.mono hqq9.size)
              have hx511 : Below w5.heap.size w5 w11 := hx58.trans (hx811.mono hx58.size)
              have HB5 : Hid (∀ wX, Below w11.heap.size w11 wX → Box wX g5 (msgC { m with k := 9 } a5)) := fun wX h => bw11.below h bw11.1
              have HI5 : Hid (∀ wX, Below w11.heap.size w11 wX → MsgIn wX m a5) := fun wX h => HIa5.out _ (hx11.trans (h.mono hx11.size))
              have HW11 := Lib.hid hew11
              clear bz10 bw11 hew11 hq11 hx11 hg5w hqq9
              have q18 := ((HBP.out _ hw11).2 18 _ rfl).1
              go_upto_region 17 with fail
              rw [← HW11.out]
              clear ka kf
              go_wp2_with (refine wpList_load_mid rfl 32 _ rfl g3 0 rfl (msgC { m with t := N + 1 } a3) _ (box_range (HB3.out _ hx511)) Try.underlying32 rfl size_msg ?_)
              refine (C.check_no { m with t := N + 1 } a3 N _ (mess_to m N) ((HI3.out _ hx511).heads m.k m.f (N + 1)) (HOK.out.heads HOK.out.wk HOK.out.wf HN1.out) HFa3.out HN.out).mono ?_
              rintro e w12 ⟨rfl, hq12⟩
              have hw12 := hw11.trans (hq12.mono hw11.size)
              clear q18
              have q18 := ((HBP.out _ hw12).2 18 _ rfl).1
              go_wp2_with fail
              refine (mnum_any _ _).mono ?_
              rintro e w' ⟨rfl, rfl⟩
              go_wp2_with (refine wpList_load_midG 32 _ rfl g4 0 rfl rfl (msgC { m with t := m.f } a4) _ (box_range (HB4.out _ (hx811.trans (hq12.mono hx811.size)))) Try.underlying32 rfl size_msg ?_)
              refine (C.check_no { m with t := m.f } a4 N _ (mess_self m N) ((HI4.out _ (hx811.trans (hq12.mono hx811.size))).heads m.k m.f m.f) (HOK.out.heads HOK.out.wk HOK.out.wf HOK.out.wf) HFa4.out HN.out).mono ?_
              rintro e w13 ⟨rfl, hq13⟩
              have hw13 := hw12.trans (hq13.mono hw12.size)
              have hx13 := hq12.trans (hq13.mono hq12.size)
              clear q18
              have q18 := ((HBP.out _ hw13).2 18 _ rfl).1
              go_wp2_with fail
              refine (mnum_any _ _).mono ?_
              rintro e w' ⟨rfl, rfl⟩
              go_wp2_with (refine wpList_load_midG 32 _ rfl g5 0 rfl rfl (msgC { m with k := 9 } a5) _ (box_range (HB5.out _ hx13)) Try.underlying32 rfl size_msg ?_)
              refine (C.check_no { m with k := 9 } a5 N _ (mess_nine m N) ((HI5.out _ hx13).heads 9 m.f m.t) (HOK.out.heads (by unfold I64; omega) HOK.out.wf HOK.out.wt) HFa5.out HN.out).mono ?_
              rintro e w14 ⟨rfl, hq14⟩
              have hw14 := hw13.trans (hq14.mono hw13.size)
              go_wp2_with fail
              refine (mnum_any _ _).mono ?_
              rintro e w' ⟨rfl, rfl⟩
              go_wp2_with fail
              go_roundw
              case rel => exact ⟨k + 1, by go_num, by omega, by omega, hb0.trans (hw14.mono hb0.size)⟩
              case measure => simp [intOf]; omega
            by_cases h6 : m.k = 6
            · have j4 : (m.k != 4) = true := by simp [h4]
              have j6 : (m.k != 6) = false := by simp [h6]
              go_upto_region 11 with fail
              clear q0 h6 j6 j4 h4
              go_wp2_with (refine wpList_load_mid rfl 32 _ rfl gp 0 rfl (msgC m ma) _ (box_ask (HBP.out _ (hb2))) Try.underlying32 rfl size_msg ?_)
              refine (rcopyMsg_any m ma _ (HIN.out _ hb2) HF1.out).mono ?_
              rintro e w3 ⟨a3, rfl, hnw3, hfw3, hqw3⟩
              have hw3 := hb2.trans (hqw3.mono hb2.size)
              have HIa3 : Hid (∀ wX, Below w3.heap.size w3 wX → MsgIn wX m a3) := fun wX h => (hnw3.below h).in_
              have HFa3 := Lib.hid hfw3
              have hqq3 := hqw3
              clear hnw3 hfw3 hqw3
              obtain ⟨g3, hg3⟩ : ∃ g3, g3 = w3.heap.size := ⟨_, rfl⟩
              have HG3 : Hid (g3 = w3.heap.size) := hg3
              have HZg3 := Lib.hid (box_new w3 (msgC zeroM zeroA) 32)
              go_wp2_with (first
                | (refine wpList_store_box rfl 32 _ _ rfl w3.heap.size 0 (msgC m a3) (msgC zeroM zeroA) (msgC m a3) rfl rfl HZg3.out (by simp [msgC]) rfl size_msg rfl ?_)
                | (refine wpList_run_to rfl 32 rfl (.pointer (some ⟨w3.heap.size, 0, none⟩)) (w3.alloc (.cells (msgC zeroM zeroA).toArray 32)) (by unfold execOp msgC zeroM zeroA; go_simp; done) ?_))
              intro w4 bxg3 Tg3
              have tg3 := Tg3 (fun k => k = w3.heap.size) rfl
              have hqw4 : Below w3.heap.size w3 w4 := ((Below.refl _ _).alloc (Nat.le_refl _) _).trans (tg3.below (fun k hk => by rw [hk]; exact Nat.le_refl _) (by simp))
              have hw4 := hw3.trans (hqw4.mono hw3.size)
              rw [← hg3] at bxg3 ⊢
              have HBg3 : Hid (∀ wX, Below w4.heap.size w4 wX → Box wX g3 (msgC m a3)) := fun wX h => bxg3.below h bxg3.1
              clear Tg3 tg3 bxg3 hg3 HZg3
              clear q18
              have q18 := ((HBP.out _ hw4).2 18 _ rfl).1
              have bz4 := HBg3.out _ (Below.refl _ _)
              have ka := (bz4.2 2 _ rfl).1
              have kf := (bz4.2 2 _ rfl).2
              obtain ⟨w5, hew5⟩ : ∃ w5, w5 = w4.setCell ⟨g3, 2, none⟩ (.int .i64 (N + 1)) := ⟨_, rfl⟩
              have bw5 : Box w5 g3 (msgC { m with t := N + 1 } a3) := by rw [hew5]; exact (bz4).set (j := 2) (by simp [msgC])
              have hg3w : w3.heap.size ≤ g3 := by have := HG3.out; omega
              have hq5 : Below w3.heap.size w4 w5 := by rw [hew5]; exact (Below.refl _ _).setCell hg3w _
              have hw5 : Below ws.heap.size ws w5 := hw4.trans (hq5.mono hw3.size)
              have hx5 : Below w3.heap.size w3 w5 := hqw4.trans hq5
              have HB3 : Hid (∀ wX, Below w5.heap.size w5 wX → Box wX g3 (msgC { m with t := N + 1 } a3)) := fun wX h => bw5.below h bw5.1
              have HI3 : Hid (∀ wX, Below w5.heap.size w5 wX → MsgIn wX m a3) := fun wX h => HIa3.out _ (hx5.trans (h.mono hx5.size))
              have HW5 := Lib.hid hew5
              clear bz4 bw5 hew5 hq5 hx5 hg3w
              go_upto_region 13 with fail
              rw [← HW5.out]
              clear ka kf q18
              go_wp2_with (refine wpList_load_mid rfl 32 _ rfl gp 0 rfl (msgC m ma) _ (box_ask (HBP.out _ (hw5))) Try.underlying32 rfl size_msg ?_)
              refine (rcopyMsg_any m ma _ (HIN.out _ hw5) HF1.out).mono ?_
              rintro e w6 ⟨a4, rfl, hnw6, hfw6, hqw6⟩
              have hw6 := hw5.trans (hqw6.mono hw5.size)
              have HIa4 : Hid (∀ wX, Below w6.heap.size w6 wX → MsgIn wX m a4) := fun wX h => (hnw6.below h).in_
              have HFa4 := Lib.hid hfw6
              have hqq6 := hqw6
              clear hnw6 hfw6 hqw6
              obtain ⟨g4, hg4⟩ : ∃ g4, g4 = w6.heap.size := ⟨_, rfl⟩
              have HG4 : Hid (g4 = w6.heap.size) := hg4
              have HZg4 := Lib.hid (box_new w6 (msgC zeroM zeroA) 32)
              go_wp2_with (first
                | (refine wpList_store_box rfl 32 _ _ rfl w6.heap.size 0 (msgC m a4) (msgC zeroM zeroA) (msgC m a4) rfl rfl HZg4.out (by simp [msgC]) rfl size_msg rfl ?_)
                | (refine wpList_run_to rfl 32 rfl (.pointer (some ⟨w6.heap.size, 0, none⟩)) (w6.alloc (.cells (msgC zeroM zeroA).toArray 32)) (by unfold execOp msgC zeroM zeroA; go_simp; done) ?_))
              intro w7 bxg4 Tg4
              have tg4 := Tg4 (fun k => k = w6.heap.size) rfl
              have hqw7 : Below w6.heap.size w6 w7 := ((Below.refl _ _).alloc (Nat.le_refl _) _).trans (tg4.below (fun k hk => by rw [hk]; exact Nat.le_refl _) (by simp))
              have hw7 := hw6.trans (hqw7.mono hw6.size)
              rw [← hg4] at bxg4 ⊢
              have HBg4 : Hid (∀ wX, Below w7.heap.size w7 wX → Box wX g4 (msgC m a4)) := fun wX h => bxg4.below h bxg4.1
              clear Tg4 tg4 bxg4 hg4 HZg4
              have bz7 := HBg4.out _ (Below.refl _ _)
              have k1 := (bz7.2 1 _ rfl).1
              have ka := (bz7.2 2 _ rfl).1
              have kf := (bz7.2 2 _ rfl).2
              obtain ⟨w8, hew8⟩ : ∃ w8, w8 = w7.setCell ⟨g4, 2, none⟩ (.int .i64 m.f) := ⟨_, rfl⟩
              have bw8 : Box w8 g4 (msgC { m with t := m.f } a4) := by rw [hew8]; exact (bz7).set (j := 2) (by simp [msgC])
              have hg4w : w6.heap.size ≤ g4 := by have := HG4.out; omega
              have hq8 : Below w6.heap.size w7 w8 := by rw [hew8]; exact (Below.refl _ _).setCell hg4w _
              have hw8 : Below ws.heap.size ws w8 := hw7.trans (hq8.mono hw6.size)
              have hx8 : Below w6.heap.size w6 w8 := hqw7.trans hq8
              have hx58 : Below w5.heap.size w5 w8 := hqq6.trans (hx8.mono hqq6.size)
              have HB4 : Hid (∀ wX, Below w8.heap.size w8 wX → Box wX g4 (msgC { m with t := m.f } a4)) := fun wX h => bw8.below h bw8.1
              have HI4 : Hid (∀ wX, Below w8.heap.size w8 wX → MsgIn wX m a4) := fun wX h => HIa4.out _ (hx8.trans (h.mono hx8.size))
              have HW8 := Lib.hid hew8
              clear bz7 bw8 hew8 hq8 hx8 hg4w hqq6
              go_upto_region 15 with fail
              rw [← HW8.out]
              clear ka kf k1
              go_wp2_with (refine wpList_load_mid rfl 32 _ rfl gp 0 rfl (msgC m ma) _ (box_ask (HBP.out _ (hw8))) Try.underlying32 rfl size_msg ?_)
              refine (rcopyMsg_any m ma _ (HIN.out _ hw8) HF1.out).mono ?_
              rintro e w9 ⟨a5, rfl, hnw9, hfw9, hqw9⟩
              have hw9 := hw8.trans (hqw9.mono hw8.size)
              have HIa5 : Hid (∀ wX, Below w9.heap.size w9 wX → MsgIn wX m a5) := fun wX h => (hnw9.below h).in_
              have HFa5 := Lib.hid hfw9
              have hqq9 := hqw9
              clear hnw9 hfw9 hqw9
              obtain ⟨g5, hg5⟩ : ∃ g5, g5 = w9.heap.size := ⟨_, rfl⟩
              have HG5 : Hid (g5 = w9.heap.size) := hg5
              have HZg5 := Lib.hid (box_new w9 (msgC zeroM zeroA) 32)
              go_wp2_with (first
                | (refine wpList_store_box rfl 32 _ _ rfl w9.heap.size 0 (msgC m a5) (msgC zeroM zeroA) (msgC m a5) rfl rfl HZg5.out (by simp [msgC]) rfl size_msg rfl ?_)
                | (refine wpList_run_to rfl 32 rfl (.pointer (some ⟨w9.heap.size, 0, none⟩)) (w9.alloc (.cells (msgC zeroM zeroA).toArray 32)) (by unfold execOp msgC zeroM zeroA; go_simp; done) ?_))
              intro w10 bxg5 Tg5
              have tg5 := Tg5 (fun k => k = w9.heap.size) rfl
              have hqw10 : Below w9.heap.size w9 w10 := ((Below.refl _ _).alloc (Nat.le_refl _) _).trans (tg5.below (fun k hk => by rw [hk]; exact Nat.le_refl _) (by simp))
              have hw10 := hw9.trans (hqw10.mono hw9.size)
              rw [← hg5] at bxg5 ⊢
              have HBg5 : Hid (∀ wX, Below w10.heap.size w10 wX → Box wX g5 (msgC m a5)) := fun wX h => bxg5.below h bxg5.1
              clear Tg5 tg5 bxg5 hg5 HZg5
              have bz10 := HBg5.out _ (Below.refl _ _)
              have ka := (bz10.2 0 _ rfl).1
              have kf := (bz10.2 0 _ rfl).2
              obtain ⟨w11, hew11⟩ : ∃ w11, w11 = w10.setCell ⟨g5, 0, none⟩ (.int .i64 9) := ⟨_, rfl⟩
              have bw11 : Box w11 g5 (msgC { m with k := 9 } a5) := by rw [hew11]; exact (bz10).set (j := 0) (by simp [msgC])
              have hg5w : w9.heap.size ≤ g5 := by have := HG5.out; omega
              have hq11 : Below w9.heap.size w10 w11 := by rw [hew11]; exact (Below.refl _ _).setCell hg5w _
              have hw11 : Below ws.heap.size ws w11 := hw10.trans (hq11.mono hw9.size)
              have hx11 : Below w9.heap.size w9 w11 := hqw10.trans hq11
              have hx811 : Below w8.heap.size w8 w11 := hqq9.trans (hx11.mono hqq9.size)
              have hx511 : Below w5.heap.size w5 w11 := hx58.trans (hx811.mono hx58.size)
              have HB5 : Hid (∀ wX, Below w11.heap.size w11 wX → Box wX g5 (msgC { m with k := 9 } a5)) := fun wX h => bw11.below h bw11.1
              have HI5 : Hid (∀ wX, Below w11.heap.size w11 wX → MsgIn wX m a5) := fun wX h => HIa5.out _ (hx11.trans (h.mono hx11.size))
              have HW11 := Lib.hid hew11
              clear bz10 bw11 hew11 hq11 hx11 hg5w hqq9
              have q18 := ((HBP.out _ hw11).2 18 _ rfl).1
              go_upto_region 17 with fail
              rw [← HW11.out]
              clear ka kf
              go_wp2_with (refine wpList_load_mid rfl 32 _ rfl g3 0 rfl (msgC { m with t := N + 1 } a3) _ (box_range (HB3.out _ hx511)) Try.underlying32 rfl size_msg ?_)
              refine (C.check_no { m with t := N + 1 } a3 N _ (mess_to m N) ((HI3.out _ hx511).heads m.k m.f (N + 1)) (HOK.out.heads HOK.out.wk HOK.out.wf HN1.out) HFa3.out HN.out).mono ?_
              rintro e w12 ⟨rfl, hq12⟩
              have hw12 := hw11.trans (hq12.mono hw11.size)
              clear q18
              have q18 := ((HBP.out _ hw12).2 18 _ rfl).1
              go_wp2_with fail
              refine (mnum_any _ _).mono ?_
              rintro e w' ⟨rfl, rfl⟩
              go_wp2_with (refine wpList_load_midG 32 _ rfl g4 0 rfl rfl (msgC { m with t := m.f } a4) _ (box_range (HB4.out _ (hx811.trans (hq12.mono hx811.size)))) Try.underlying32 rfl size_msg ?_)
              refine (C.check_no { m with t := m.f } a4 N _ (mess_self m N) ((HI4.out _ (hx811.trans (hq12.mono hx811.size))).heads m.k m.f m.f) (HOK.out.heads HOK.out.wk HOK.out.wf HOK.out.wf) HFa4.out HN.out).mono ?_
              rintro e w13 ⟨rfl, hq13⟩
              have hw13 := hw12.trans (hq13.mono hw12.size)
              have hx13 := hq12.trans (hq13.mono hq12.size)
              clear q18
              have q18 := ((HBP.out _ hw13).2 18 _ rfl).1
              go_wp2_with fail
              refine (mnum_any _ _).mono ?_
              rintro e w' ⟨rfl, rfl⟩
              go_wp2_with (refine wpList_load_midG 32 _ rfl g5 0 rfl rfl (msgC { m with k := 9 } a5) _ (box_range (HB5.out _ hx13)) Try.underlying32 rfl size_msg ?_)
              refine (C.check_no { m with k := 9 } a5 N _ (mess_nine m N) ((HI5.out _ hx13).heads 9 m.f m.t) (HOK.out.heads (by unfold I64; omega) HOK.out.wf HOK.out.wt) HFa5.out HN.out).mono ?_
              rintro e w14 ⟨rfl, hq14⟩
              have hw14 := hw13.trans (hq14.mono hw13.size)
              go_wp2_with fail
              refine (mnum_any _ _).mono ?_
              rintro e w' ⟨rfl, rfl⟩
              go_wp2_with fail
              go_roundw
              case rel => exact ⟨k + 1, by go_num, by omega, by omega, hb0.trans (hw14.mono hb0.size)⟩
              case measure => simp [intOf]; omega
            have j4 : (m.k != 4) = true := by simp [h4]
            have j6 : (m.k != 6) = true := by simp [h6]
            have HWI := Lib.hid (mess_wider HV.out h4 h6 hw)
            go_wp2_with (refine wpList_load_midG 32 _ rfl gp 0 rfl rfl (msgC m ma) _ (box_ask (HBP.out _ (hb2))) Try.underlying32 rfl size_msg ?_)
            refine (C.check_yes m ma (N + 3) _ HWI.out (HIN.out _ hb2) HOK.out HF1.out HN3.out).mono ?_
            rintro e w2b ⟨rfl, hq2b⟩
            have hb2b := hb2.trans (hq2b.mono hb2.size)
            clear q18 q0 j4 j6 h4 h6
            go_wp2_with fail
            refine (mnum_any _ _).mono ?_
            rintro e w' ⟨rfl, rfl⟩
            go_upto_region 11 with fail
            have q18 := ((HBP.out _ hb2b).2 18 _ rfl).1
            go_wp2_with (refine wpList_load_mid rfl 32 _ rfl gp 0 rfl (msgC m ma) _ (box_ask (HBP.out _ (hb2b))) Try.underlying32 rfl size_msg ?_)
            refine (rcopyMsg_any m ma _ (HIN.out _ hb2b) HF1.out).mono ?_
            rintro e w3 ⟨a3, rfl, hnw3, hfw3, hqw3⟩
            have hw3 := hb2b.trans (hqw3.mono hb2b.size)
            have HIa3 : Hid (∀ wX, Below w3.heap.size w3 wX → MsgIn wX m a3) := fun wX h => (hnw3.below h).in_
            have HFa3 := Lib.hid hfw3
            have hqq3 := hqw3
            clear hnw3 hfw3 hqw3
            obtain ⟨g3, hg3⟩ : ∃ g3, g3 = w3.heap.size := ⟨_, rfl⟩
            have HG3 : Hid (g3 = w3.heap.size) := hg3
            have HZg3 := Lib.hid (box_new w3 (msgC zeroM zeroA) 32)
            go_wp2_with (first
              | (refine wpList_store_box rfl 32 _ _ rfl w3.heap.size 0 (msgC m a3) (msgC zeroM zeroA) (msgC m a3) rfl rfl HZg3.out (by simp [msgC]) rfl size_msg rfl ?_)
              | (refine wpList_run_to rfl 32 rfl (.pointer (some ⟨w3.heap.size, 0, none⟩)) (w3.alloc (.cells (msgC zeroM zeroA).toArray 32)) (by unfold execOp msgC zeroM zeroA; go_simp; done) ?_))
            intro w4 bxg3 Tg3
            have tg3 := Tg3 (fun k => k = w3.heap.size) rfl
            have hqw4 : Below w3.heap.size w3 w4 := ((Below.refl _ _).alloc (Nat.le_refl _) _).trans (tg3.below (fun k hk => by rw [hk]; exact Nat.le_refl _) (by simp))
            have hw4 := hw3.trans (hqw4.mono hw3.size)
            rw [← hg3] at bxg3 ⊢
            have HBg3 : Hid (∀ wX, Below w4.heap.size w4 wX → Box wX g3 (msgC m a3)) := fun wX h => bxg3.below h bxg3.1
            clear Tg3 tg3 bxg3 hg3 HZg3
            clear q18
            have q18 := ((HBP.out _ hw4).2 18 _ rfl).1
            have bz4 := HBg3.out _ (Below.refl _ _)
            have ka := (bz4.2 2 _ rfl).1
            have kf := (bz4.2 2 _ rfl).2
            obtain ⟨w5, hew5⟩ : ∃ w5, w5 = w4.setCell ⟨g3, 2, none⟩ (.int .i64 (N + 1)) := ⟨_, rfl⟩
            have bw5 : Box w5 g3 (msgC { m with t := N + 1 } a3) := by rw [hew5]; exact (bz4).set (j := 2) (by simp [msgC])
            have hg3w : w3.heap.size ≤ g3 := by have := HG3.out; omega
            have hq5 : Below w3.heap.size w4 w5 := by rw [hew5]; exact (Below.refl _ _).setCell hg3w _
            have hw5 : Below ws.heap.size ws w5 := hw4.trans (hq5.mono hw3.size)
            have hx5 : Below w3.heap.size w3 w5 := hqw4.trans hq5
            have HB3 : Hid (∀ wX, Below w5.heap.size w5 wX → Box wX g3 (msgC { m with t := N + 1 } a3)) := fun wX h => bw5.below h bw5.1
            have HI3 : Hid (∀ wX, Below w5.heap.size w5 wX → MsgIn wX m a3) := fun wX h => HIa3.out _ (hx5.trans (h.mono hx5.size))
            have HW5 := Lib.hid hew5
            clear bz4 bw5 hew5 hq5 hx5 hg3w
            go_upto_region 13 with fail
            rw [← HW5.out]
            clear ka kf q18
            go_wp2_with (refine wpList_load_mid rfl 32 _ rfl gp 0 rfl (msgC m ma) _ (box_ask (HBP.out _ (hw5))) Try.underlying32 rfl size_msg ?_)
            refine (rcopyMsg_any m ma _ (HIN.out _ hw5) HF1.out).mono ?_
            rintro e w6 ⟨a4, rfl, hnw6, hfw6, hqw6⟩
            have hw6 := hw5.trans (hqw6.mono hw5.size)
            have HIa4 : Hid (∀ wX, Below w6.heap.size w6 wX → MsgIn wX m a4) := fun wX h => (hnw6.below h).in_
            have HFa4 := Lib.hid hfw6
            have hqq6 := hqw6
            clear hnw6 hfw6 hqw6
            obtain ⟨g4, hg4⟩ : ∃ g4, g4 = w6.heap.size := ⟨_, rfl⟩
            have HG4 : Hid (g4 = w6.heap.size) := hg4
            have HZg4 := Lib.hid (box_new w6 (msgC zeroM zeroA) 32)
            go_wp2_with (first
              | (refine wpList_store_box rfl 32 _ _ rfl w6.heap.size 0 (msgC m a4) (msgC zeroM zeroA) (msgC m a4) rfl rfl HZg4.out (by simp [msgC]) rfl size_msg rfl ?_)
              | (refine wpList_run_to rfl 32 rfl (.pointer (some ⟨w6.heap.size, 0, none⟩)) (w6.alloc (.cells (msgC zeroM zeroA).toArray 32)) (by unfold execOp msgC zeroM zeroA; go_simp; done) ?_))
            intro w7 bxg4 Tg4
            have tg4 := Tg4 (fun k => k = w6.heap.size) rfl
            have hqw7 : Below w6.heap.size w6 w7 := ((Below.refl _ _).alloc (Nat.le_refl _) _).trans (tg4.below (fun k hk => by rw [hk]; exact Nat.le_refl _) (by simp))
            have hw7 := hw6.trans (hqw7.mono hw6.size)
            rw [← hg4] at bxg4 ⊢
            have HBg4 : Hid (∀ wX, Below w7.heap.size w7 wX → Box wX g4 (msgC m a4)) := fun wX h => bxg4.below h bxg4.1
            clear Tg4 tg4 bxg4 hg4 HZg4
            have bz7 := HBg4.out _ (Below.refl _ _)
            have k1 := (bz7.2 1 _ rfl).1
            have ka := (bz7.2 2 _ rfl).1
            have kf := (bz7.2 2 _ rfl).2
            obtain ⟨w8, hew8⟩ : ∃ w8, w8 = w7.setCell ⟨g4, 2, none⟩ (.int .i64 m.f) := ⟨_, rfl⟩
            have bw8 : Box w8 g4 (msgC { m with t := m.f } a4) := by rw [hew8]; exact (bz7).set (j := 2) (by simp [msgC])
            have hg4w : w6.heap.size ≤ g4 := by have := HG4.out; omega
            have hq8 : Below w6.heap.size w7 w8 := by rw [hew8]; exact (Below.refl _ _).setCell hg4w _
            have hw8 : Below ws.heap.size ws w8 := hw7.trans (hq8.mono hw6.size)
            have hx8 : Below w6.heap.size w6 w8 := hqw7.trans hq8
            have hx58 : Below w5.heap.size w5 w8 := hqq6.trans (hx8.mono hqq6.size)
            have HB4 : Hid (∀ wX, Below w8.heap.size w8 wX → Box wX g4 (msgC { m with t := m.f } a4)) := fun wX h => bw8.below h bw8.1
            have HI4 : Hid (∀ wX, Below w8.heap.size w8 wX → MsgIn wX m a4) := fun wX h => HIa4.out _ (hx8.trans (h.mono hx8.size))
            have HW8 := Lib.hid hew8
            clear bz7 bw8 hew8 hq8 hx8 hg4w hqq6
            go_upto_region 15 with fail
            rw [← HW8.out]
            clear ka kf k1
            go_wp2_with (refine wpList_load_mid rfl 32 _ rfl gp 0 rfl (msgC m ma) _ (box_ask (HBP.out _ (hw8))) Try.underlying32 rfl size_msg ?_)
            refine (rcopyMsg_any m ma _ (HIN.out _ hw8) HF1.out).mono ?_
            rintro e w9 ⟨a5, rfl, hnw9, hfw9, hqw9⟩
            have hw9 := hw8.trans (hqw9.mono hw8.size)
            have HIa5 : Hid (∀ wX, Below w9.heap.size w9 wX → MsgIn wX m a5) := fun wX h => (hnw9.below h).in_
            have HFa5 := Lib.hid hfw9
            have hqq9 := hqw9
            clear hnw9 hfw9 hqw9
            obtain ⟨g5, hg5⟩ : ∃ g5, g5 = w9.heap.size := ⟨_, rfl⟩
            have HG5 : Hid (g5 = w9.heap.size) := hg5
            have HZg5 := Lib.hid (box_new w9 (msgC zeroM zeroA) 32)
            go_wp2_with (first
              | (refine wpList_store_box rfl 32 _ _ rfl w9.heap.size 0 (msgC m a5) (msgC zeroM zeroA) (msgC m a5) rfl rfl HZg5.out (by simp [msgC]) rfl size_msg rfl ?_)
              | (refine wpList_run_to rfl 32 rfl (.pointer (some ⟨w9.heap.size, 0, none⟩)) (w9.alloc (.cells (msgC zeroM zeroA).toArray 32)) (by unfold execOp msgC zeroM zeroA; go_simp; done) ?_))
            intro w10 bxg5 Tg5
            have tg5 := Tg5 (fun k => k = w9.heap.size) rfl
            have hqw10 : Below w9.heap.size w9 w10 := ((Below.refl _ _).alloc (Nat.le_refl _) _).trans (tg5.below (fun k hk => by rw [hk]; exact Nat.le_refl _) (by simp))
            have hw10 := hw9.trans (hqw10.mono hw9.size)
            rw [← hg5] at bxg5 ⊢
            have HBg5 : Hid (∀ wX, Below w10.heap.size w10 wX → Box wX g5 (msgC m a5)) := fun wX h => bxg5.below h bxg5.1
            clear Tg5 tg5 bxg5 hg5 HZg5
            have bz10 := HBg5.out _ (Below.refl _ _)
            have ka := (bz10.2 0 _ rfl).1
            have kf := (bz10.2 0 _ rfl).2
            obtain ⟨w11, hew11⟩ : ∃ w11, w11 = w10.setCell ⟨g5, 0, none⟩ (.int .i64 9) := ⟨_, rfl⟩
            have bw11 : Box w11 g5 (msgC { m with k := 9 } a5) := by rw [hew11]; exact (bz10).set (j := 0) (by simp [msgC])
            have hg5w : w9.heap.size ≤ g5 := by have := HG5.out; omega
            have hq11 : Below w9.heap.size w10 w11 := by rw [hew11]; exact (Below.refl _ _).setCell hg5w _
            have hw11 : Below ws.heap.size ws w11 := hw10.trans (hq11.mono hw9.size)
            have hx11 : Below w9.heap.size w9 w11 := hqw10.trans hq11
            have hx811 : Below w8.heap.size w8 w11 := hqq9.trans (hx11.mono hqq9.size)
            have hx511 : Below w5.heap.size w5 w11 := hx58.trans (hx811.mono hx58.size)
            have HB5 : Hid (∀ wX, Below w11.heap.size w11 wX → Box wX g5 (msgC { m with k := 9 } a5)) := fun wX h => bw11.below h bw11.1
            have HI5 : Hid (∀ wX, Below w11.heap.size w11 wX → MsgIn wX m a5) := fun wX h => HIa5.out _ (hx11.trans (h.mono hx11.size))
            have HW11 := Lib.hid hew11
            clear bz10 bw11 hew11 hq11 hx11 hg5w hqq9
            have q18 := ((HBP.out _ hw11).2 18 _ rfl).1
            go_upto_region 17 with fail
            rw [← HW11.out]
            clear ka kf
            go_wp2_with (refine wpList_load_mid rfl 32 _ rfl g3 0 rfl (msgC { m with t := N + 1 } a3) _ (box_range (HB3.out _ hx511)) Try.underlying32 rfl size_msg ?_)
            refine (C.check_no { m with t := N + 1 } a3 N _ (mess_to m N) ((HI3.out _ hx511).heads m.k m.f (N + 1)) (HOK.out.heads HOK.out.wk HOK.out.wf HN1.out) HFa3.out HN.out).mono ?_
            rintro e w12 ⟨rfl, hq12⟩
            have hw12 := hw11.trans (hq12.mono hw11.size)
            clear q18
            have q18 := ((HBP.out _ hw12).2 18 _ rfl).1
            go_wp2_with fail
            refine (mnum_any _ _).mono ?_
            rintro e w' ⟨rfl, rfl⟩
            go_wp2_with (refine wpList_load_midG 32 _ rfl g4 0 rfl rfl (msgC { m with t := m.f } a4) _ (box_range (HB4.out _ (hx811.trans (hq12.mono hx811.size)))) Try.underlying32 rfl size_msg ?_)
            refine (C.check_no { m with t := m.f } a4 N _ (mess_self m N) ((HI4.out _ (hx811.trans (hq12.mono hx811.size))).heads m.k m.f m.f) (HOK.out.heads HOK.out.wk HOK.out.wf HOK.out.wf) HFa4.out HN.out).mono ?_
            rintro e w13 ⟨rfl, hq13⟩
            have hw13 := hw12.trans (hq13.mono hw12.size)
            have hx13 := hq12.trans (hq13.mono hq12.size)
            clear q18
            have q18 := ((HBP.out _ hw13).2 18 _ rfl).1
            go_wp2_with fail
            refine (mnum_any _ _).mono ?_
            rintro e w' ⟨rfl, rfl⟩
            go_wp2_with (refine wpList_load_midG 32 _ rfl g5 0 rfl rfl (msgC { m with k := 9 } a5) _ (box_range (HB5.out _ hx13)) Try.underlying32 rfl size_msg ?_)
            refine (C.check_no { m with k := 9 } a5 N _ (mess_nine m N) ((HI5.out _ hx13).heads 9 m.f m.t) (HOK.out.heads (by unfold I64; omega) HOK.out.wf HOK.out.wt) HFa5.out HN.out).mono ?_
            rintro e w14 ⟨rfl, hq14⟩
            have hw14 := hw13.trans (hq14.mono hw13.size)
            go_wp2_with fail
            refine (mnum_any _ _).mono ?_
            rintro e w' ⟨rfl, rfl⟩
            go_wp2_with fail
            go_roundw
            case rel => exact ⟨k + 1, by go_num, by omega, by omega, hb0.trans (hw14.mono hb0.size)⟩
            case measure => simp [intOf]; omega
      · have i2 : ¬ ((k : Int) < 8) := by omega
        have i1 : (k : Int) < (len : Int) := by omega
        go_wp2_with fail
        refine (mwakes_any HC.out C _).mono ?_
        rintro e w' ⟨rfl, hbw⟩
        go_wp2_with fail
        go_ret
        exact ⟨rfl, hb.trans (hbw.mono hb.size)⟩
    · have i1 : ¬ ((k : Int) < (len : Int)) := by omega
      go_wp2_with fail
      refine (mwakes_any HC.out C _).mono ?_
      rintro e w' ⟨rfl, hbw⟩
      go_wp2_with fail
      go_ret
      exact ⟨rfl, hb.trans (hbw.mono hb.size)⟩

end Go.Proofs.Ytafkcofocjellaa
