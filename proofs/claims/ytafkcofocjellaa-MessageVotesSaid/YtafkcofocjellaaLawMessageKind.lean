/-
  The walk of 'kind', out of what it asks of package message.
-/
import Derived.Test.YtafkcofocjellaaMLaw
import Derived.Test.YtafkcofocjellaaMWeigh
import Derived.Test.YtafkcofocjellaaMFour
import Derived.Test.YtafkcofocjellaaMMay
import Derived.Test.YtafkcofocjellaaZA
import Derived.Deep.DeepCutAuto
import Derived.Deep.CutRange
import Derived.Deep.RegionLaw
namespace Go.Proofs.Ytafkcofocjellaa
open Go.RowKit

set_option maxRecDepth 100000 in
set_option maxHeartbeats 16000000 in
theorem kind_walk {E : MsgD → Int → List Int} {D : List Int → Int → Option MsgD} (HC : Hid (MCodec E D)) (C : MContracts E D) (a : Option Addr) (len cap : Nat) (K : Int) (w : World) (ha : MAsks w a len cap) :
    Calls Try.prog 26 #[.slice a len cap, .int .i64 K] w fun e w' => e = .returned (.bool true) ∧ Below w.heap.size w w' := by
  obtain ⟨hl, hm, hi⟩ := ha
  unfold maxLen at hm
  have HI := Lib.hid hi
  clear hi
  go_enter Try.func26, Try.ntmps26
  go_wp2_with fail
  go_loopw [5] (fun i wr => ∃ k : Nat, i = .int .i64 k ∧ k ≤ len ∧ k ≤ 8 ∧ Below w.heap.size w wr) (fun i _ => 8 - (intOf i).toNat)
  case atStart => exact ⟨0, rfl, by omega, by omega, Below.refl _ _⟩
  case round =>
    obtain ⟨k, rfl, hk, hkm, hb⟩ := hrel
    by_cases hlt : k < len
    · by_cases hmo : k < 8
      · have i0 : (0 : Int) ≤ (k : Int) := by omega
        have i1 : (k : Int) < (len : Int) := by omega
        have i2 : (k : Int) < 8 := by omega
        obtain ⟨b, off, ⟨m, ma, N, XA, cX, X⟩, nX, rfl, (hnX : X.length = nX), hA⟩ := (HI.out k hlt).all
        have HNX := Lib.hid hnX
        have HA := Lib.hid hA
        obtain ⟨gp, hgp⟩ : ∃ gp, gp = wr.heap.size := ⟨_, rfl⟩
        have HZB := Lib.hid (box_new wr (askC zeroM zeroA 0 none 0 0) 35)
        have HRG := Lib.hid (hA _ hb).2
        clear hnX hA
        go_upto_region 4 with fail
        go_wp2_with (first
          | (refine wpList_load_mid rfl 35 _ rfl b (off + k * 20) rfl (askC m ma N XA nX cX) _ HRG.out Try.underlying35 rfl size_mask ?_)
          | (refine wpList_store_box rfl 35 _ _ rfl wr.heap.size 0 (askC m ma N XA nX cX) (askC zeroM zeroA 0 none 0 0) (askC m ma N XA nX cX) rfl rfl HZB.out (by simp [askC]) rfl size_mask rfl ?_)
          | (refine wpList_run_to rfl 35 rfl (.pointer (some ⟨wr.heap.size, 0, none⟩)) (wr.alloc (.cells (askC zeroM zeroA 0 none 0 0).toArray 35)) (by unfold execOp askC zeroM zeroA; go_simp; done) ?_))
        intro ws bxs Ts
        have ts := Ts (fun k => k = wr.heap.size) rfl
        have hrs : Below wr.heap.size wr ws := ((Below.refl _ _).alloc (Nat.le_refl _) _).trans (ts.below (fun k hk => by rw [hk]; exact Nat.le_refl _) (by simp))
        have hb0 : Below w.heap.size w ws := hb.trans (hrs.mono hb.size)
        rw [← hgp] at bxs ⊢
        have HBP : Hid (∀ wX, Below ws.heap.size ws wX → Box wX gp (askC m ma N XA nX cX)) := fun wX h => bxs.below h bxs.1
        have HOK := Lib.hid (HA.out _ hb).1.ok
        have HN := Lib.hid (HA.out _ hb).1.wN
        have HIN : Hid (∀ wX, Below ws.heap.size ws wX → MsgIn wX m ma) := fun wX h => (HA.out _ (hb0.trans (h.mono hb0.size))).1.hi
        have HFW := Lib.hid (HA.out _ hb).1.few
        clear Ts ts hrs bxs hb hgp HRG HZB HA
        go_wp2_with (refine wpList_load_mid rfl 32 _ rfl gp 0 rfl (msgC m ma) _ (box_ask (HBP.out _ (Below.refl _ _))) Try.underlying32 rfl size_msg ?_)
        refine (mheavy_any m ma _ (HIN.out _ (Below.refl _ _)) HOK.out HFW.out).mono ?_
        rintro e w1 ⟨hv, rfl, hb1, hfew⟩
        have HFE := Lib.hid hfew
        clear hfew
        cases hv with
        | true =>
          go_wp2_with fail
          go_ret
          exact ⟨rfl, hb0.trans (hb1.mono hb0.size)⟩
        | false =>
          have HF1 := Lib.hid ((HFE.out rfl).more (show 2000 ≤ 1000000 by omega))
          clear HFE HFW
          have q0 := ((HBP.out _ hb1).2 0 _ rfl).1
          have q18 := ((HBP.out _ hb1).2 18 _ rfl).1
          by_cases hk7 : m.k = K
          · have j1 : (m.k != K) = false := by simp [hk7]
            clear hk7
            go_wp2_with (refine wpList_load_mid rfl 32 _ rfl gp 0 rfl (msgC m ma) _ (box_ask (HBP.out _ (hb1))) Try.underlying32 rfl size_msg ?_)
            refine (rmsg_is (messB m N) m ma N _ rfl (HIN.out _ hb1) HF1.out).mono ?_
            rintro e w2 ⟨rfl, hq2⟩
            have hb2 := hb1.trans (hq2.mono hb1.size)
            clear q0 q18 hq2
            have q18 := ((HBP.out _ hb2).2 18 _ rfl).1
            go_wp2_with (refine wpList_load_mid rfl 32 _ rfl gp 0 rfl (msgC m ma) _ (box_ask (HBP.out _ (hb2))) Try.underlying32 rfl size_msg ?_)
            cases hv : messB m N with
            | false =>
              have HV := Lib.hid hv
              clear hv
              refine (C.enc_no m ma N _ HV.out (HIN.out _ hb2) HOK.out HF1.out HN.out).mono ?_
              rintro e w3 ⟨rfl, hq3⟩
              have hb3 := hb2.trans (hq3.mono hb2.size)
              clear q18 hq3
              have q18 := ((HBP.out _ hb3).2 18 _ rfl).1
              go_wp2_with fail
              refine (mnum_any _ _).mono ?_
              rintro e w' ⟨rfl, rfl⟩
              go_wp2_with (refine wpList_load_midG 32 _ rfl gp 0 rfl rfl (msgC m ma) _ (box_ask (HBP.out _ (hb3))) Try.underlying32 rfl size_msg ?_)
              refine (C.check_no m ma N _ HV.out (HIN.out _ hb3) HOK.out HF1.out HN.out).mono ?_
              rintro e w4 ⟨rfl, hq4⟩
              have hb4 := hb3.trans (hq4.mono hb3.size)
              go_wp2_with fail
              refine (mnum_any _ _).mono ?_
              rintro e w' ⟨rfl, rfl⟩
              go_wp2_with fail
              go_roundw
              case rel => exact ⟨k + 1, by go_num, by omega, by omega, hb0.trans (hb4.mono hb0.size)⟩
              case measure => simp [intOf]; omega
            | true =>
              have HV := Lib.hid hv
              have hsmall := HC.out.small _ _ hv
              obtain ⟨nb, hnb⟩ : ∃ nb, (E m N).length = nb := ⟨_, rfl⟩
              rw [hnb] at hsmall
              have HNB := Lib.hid hnb
              clear hv hnb
              refine (C.enc_yes m ma N _ HV.out (HIN.out _ hb2) HOK.out HF1.out HN.out).mono ?_
              rintro e w3 ⟨v3, rfl, ho3, hq3⟩
              have ho3b := own_cast ho3 ((u8s_length _).trans HNB.out)
              obtain ⟨A3, d3, rfl, hd3, hm3, hr3, _, hl3⟩ := own_val ho3b
              clear hl3 ho3 ho3b
              have hb3 := hb2.trans (hq3.mono hb2.size)
              clear q18 hq3
              have q18 := ((HBP.out _ hb3).2 18 _ rfl).1
              go_wp2_with fail
              refine (mnum_any _ _).mono ?_
              rintro e w' ⟨rfl, rfl⟩
              go_wp2_with (refine wpList_load_midG 32 _ rfl gp 0 rfl rfl (msgC m ma) _ (box_ask (HBP.out _ (hb3))) Try.underlying32 rfl size_msg ?_)
              refine (C.check_yes m ma N _ HV.out (HIN.out _ hb3) HOK.out HF1.out HN.out).mono ?_
              rintro e w4 ⟨rfl, hq4⟩
              have hb4 := hb3.trans (hq4.mono hb3.size)
              have hr4 := hr3.below hq4
              clear q18 hq4 hr3
              have q18 := ((HBP.out _ hb4).2 18 _ rfl).1
              go_wp2_with fail
              refine (mnum_any _ _).mono ?_
              rintro e w' ⟨rfl, rfl⟩
              go_wp2_with fail
              refine (C.dec_yes A3 d3 nb _ m N _ (HC.out.put _ _ HV.out) HNB.out hr4 (HC.out.byts _ _ HV.out) hd3 hm3 hsmall HN.out).mono ?_
              rintro e w5 ⟨a5, rfl, hi5, hq5⟩
              have hb5 := hb4.trans (hq5.mono hb4.size)
              have HI5 : Hid (∀ wX, Below w5.heap.size w5 wX → MsgIn wX m a5) := fun wX h => hi5.below h
              have HF5 := Lib.hid (mess_few HV.out hi5)
              clear hi5 hq5 hr4 q18
              obtain ⟨g5, hg5⟩ : ∃ g5, g5 = w5.heap.size := ⟨_, rfl⟩
              have HZ5 := Lib.hid (box_new w5 (msgC zeroM zeroA) 32)
              go_wp2_with (first
                | (refine wpList_store_box rfl 32 _ _ rfl w5.heap.size 0 (msgC m a5) (msgC zeroM zeroA) (msgC m a5) rfl rfl HZ5.out (by simp [msgC]) rfl size_msg rfl ?_)
                | (refine wpList_run_to rfl 32 rfl (.pointer (some ⟨w5.heap.size, 0, none⟩)) (w5.alloc (.cells (msgC zeroM zeroA).toArray 32)) (by unfold execOp msgC zeroM zeroA; go_simp; done) ?_))
              intro w6 bx6 T6
              have t6 := T6 (fun k => k = w5.heap.size) rfl
              have h56 : Below w5.heap.size w5 w6 := ((Below.refl _ _).alloc (Nat.le_refl _) _).trans (t6.below (fun k hk => by rw [hk]; exact Nat.le_refl _) (by simp))
              have hb6 := hb5.trans (h56.mono hb5.size)
              rw [← hg5] at bx6 ⊢
              have HBM : Hid (∀ wX, Below w6.heap.size w6 wX → Box wX g5 (msgC m a5)) := fun wX h => bx6.below h bx6.1
              have HIM : Hid (∀ wX, Below w6.heap.size w6 wX → MsgIn wX m a5) := fun wX h => HI5.out _ (h56.trans (h.mono h56.size))
              clear T6 t6 bx6 hg5 HZ5
              go_wp2_with fail
              refine (mnum_any _ _).mono ?_
              rintro e w' ⟨rfl, rfl⟩
              go_wp2_with (first
                | (refine wpList_load_midG 32 _ rfl g5 0 rfl rfl (msgC m a5) _ (box_range (HBM.out _ (Below.refl _ _))) Try.underlying32 rfl size_msg ?_)
                | (refine wpList_load_midG 32 _ rfl gp 0 rfl rfl (msgC m ma) _ (box_ask (HBP.out _ (hb6))) Try.underlying32 rfl size_msg ?_))
              refine (reqMsg_is true m m a5 ma _ (by simp) (HIM.out _ (Below.refl _ _)) (HIN.out _ hb6) HF5.out HF1.out).mono ?_
              rintro e w7 ⟨rfl, hq7⟩
              have hb7 := hb6.trans (hq7.mono hb6.size)
              go_upto_region 16 with fail
              refine four_messages (z := 10) (p := 84) (q := 12) (m := m) (am := a5) rfl (mback_of (by kernel_rfl)) ?_ ?_ ?_ ?_ (by decide) (by decide) (by simp) rfl (HBM.out _ hq7) (HIM.out _ hq7) HF5.out ?_
              · intro k hk
                rcases k with _ | _ | _ | _ | k
                all_goals first | exact ⟨_, rfl, rfl, rfl, rfl⟩ | omega
              · intro k hk
                rcases k with _ | _ | _ | _ | k
                all_goals first | exact ⟨_, rfl, rfl, rfl, rfl, by simp⟩ | omega
              · refine ⟨_, rfl, rfl, rfl, rfl, fun k hk => ?_⟩
                rcases k with _ | _ | _ | _ | k
                all_goals first | (simp; done) | omega
              · exact ⟨_, rfl, rfl, rfl, rfl, by simp⟩
              · intro r gB w8 hF
                obtain ⟨hq8, hrows, hap, hgB, hbx8⟩ := hF
                have hb8 := hb7.trans (hq8.mono hb7.size)
                obtain ⟨n0, f0, g0⟩ := hrows 0 (by omega)
                obtain ⟨n1, f1, g1⟩ := hrows 1 (by omega)
                obtain ⟨n2, f2, g2⟩ := hrows 2 (by omega)
                obtain ⟨n3, f3, g3⟩ := hrows 3 (by omega)
                have a03 := hap 3 0 (by omega) (by omega) (by omega)
                have a13 := hap 3 1 (by omega) (by omega) (by omega)
                have a23 := hap 3 2 (by omega) (by omega) (by omega)
                obtain ⟨r0, hr0⟩ : ∃ x, r 0 = x := ⟨_, rfl⟩
                obtain ⟨r1, hr1⟩ : ∃ x, r 1 = x := ⟨_, rfl⟩
                obtain ⟨r2, hr2⟩ : ∃ x, r 2 = x := ⟨_, rfl⟩
                obtain ⟨r3, hr3⟩ : ∃ x, r 3 = x := ⟨_, rfl⟩
                rw [hr0] at n0 f0 g0 a03
                rw [hr1] at n1 f1 g1 a13
                rw [hr2] at n2 f2 g2 a23
                rw [hr3] at n3 f3 g3 a03 a13 a23
                rw [hr0, hr1, hr2, hr3] at hbx8
                rw [hr0, hr1, hr2, hr3]
                clear hr0 hr1 hr2 hr3 hrows hap
                obtain ⟨x1, hx1⟩ : ∃ x, IntKind.i64.wrap (m.bn + 1) = x := ⟨_, rfl⟩
                obtain ⟨x2, hx2⟩ : ∃ x, IntKind.i64.wrap (m.ha + 1) = x := ⟨_, rfl⟩
                obtain ⟨x3, hx3⟩ : ∃ x, IntKind.i64.wrap (m.cd + 1) = x := ⟨_, rfl⟩
                have k5 := (hbx8.2 5 _ rfl).1
                have kf5 := (hbx8.2 5 _ rfl).2
                have k25 := (hbx8.2 25 _ rfl).1
                have kf25 := (hbx8.2 25 _ rfl).2
                have k51 := (hbx8.2 51 _ rfl).1
                have kf51 := (hbx8.2 51 _ rfl).2
                obtain ⟨w9, hw9⟩ : ∃ w9, w9 = ((w8.setCell ⟨gB, 5, none⟩ (.int .i64 x1)).setCell ⟨gB, 25, none⟩ (.int .i64 x2)).setCell ⟨gB, 51, none⟩ (.int .i64 x3) := ⟨_, rfl⟩
                have hbx9 : Box w9 gB ((((cells4 m r0 r1 r2 r3).set 5 (.int .i64 x1)).set 25 (.int .i64 x2)).set 51 (.int .i64 x3)) := by rw [hw9]; exact ((hbx8.set (by simp [cells4, msgC])).set (by simp [cells4, msgC])).set (by simp [cells4, msgC])
                obtain ⟨F, hF⟩ : ∃ F : Nat → Prop, F = fun k => k = gB := ⟨_, rfl⟩
                have s89 : Touch F w8 w9 := by rw [hw9, hF]; exact (((Touch.refl (fun k => k = gB) w8).set (.inl rfl) _).set (.inl rfl) _).set (.inl rfl) _
                go_upto_region 20 with fail
                rw [← hw9]
                have W1 : I64 x1 := by rw [← hx1]; exact i64_wrap _
                have W2 : I64 x2 := by rw [← hx2]; exact i64_wrap _
                have W3 : I64 x3 := by rw [← hx3]; exact i64_wrap _
                have HFB : Hid (∀ k, F k → k = gB) := by show ∀ k, F k → _; rw [hF]; exact fun k h => h
                have n09 := n0.kept fun g hg _ => s89.block g (n0.lt hg).1 fun hf => g0 (by rw [← HFB.out g hf]; exact hg)
                have n19 := n1.kept fun g hg _ => s89.block g (n1.lt hg).1 fun hf => g1 (by rw [← HFB.out g hf]; exact hg)
                have n29 := n2.kept fun g hg _ => s89.block g (n2.lt hg).1 fun hf => g2 (by rw [← HFB.out g hf]; exact hg)
                have n39 := n3.kept fun g hg _ => s89.block g (n3.lt hg).1 fun hf => g3 (by rw [← HFB.out g hf]; exact hg)
                have b89 : Below w7.heap.size w8 w9 := s89.below (fun k hk => by rw [HFB.out k hk]; exact hgB) hq8.size
                have k71 := (hbx9.2 71 _ rfl).1
                have hsz9 : w7.heap.size ≤ w9.heap.size := by have := hq8.size; have := b89.size; omega
                have hn3 := f3.sD
                clear hw9 k5 kf5 k25 kf25 k51 kf51 hx1 hx2 hx3 n0 n1 n2 n3 hbx8 hF
                go_wp2_with (at_builtin; refine wpList_app_lies _ rfl _ _ 26 rfl w7.heap.size 3 (.int .i64 0) 8 Try.underlying26 info_i64 rfl (by decide) _ r3.nD _ rfl (n39.oD.alloc _) w9.heap.size (.int .i64 0) rfl (cell_new _ _ _) rfl (by omega) (by simp; omega) ?_)
                intro g' c' w10 ho10 hgr10 hl10
                have hneD : some gB ≠ (Value.slice r3.AD r3.nD r3.cD).ownBlock := fun e => g3 (.inr (.inr (.inr (.inr (.inr (.inr e.symm))))))
                have hbx10 := (hbx9.below ((Below.refl _ _).alloc (Nat.le_refl _) (.cells #[.int .i64 0] 3)) hbx9.1).grown hgr10 hneD
                have j71 := (hbx10.2 71 _ rfl).1
                have jf71 := (hbx10.2 71 _ rfl).2
                obtain ⟨w11, hw11⟩ : ∃ w11, w11 = w10.setCell ⟨gB, 71, none⟩ (.slice (some ⟨g', 0, none⟩) (r3.nD + 1) c') := ⟨_, rfl⟩
                clear k71
                go_upto_region 21 with fail
                rw [← hw11]
                have s1011 : Touch (fun k => k = gB) w10 w11 := by rw [hw11]; exact (Touch.refl (fun k => k = gB) w10).set (.inl rfl) _
                have hal : Below w9.heap.size w9 (w9.alloc (.cells #[.int .i64 0] 3)) := (Below.refl _ _).alloc (Nat.le_refl _) _
                have hz10 : (w9.alloc (.cells #[.int .i64 0] 3)).heap.size ≤ w10.heap.size := hgr10.size
                have q3 : ∀ g, g ≠ gB → (Value.slice r3.AD r3.nD r3.cD).ownBlock ≠ some g → g < (w9.alloc (.cells #[.int .i64 0] 3)).heap.size → w11.heap[g]? = (w9.alloc (.cells #[.int .i64 0] 3)).heap[g]? := fun g hg hne hl => (s1011.block g (by omega) hg).trans (hgr10.block g hl fun e => hne e.symm)
                have h3D : ∀ g, (Value.slice r3.AD r3.nD r3.cD).ownBlock = some g → r3.has g := fun g e => .inr (.inr (.inr (.inr (.inr (.inr e)))))
                have i0 : MsgIn w11 { m with bn := x1 } r0 := ((n09.below hal).kept fun g hg hl => q3 g (fun e => g0 (e ▸ hg)) (fun e => a03 g (h3D g e) hg) hl).in_.bn x1
                have i1' : MsgIn w11 { m with ha := x2 } r1 := ((n19.below hal).kept fun g hg hl => q3 g (fun e => g1 (e ▸ hg)) (fun e => a13 g (h3D g e) hg) hl).in_.ha x2
                have i2' : MsgIn w11 { m with cd := x3 } r2 := ((n29.below hal).kept fun g hg hl => q3 g (fun e => g2 (e ▸ hg)) (fun e => a23 g (h3D g e) hg) hl).in_.cd x3
                obtain ⟨zL, yL, vL, uL⟩ := own_isT (own_kept (ownS_below n39.oL hal) fun g hg hl => q3 g (fun e => g3 (e ▸ (.inl hg))) (fun e => n39.aL g e hg) hl)
                obtain ⟨zhB, yhB, vhB, uhB⟩ := own_is (own_kept (own_below n39.ohB hal) fun g hg hl => q3 g (fun e => g3 (e ▸ (.inr (.inl hg)))) (fun e => n39.ahB g e hg) hl)
                obtain ⟨zhP, yhP, vhP, uhP⟩ := own_is (own_kept (own_below n39.ohP hal) fun g hg hl => q3 g (fun e => g3 (e ▸ (.inr (.inr (.inl hg))))) (fun e => n39.ahP g e hg) hl)
                obtain ⟨zcB, ycB, vcB, ucB⟩ := own_is (own_kept (own_below n39.ocB hal) fun g hg hl => q3 g (fun e => g3 (e ▸ (.inr (.inr (.inr (.inl hg)))))) (fun e => n39.acB g e hg) hl)
                obtain ⟨zcP, ycP, vcP, ucP⟩ := own_is (own_kept (own_below n39.ocP hal) fun g hg hl => q3 g (fun e => g3 (e ▸ (.inr (.inr (.inr (.inr (.inl hg))))))) (fun e => n39.acP g e hg) hl)
                obtain ⟨zcS, ycS, vcS, ucS⟩ := own_is (own_kept (own_below n39.ocS hal) fun g hg hl => q3 g (fun e => g3 (e ▸ (.inr (.inr (.inr (.inr (.inr (.inl hg)))))))) (fun e => n39.acS g e hg) hl)
                have hgn : g' ≠ gB := by
                  rcases hl10 with h | h
                  · exact fun e => g3 (e ▸ h3D g' h)
                  · have := hbx9.1
                    have e : (w9.alloc (.cells #[.int .i64 0] 3)).heap.size = w9.heap.size + 1 := by simp
                    omega
                have ho11 : w11.ownsRow w7.heap.size 3 1 (.slice (some ⟨g', 0, none⟩) (r3.nD + 1) c') (r3.nD + 1) (i64s (m.D ++ [0])) := own_kept (own_conv ho10 (by rw [i64s_append]; rfl) rfl) fun g hg hl => s1011.block g hl (fun e => hgn (by cases hg; exact e))
                obtain ⟨zD, yD, vD, uD⟩ := own_is ho11
                have i3' : MsgIn w11 { m with D := m.D ++ [0] } { r3 with AD := some ⟨g', 0, none⟩, nD := r3.nD + 1, cD := c' } := ⟨zL, yL, vL, uL, zhB, yhB, vhB, uhB, zhP, yhP, vhP, uhP, zcB, ycB, vcB, ucB, zcP, ycP, vcP, ucP, zcS, ycS, vcS, ucS, zD, yD, vD, uD⟩
                have hnD : r3.nD ≤ 16 := by have := n39.in_.zD; have := (mess_short HV.out).2.2.2.2.2.2; omega
                have f3' : MsgFew 1000000 { r3 with AD := some ⟨g', 0, none⟩, nD := r3.nD + 1, cD := c' } := ⟨f3.sL, f3.shB, f3.shP, f3.scB, f3.scP, f3.scS, by show r3.nD + 1 ≤ 1000000; omega⟩
                have hbx11 : Box w11 gB (msgC { m with bn := x1 } r0 ++ msgC { m with ha := x2 } r1 ++ msgC { m with cd := x3 } r2 ++ msgC { m with D := m.D ++ [0] } { r3 with AD := some ⟨g', 0, none⟩, nD := r3.nD + 1, cD := c' }) := by rw [hw11]; exact hbx10.set (j := 71) (by simp [cells4, msgC])
                have HJ : Hid (∀ j : Nat, j < 4 → ∃ mj rj, (∀ wX, Below w11.heap.size w11 wX → wX.rangeAt gB (j * 18) (msgC mj rj)) ∧ MsgIn w11 mj rj ∧ MsgOk mj ∧ MsgFew 1000000 rj) := fun j hj => by
                  obtain ⟨q0, q1, q2, q3⟩ := range_four hbx11
                  match j, hj with
                  | 0, _ => exact ⟨_, _, fun wX h => range_below q0 h hbx11.1, i0, HOK.out.bn W1, f0⟩
                  | 1, _ => exact ⟨_, _, fun wX h => range_below q1 h hbx11.1, i1', HOK.out.ha W2, f1⟩
                  | 2, _ => exact ⟨_, _, fun wX h => range_below q2 h hbx11.1, i2', HOK.out.cd W3, f2⟩
                  | 3, _ => exact ⟨_, _, fun wX h => range_below q3 h hbx11.1, i3', HOK.out.more0, f3'⟩
                have hbs11 : Below ws.heap.size ws w11 := by
                  have a2 : Below w7.heap.size w9 w10 := (hal.mono hsz9).trans (below_own (Below.refl _ _) (n39.oD.alloc _) hgr10 (by simp; omega))
                  have a3 : Below w7.heap.size w10 w11 := s1011.below (fun k hk => by rw [hk]; exact hgB) (by have := a2.size; omega)
                  exact hb8.trans (((b89.trans a2).trans a3).mono hb7.size)
                have hb11 : Below w.heap.size w w11 := hb0.trans (hbs11.mono hb0.size)
                have HBP11 : Hid (∀ wX, Below w11.heap.size w11 wX → wX.cell? ⟨gp, 18, none⟩ = some (.int .i64 N)) := fun wX h => ((HBP.out _ (hbs11.trans (h.mono hbs11.size))).2 18 _ rfl).1
                clear i0 i1' i2' i3' f3' hbx11 hbx10 hbx9 q3 s1011 hal n09 n19 n29 n39 ho11 ho10 hgr10 hl10 j71 jf71 hw11 f0 f1 f2 f3 g0 g1 g2 g3 a03 a13 a23 zL yL vL uL zhB yhB vhB uhB zhP yhP vhP uhP zcB ycB vcB ucB zcP ycP vcP ucP zcS ycS vcS ucS zD yD vD uD h3D hgn hneD hnD hn3 hsz9 hz10 b89 s89 W1 W2 W3
                go_wp2_with fail
                go_loopw [13] (fun i wz => ∃ j : Nat, i = .int .i64 j ∧ j ≤ 4 ∧ Below w11.heap.size w11 wz) (fun i _ => 4 - (intOf i).toNat)
                case atStart => exact ⟨0, rfl, by omega, Below.refl _ _⟩
                case round =>
                  obtain ⟨j, rfl, hj4, hbz⟩ := hrel
                  by_cases hj : j < 4
                  · obtain ⟨mj, rj, hrg, hij, hoj, hfj⟩ := HJ.out j hj
                    have e0 : (0 : Int) ≤ (j : Int) := by omega
                    have e1 : (j : Int) < 4 := by omega
                    have hn18 : ∀ x : Calm wr, x.val.cell? ⟨gp, 18, none⟩ = some (.int .i64 N) := fun x => HBP11.out _ (hbz.trans (x.ok.mono hbz.size))
                    have HRJ : Hid (∀ x : Calm wr, x.val.rangeAt gB (j * 18) (msgC mj rj)) := fun x => hrg _ (hbz.trans (x.ok.mono hbz.size))
                    have HIJ : Hid (∀ x : Calm wr, MsgIn x.val mj rj) := fun x => hij.below (hbz.trans (x.ok.mono hbz.size))
                    clear hrg hij
                    cases hv : messB mj N with
                    | false =>
                      have HVJ := Lib.hid hv
                      clear hv
                      go_wp2_with fail
                      refine wp_region_calm (by kernel_rfl) (by kernel_rfl) ?_
                      repeat (first
                        | (refine wpQuiet_load_mid 32 _ rfl gB (j * 18) rfl rfl (msgC mj rj) _ (fun w' hx => by obtain ⟨x, rfl⟩ := hx; exact HRJ.out x) Try.underlying32 rfl size_msg ?_; simp only [Act.put, List.setIfInBounds_toArray, List.set_cons_succ, List.set_cons_zero])
                        | go_big_quiet_step (first
                          | (go_at_call 18; exact calm_tells (C.check_no mj rj N _ HVJ.out (HIJ.out _) hoj hfj HN.out))
                          | (go_at_call 17; exact calm_same (mnum_any _ _))
                          | (go_at_call 19; exact calm_tells (rmsg_is false mj rj N _ HVJ.out (HIJ.out _) hfj))))
                      refine wpQuiet_nil ?_
                      rintro _ ⟨x, rfl⟩
                      go_wp2_with fail
                      go_roundw
                      case rel => exact ⟨j + 1, by go_num, by omega, hbz.trans (x.ok.mono hbz.size)⟩
                      case measure => simp [intOf]; omega
                    | true =>
                      have HVJ := Lib.hid hv
                      clear hv
                      go_wp2_with fail
                      refine wp_region_calm (by kernel_rfl) (by kernel_rfl) ?_
                      repeat (first
                        | (refine wpQuiet_load_mid 32 _ rfl gB (j * 18) rfl rfl (msgC mj rj) _ (fun w' hx => by obtain ⟨x, rfl⟩ := hx; exact HRJ.out x) Try.underlying32 rfl size_msg ?_; simp only [Act.put, List.setIfInBounds_toArray, List.set_cons_succ, List.set_cons_zero])
                        | go_big_quiet_step (first
                          | (go_at_call 18; exact calm_tells (C.check_yes mj rj N _ HVJ.out (HIJ.out _) hoj hfj HN.out))
                          | (go_at_call 17; exact calm_same (mnum_any _ _))
                          | (go_at_call 19; exact calm_tells (rmsg_is true mj rj N _ HVJ.out (HIJ.out _) hfj))))
                      refine wpQuiet_nil ?_
                      rintro _ ⟨x, rfl⟩
                      go_wp2_with fail
                      go_roundw
                      case rel => exact ⟨j + 1, by go_num, by omega, hbz.trans (x.ok.mono hbz.size)⟩
                      case measure => simp [intOf]; omega
                  · have e1 : ¬ ((j : Int) < 4) := by omega
                    go_wp2_with fail
                    go_roundw
                    case rel => exact ⟨k + 1, by go_num, by omega, by omega, hb11.trans (hbz.mono hb11.size)⟩
                    case measure => simp [intOf]; omega
          · have j1 : (m.k != K) = true := by simp [hk7]
            clear hk7
            go_wp2_with fail
            go_roundw
            case rel => exact ⟨k + 1, by go_num, by omega, by omega, hb0.trans (hb1.mono hb0.size)⟩
            case measure => simp [intOf]; omega
      · have i2 : ¬ ((k : Int) < 8) := by omega
        have i1 : (k : Int) < (len : Int) := by omega
        go_wp2_with fail
        refine (mwakes_any HC.out C _).mono ?_
        rintro e w' ⟨rfl, hbw⟩
        go_wp2_with fail
        go_ret
        exact ⟨rfl, hb.trans (hbw.mono hb.size)⟩
    · have i1 : ¬ ((k : Int) < (len : Int)) := by omega
      go_wp2_with fail
      refine (mwakes_any HC.out C _).mono ?_
      rintro e w' ⟨rfl, hbw⟩
      go_wp2_with fail
      go_ret
      exact ⟨rfl, hb.trans (hbw.mono hb.size)⟩

end Go.Proofs.Ytafkcofocjellaa
