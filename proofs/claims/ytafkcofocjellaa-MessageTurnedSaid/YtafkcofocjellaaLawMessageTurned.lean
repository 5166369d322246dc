/-
  The walk of 'MessageTurned', out of what it asks of package message.
-/
import Derived.Test.YtafkcofocjellaaMLaw
import Derived.Test.YtafkcofocjellaaMWeigh
import Derived.Test.YtafkcofocjellaaMFour
import Derived.Test.YtafkcofocjellaaMMay
import Derived.Test.YtafkcofocjellaaZA
import Derived.Deep.DeepCutAuto
import Derived.Deep.CutRange
import Derived.Deep.RegionLaw
import Derived.Laws.BitsAllLaws
import Derived.Test.YtafkcofocjellaaZD
namespace Go.Proofs.Ytafkcofocjellaa
open Go.RowKit

theorem turn_byteM {u c : Int} (hu : Byt u) (h0 : 1 ≤ c) (h1 : c ≤ 255) : Byt (bits .xor .u8 u c) := by
  obtain ⟨a0, a1⟩ : 0 ≤ u ∧ u ≤ 255 := hu
  rw [u8_xor u c a0 (by omega) (by omega) (by omega)]
  have hx : u.toNat ^^^ c.toNat < 2 ^ 8 := Nat.xor_lt_two_pow (by omega) (by omega)
  exact ⟨by omega, by omega⟩
theorem byts_setM {xs : List Int} {q : Nat} {v : Int} (h : Byts xs) (hv : Byt v) : Byts (xs.set q v) := fun c hc => by
  rcases List.mem_or_eq_of_mem_set hc with h' | rfl
  · exact h c h'
  · exact hv

set_option maxRecDepth 100000 in
set_option maxHeartbeats 16000000 in
theorem messageTurned_walk {E : MsgD → Int → List Int} {D : List Int → Int → Option MsgD} (HC : Hid (MCodec E D)) (C : MContracts E D) (okD : ∀ x n m, Byts x → D x n = some m → MsgOk m) (a : Option Addr) (len cap : Nat) (w : World) (ha : MAsks w a len cap) :
    Calls Try.prog 5 #[.slice a len cap] w fun e w' => e = .returned (.bool true) ∧ Below w.heap.size w w' := by
  obtain ⟨hl, hm, hi⟩ := ha
  unfold maxLen at hm
  have HI := Lib.hid hi
  clear hi
  go_enter Try.func5, Try.ntmps5
  go_wp2_with fail
  go_loopw [3] (fun i wr => ∃ k : Nat, i = .int .i64 k ∧ k ≤ len ∧ k ≤ 8 ∧ Below w.heap.size w wr) (fun i _ => 8 - (intOf i).toNat)
  case atStart => exact ⟨0, rfl, by omega, by omega, Below.refl _ _⟩
  case round =>
    obtain ⟨k, rfl, hk, hkm, hb⟩ := hrel
    by_cases hlt : k < len
    · by_cases hmo : k < 8
      · have i0 : (0 : Int) ≤ (k : Int) := by omega
        have i1 : (k : Int) < (len : Int) := by omega
        have i2 : (k : Int) < 8 := by omega
        obtain ⟨b, off, ⟨m, ma, N, XA, cX, X⟩, nX, rfl, (hnX : X.length = nX), hA⟩ := (HI.out k hlt).all
        have HNX := Lib.hid hnX
        have HA := Lib.hid hA
        obtain ⟨gp, hgp⟩ : ∃ gp, gp = wr.heap.size := ⟨_, rfl⟩
        have HZB := Lib.hid (box_new wr (askC zeroM zeroA 0 none 0 0) 35)
        have HRG := Lib.hid (hA _ hb).2
        clear hnX hA
        go_upto_region 4 with fail
        go_wp2_with (first
          | (refine wpList_load_mid rfl 35 _ rfl b (off + k * 20) rfl (askC m ma N XA nX cX) _ HRG.out Try.underlying35 rfl size_mask ?_)
          | (refine wpList_store_box rfl 35 _ _ rfl wr.heap.size 0 (askC m ma N XA nX cX) (askC zeroM zeroA 0 none 0 0) (askC m ma N XA nX cX) rfl rfl HZB.out (by simp [askC]) rfl size_mask rfl ?_)
          | (refine wpList_run_to rfl 35 rfl (.pointer (some ⟨wr.heap.size, 0, none⟩)) (wr.alloc (.cells (askC zeroM zeroA 0 none 0 0).toArray 35)) (by unfold execOp askC zeroM zeroA; go_simp; done) ?_))
        intro ws bxs Ts
        have ts := Ts (fun k => k = wr.heap.size) rfl
        have hrs : Below wr.heap.size wr ws := ((Below.refl _ _).alloc (Nat.le_refl _) _).trans (ts.below (fun k hk => by rw [hk]; exact Nat.le_refl _) (by simp))
        have hb0 : Below w.heap.size w ws := hb.trans (hrs.mono hb.size)
        rw [← hgp] at bxs ⊢
        have HBP : Hid (∀ wX, Below ws.heap.size ws wX → Box wX gp (askC m ma N XA nX cX)) := fun wX h => bxs.below h bxs.1
        have HOK := Lib.hid (HA.out _ hb).1.ok
        have HN := Lib.hid (HA.out _ hb).1.wN
        have HIN : Hid (∀ wX, Below ws.heap.size ws wX → MsgIn wX m ma) := fun wX h => (HA.out _ (hb0.trans (h.mono hb0.size))).1.hi
        have HFW := Lib.hid (HA.out _ hb).1.few
        clear Ts ts hrs bxs hb hgp HRG HZB HA
        go_wp2_with (refine wpList_load_mid rfl 32 _ rfl gp 0 rfl (msgC m ma) _ (box_ask (HBP.out _ (Below.refl _ _))) Try.underlying32 rfl size_msg ?_)
        refine (mheavy_any m ma _ (HIN.out _ (Below.refl _ _)) HOK.out HFW.out).mono ?_
        rintro e w1 ⟨hv, rfl, hb1, hfew⟩
        have HFE := Lib.hid hfew
        clear hfew
        cases hv with
        | true =>
          go_wp2_with fail
          go_ret
          exact ⟨rfl, hb0.trans (hb1.mono hb0.size)⟩
        | false =>
          have HF1 := Lib.hid ((HFE.out rfl).more (show 2000 ≤ 1000000 by omega))
          clear HFE HFW
          have q18 := ((HBP.out _ hb1).2 18 _ rfl).1
          go_wp2_with (refine wpList_load_mid rfl 32 _ rfl gp 0 rfl (msgC m ma) _ (box_ask (HBP.out _ (hb1))) Try.underlying32 rfl size_msg ?_)
          cases hv : messB m N with
          | false =>
            have HV := Lib.hid hv
            clear hv
            refine (C.enc_no m ma N _ HV.out (HIN.out _ hb1) HOK.out HF1.out HN.out).mono ?_
            rintro e w2 ⟨rfl, hq2⟩
            have hb2 := hb1.trans (hq2.mono hb1.size)
            clear q18
            go_wp2_with fail
            refine (mnum_any _ _).mono ?_
            rintro e w' ⟨rfl, rfl⟩
            go_wp2_with fail
            go_roundw
            case rel => exact ⟨k + 1, by go_num, by omega, by omega, hb0.trans (hb2.mono hb0.size)⟩
            case measure => simp [intOf]; omega
          | true =>
            have HV := Lib.hid hv
            have hsmall := HC.out.small _ _ hv
            obtain ⟨nb, hnb⟩ : ∃ nb, (E m N).length = nb := ⟨_, rfl⟩
            rw [hnb] at hsmall
            have HNB := Lib.hid hnb
            have HBY := Lib.hid (HC.out.byts _ _ hv)
            clear hv hnb
            refine (C.enc_yes m ma N _ HV.out (HIN.out _ hb1) HOK.out HF1.out HN.out).mono ?_
            rintro e w2 ⟨v2, rfl, ho2, hq2⟩
            have hb2 := hb1.trans (hq2.mono hb1.size)
            have ho2b := own_cast ho2 ((u8s_length _).trans HNB.out)
            obtain ⟨A2, d2, rfl, hd2, hm2, hr2, _, hl2⟩ := own_val ho2b
            clear hl2 ho2 ho2b q18 hq2
            obtain ⟨bs, hbs⟩ : ∃ bs, bs = E m N := ⟨_, rfl⟩
            rw [← hbs] at hr2 HBY HNB
            clear hbs
            go_wp2_with fail
            refine (mnum_any _ _).mono ?_
            rintro e w' ⟨rfl, rfl⟩
            go_wp2_with fail
            go_loopw [7] (fun v wz => ∃ q : Nat, v = .int .i64 q ∧ q ≤ 2000000 ∧ Below ws.heap.size ws wz ∧ Rd wz A2 (u8s bs)) (fun v _ => 2000000 - (intOf v).toNat)
            case atStart => exact ⟨0, rfl, by omega, hb2, hr2⟩
            case round =>
              obtain ⟨q, rfl, hq5k, hbz, hrz⟩ := hrel
              clear hb2 hr2
              by_cases hqn : q < nb
              · have iq : (q : Int) < (nb : Int) := by omega
                have iq0 : (0 : Int) ≤ (q : Int) := by omega
                go_wp2_with fail
                refine (copyBytes_any A2 d2 nb _ _ HNB.out hrz hd2 (by omega)).mono ?_
                rintro e w3 ⟨v3, rfl, ho3, hq3⟩
                have ho3b := own_cast ho3 ((u8s_length _).trans HNB.out)
                obtain ⟨g, cy, rfl, hBg, hglt⟩ := ho3b.form (by omega)
                have hyc : nb ≤ cy ∧ cy ≤ maxLen := by obtain ⟨_, _, hv3, h1, h2, _⟩ := own_val ho3b; cases hv3; exact ⟨h1, h2⟩
                have hcq : w3.cell? ⟨g, q, none⟩ = some (.int .u8 (bs[q]?.getD 0)) := by rw [ho3b.cellAt q (by omega), u8s_at (by have := HNB.out; omega)]
                have hfq := ho3b.frozenAt q
                have HUB := Lib.hid (HBY.out.at_ q)
                obtain ⟨vv, hvv⟩ : ∃ vv, vv = bits .xor .u8 (bs[q]?.getD 0) (1 + ((k : Int) + (q : Int)) % 255) := ⟨_, rfl⟩
                obtain ⟨w4, hw4⟩ : ∃ w4, w4 = w3.setCell ⟨g, q, none⟩ (.int .u8 vv) := ⟨_, rfl⟩
                have hq4 : Below wr.heap.size wr w4 := by rw [hw4]; exact hq3.setCell hBg _
                have hb4 : Below ws.heap.size ws w4 := hbz.trans (hq4.mono hbz.size)
                have hr4 := hrz.below hq4
                obtain ⟨zs, hzs⟩ : ∃ zs, zs = bs.set q vv := ⟨_, rfl⟩
                have ht : Byt vv := by rw [hvv]; exact turn_byteM HUB.out (by omega) (by omega)
                have HZB : Hid (Byts zs) := by show Byts zs; rw [hzs]; exact byts_setM HBY.out ht
                have HZL : Hid (zs.length = nb) := by show zs.length = nb; rw [hzs, List.length_set, HNB.out]
                have ho4 : w4.ownsRow wr.heap.size 5 1 (.slice (some ⟨g, 0, none⟩) nb cy) nb (u8s zs) := by
                  rw [hw4, hzs, show u8s (bs.set q vv) = (u8s bs).set q (.int .u8 vv) from by simp [u8s, List.map_set]]
                  exact (ho3b.stored q (.int .u8 vv)).1
                obtain ⟨_, _, hv4, _, _, hry, _, _⟩ := own_val ho4
                cases hv4
                have HVV := Lib.hid hvv
                have HW4 := Lib.hid hw4
                clear hzs ht hq3 ho3 hrz hq4 hvv hw4
                have q18 := ((HBP.out _ hb4).2 18 _ rfl).1
                go_upto_region 14 with fail
                rw [← HVV.out, ← HW4.out]
                clear ho3b hcq hfq ho4 hglt
                go_wp2_with fail
                cases hp : D zs N with
                | none =>
                  have HP := Lib.hid hp
                  clear hp
                  refine (C.dec_no _ cy nb zs N _ HP.out HZL.out hry HZB.out hyc.1 hyc.2 hsmall HN.out).mono ?_
                  rintro e w5 ⟨rfl, hq5⟩
                  have hb5 := hb4.trans (hq5.mono hb4.size)
                  have hr5 := hr4.below hq5
                  clear hq5 hr4 hry q18
                  obtain ⟨g6, hg6⟩ : ∃ g6, g6 = w5.heap.size := ⟨_, rfl⟩
                  have HG6 : Hid (g6 = w5.heap.size) := hg6
                  have HZg6 := Lib.hid (box_new w5 (msgC zeroM zeroA) 32)
                  go_wp2_with (first
                    | (refine wpList_store_box rfl 32 _ _ rfl w5.heap.size 0 (msgC zeroM zeroA) (msgC zeroM zeroA) (msgC zeroM zeroA) rfl rfl HZg6.out (by simp [msgC]) rfl size_msg rfl ?_)
                    | (refine wpList_run_to rfl 32 rfl (.pointer (some ⟨w5.heap.size, 0, none⟩)) (w5.alloc (.cells (msgC zeroM zeroA).toArray 32)) (by unfold execOp msgC zeroM zeroA; go_simp; done) ?_))
                  intro w6 bxg6 Tg6
                  have tg6 := Tg6 (fun k => k = w5.heap.size) rfl
                  have hqw6 : Below w5.heap.size w5 w6 := ((Below.refl _ _).alloc (Nat.le_refl _) _).trans (tg6.below (fun k hk => by rw [hk]; exact Nat.le_refl _) (by simp))
                  have hw6 := hb5.trans (hqw6.mono hb5.size)
                  rw [← hg6] at bxg6 ⊢
                  have HBg6 : Hid (∀ wX, Below w6.heap.size w6 wX → Box wX g6 (msgC zeroM zeroA)) := fun wX h => bxg6.below h bxg6.1
                  clear Tg6 tg6 bxg6 hg6 HZg6
                  have hr6 := hr5.below hqw6
                  clear hr5
                  go_wp2_with fail
                  refine (mnum_any _ _).mono ?_
                  rintro e w' ⟨rfl, rfl⟩
                  go_wp2_with fail
                  refine (mnum_any _ _).mono ?_
                  rintro e w' ⟨rfl, rfl⟩
                  go_wp2_with (refine wpList_load_midG 32 _ rfl g6 0 rfl rfl (msgC zeroM zeroA) _ (box_range (HBg6.out _ (Below.refl _ _))) Try.underlying32 rfl size_msg ?_)
                  refine (reqMsg_is true zeroM zeroM zeroA zeroA _ (by simp) (msgIn_zero _) (msgIn_zero _) (few_zeroA _) (few_zeroA _)).mono ?_
                  rintro e w7 ⟨rfl, hq7⟩
                  have hb7 := hw6.trans (hq7.mono hw6.size)
                  have hr7 := hr6.below hq7
                  go_wp2_with fail
                  go_roundw
                  case rel => exact ⟨q + 1 + nb / 40, by go_num, by omega, hb7, hr7⟩
                  case measure => simp [intOf]; omega
                | some m2 =>
                  have HP := Lib.hid hp
                  obtain ⟨hv2, hzz⟩ := HC.out.get _ _ _ HZB.out hp
                  have HV2 := Lib.hid hv2
                  have HZZ := Lib.hid hzz
                  clear hp hv2 hzz
                  refine (C.dec_yes _ cy nb zs m2 N _ HP.out HZL.out hry HZB.out hyc.1 hyc.2 hsmall HN.out).mono ?_
                  rintro e w5 ⟨a5, rfl, hi5, hq5⟩
                  have hb5 := hb4.trans (hq5.mono hb4.size)
                  have hr5 := hr4.below hq5
                  have hry5 := hry.below hq5
                  have HF5 := Lib.hid (mess_few HV2.out hi5)
                  have HI5 : Hid (∀ wX, Below w5.heap.size w5 wX → MsgIn wX m2 a5) := fun wX h => hi5.below h
                  clear hq5 hr4 hry q18 hi5
                  obtain ⟨g6, hg6⟩ : ∃ g6, g6 = w5.heap.size := ⟨_, rfl⟩
                  have HG6 : Hid (g6 = w5.heap.size) := hg6
                  have HZg6 := Lib.hid (box_new w5 (msgC zeroM zeroA) 32)
                  go_wp2_with (first
                    | (refine wpList_store_box rfl 32 _ _ rfl w5.heap.size 0 (msgC m2 a5) (msgC zeroM zeroA) (msgC m2 a5) rfl rfl HZg6.out (by simp [msgC]) rfl size_msg rfl ?_)
                    | (refine wpList_run_to rfl 32 rfl (.pointer (some ⟨w5.heap.size, 0, none⟩)) (w5.alloc (.cells (msgC zeroM zeroA).toArray 32)) (by unfold execOp msgC zeroM zeroA; go_simp; done) ?_))
                  intro w6 bxg6 Tg6
                  have tg6 := Tg6 (fun k => k = w5.heap.size) rfl
                  have hqw6 : Below w5.heap.size w5 w6 := ((Below.refl _ _).alloc (Nat.le_refl _) _).trans (tg6.below (fun k hk => by rw [hk]; exact Nat.le_refl _) (by simp))
                  have hw6 := hb5.trans (hqw6.mono hb5.size)
                  rw [← hg6] at bxg6 ⊢
                  have HBg6 : Hid (∀ wX, Below w6.heap.size w6 wX → Box wX g6 (msgC m2 a5)) := fun wX h => bxg6.below h bxg6.1
                  clear Tg6 tg6 bxg6 hg6 HZg6
                  have hr6 := hr5.below hqw6
                  have hry6 := hry5.below hqw6
                  clear hr5 hry5
                  go_wp2_with fail
                  refine (mnum_any _ _).mono ?_
                  rintro e w' ⟨rfl, rfl⟩
                  have q18 := ((HBP.out _ hw6).2 18 _ rfl).1
                  go_wp2_with (refine wpList_load_mid rfl 32 _ rfl g6 0 rfl (msgC m2 a5) _ (box_range (HBg6.out _ (Below.refl _ _))) Try.underlying32 rfl size_msg ?_)
                  have HOK2 : Hid (MsgOk m2) := okD _ _ _ HZB.out HP.out
                  refine (C.enc_yes m2 a5 N _ HV2.out (HI5.out _ hqw6) HOK2.out HF5.out HN.out).mono ?_
                  rintro e w7 ⟨v7, rfl, ho7, hq7⟩
                  have hb7 := hw6.trans (hq7.mono hw6.size)
                  have hr7 := hr6.below hq7
                  have hry7 := hry6.below hq7
                  have hx7 : Below w5.heap.size w5 w7 := hqw6.trans (hq7.mono hqw6.size)
                  have ho7b := own_conv (ys := u8s zs) (n' := nb) ho7 (by rw [HZZ.out]) ((u8s_length _).trans (by rw [← HZZ.out]; exact HZL.out))
                  obtain ⟨A7, d7, rfl, hd7, hm7, hr7y, _, hl7⟩ := own_val ho7b
                  clear hl7 ho7 ho7b q18
                  go_wp2_with fail
                  refine (mnum_any _ _).mono ?_
                  rintro e w' ⟨rfl, rfl⟩
                  go_wp2_with fail
                  refine (eqBytes_is true A7 _ d7 cy nb nb zs zs _ (by simp) HZL.out HZL.out hr7y hry7 (by omega) (by omega)).mono ?_
                  rintro e w8 ⟨rfl, dd, hw8⟩
                  have hq8 : Below w7.heap.size w7 w8 := by rw [hw8]; exact below_n (Below.refl _ _) dd
                  have hb8 := hb7.trans (hq8.mono hb7.size)
                  have hx8 := hx7.trans (hq8.mono hx7.size)
                  have hr8 := hr7.below hq8
                  clear hw8
                  have q18 := ((HBP.out _ hb8).2 18 _ rfl).1
                  go_wp2_with (refine wpList_load_midG 32 _ rfl g6 0 rfl rfl (msgC m2 a5) _ (box_range (HBg6.out _ (hq7.trans (hq8.mono hq7.size)))) Try.underlying32 rfl size_msg ?_)
                  refine (rmsg_is true m2 a5 N _ HV2.out (HI5.out _ hx8) HF5.out).mono ?_
                  rintro e w9 ⟨rfl, hq9⟩
                  have hb9 := hb8.trans (hq9.mono hb8.size)
                  have hr9 := hr8.below hq9
                  go_wp2_with fail
                  go_roundw
                  case rel => exact ⟨q + 1 + nb / 40, by go_num, by omega, hb9, hr9⟩
                  case measure => simp [intOf]; omega
              · have iq : ¬ ((q : Int) < (nb : Int)) := by omega
                have hbz2 := hbz
                go_wp2_with fail
                go_roundw
                case rel => exact ⟨k + 1, by go_num, by omega, by omega, hb0.trans (hbz.mono hb0.size)⟩
                case measure => simp [intOf]; omega
      · have i2 : ¬ ((k : Int) < 8) := by omega
        have i1 : (k : Int) < (len : Int) := by omega
        go_wp2_with fail
        refine (mwakes_any HC.out C _).mono ?_
        rintro e w' ⟨rfl, hbw⟩
        go_wp2_with fail
        go_ret
        exact ⟨rfl, hb.trans (hbw.mono hb.size)⟩
    · have i1 : ¬ ((k : Int) < (len : Int)) := by omega
      go_wp2_with fail
      refine (mwakes_any HC.out C _).mono ?_
      rintro e w' ⟨rfl, hbw⟩
      go_wp2_with fail
      go_ret
      exact ⟨rfl, hb.trans (hbw.mono hb.size)⟩

end Go.Proofs.Ytafkcofocjellaa
