/-
  The walk of 'BatchBack', out of what it asks of package batch.
-/
import Derived.Test.YtkkamcdilpcehaaBWakes
namespace Go.Proofs.Ytkkamcdilpcehaa
open Go.RowKit

set_option maxRecDepth 100000 in
set_option maxHeartbeats 8000000 in
theorem batchBack_walk (K : BContracts) (a : Option Addr) (len cap : Nat) (w : World) (ha : BAsks w a len cap) :
    Calls Try.prog 6 #[.slice a len cap] w fun e w' => e = .returned (.bool true) ∧ Below w.heap.size w w' := by
  obtain ⟨hl, hm, hi⟩ := ha
  unfold maxLen at hm
  have HI := Lib.hid hi
  clear hi
  go_enter Try.func6, Try.ntmps6
  go_wp2_with fail
  go_loopw [3] (fun i wr => ∃ k : Nat, i = .int .i64 k ∧ k ≤ len ∧ k ≤ 8 ∧ Below w.heap.size w wr) (fun i _ => 8 - (intOf i).toNat)
  case atStart => exact ⟨0, rfl, by omega, by omega, Below.refl _ _⟩
  case round =>
    obtain ⟨k, rfl, hk, hkm, hb⟩ := hrel
    by_cases hlt : k < len
    · by_cases hmo : k < 8
      · have i0 : (0 : Int) ≤ (k : Int) := by omega
        have i1 : (k : Int) < (len : Int) := by omega
        have i2 : (k : Int) < 8 := by omega
        obtain ⟨b, off, ⟨ba, N, TA, cT, L, XA, cX, X⟩, nT, nX, rfl, (hnT : L.length = nT), (hnX : X.length = nX), hA⟩ := (HI.out k hlt).all
        have HA := Lib.hid hA
        have HNT := Lib.hid hnT
        have HNX := Lib.hid hnX
        clear hA hnT hnX
        have hTc : nT ≤ cT := by have := (HA.out _ hb).1.hT; have := HNT.out; simp only at *; omega
        have hTm : cT ≤ maxLen := (HA.out _ hb).1.mT
        have hXc : nX ≤ cX := by have := (HA.out _ hb).1.hX; have := HNX.out; simp only at *; omega
        have hXm : cX ≤ maxLen := (HA.out _ hb).1.mX
        obtain ⟨ok, c0, c1, c2, c3⟩ := HA.out _ hb
        try simp only at c0 c1 c2 c3
        go_wp2_with fail
        refine (bheavy_any ba N TA cT nT L XA cX nX _ HNT.out ok.rT ok.sT hTc hTm).mono ?_
        rintro e w1 ⟨hv, rfl, hq1, hlight⟩
        have HLI := Lib.hid hlight
        have hb1 := hb.trans (hq1.mono hb.size)
        clear hlight c0 c1 c2 c3 ok hq1 hb
        cases hv with
        | true =>
          go_wp2_with fail
          go_ret
          exact ⟨rfl, hb1⟩
        | false =>
          obtain ⟨hnT5, hnX5⟩ := HLI.out rfl
          have hnT9 : nT ≤ 5000 := by omega
          clear HLI
          obtain ⟨ok, c0, c1, c2, c3⟩ := HA.out _ hb1
          try simp only at c0 c1 c2 c3
          cases hv : batB ba N L with
          | false =>
            have HV := Lib.hid hv
            clear hv
            go_wp2_with fail
            refine (K.bytes_no ba N TA cT nT L _ HV.out HNT.out ok.rT hTc hTm).mono ?_
            rintro e w2 ⟨rfl, hq2⟩
            have hb2 := hb1.trans (hq2.mono hb1.size)
            clear hq2 hb1
            clear c0 c1 c2 c3 ok
            go_wp2_with fail
            refine (num_any _ _).mono ?_
            rintro e w' ⟨rfl, rfl⟩
            go_wp2_with fail
            go_roundw
            case rel => exact ⟨k + 1, by go_num, by omega, by omega, hb2⟩
            case measure => simp [intOf]; omega
          | true =>
            have HV := Lib.hid hv
            have hsmall := bytes_small hv
            have HBY := Lib.hid (batBytes_byts ba N L)
            obtain ⟨nb, hnb⟩ : ∃ nb, (batBytes ba N L).length = nb := ⟨_, rfl⟩
            rw [hnb] at hsmall
            have HNB := Lib.hid hnb
            have HPA := Lib.hid (parse_put hv)
            have HPM := Lib.hid (parse_more hv (r := [0]) (by simp))
            have hl8 : nT ≤ 8 := by have := (bat_all hv).2.2.1; have := HNT.out; omega
            clear hv hnb
            go_wp2_with fail
            refine (K.bytes_yes ba N TA cT nT L _ HV.out HNT.out ok.rT hTc hTm).mono ?_
            rintro e w2 ⟨v2, rfl, ho2, hq2⟩
            have hb2 := hb1.trans (hq2.mono hb1.size)
            have ho2b := own_cast ho2 ((u8s_length _).trans HNB.out)
            obtain ⟨A2, d2, rfl, hd2, hm2, hr2, _, hl2⟩ := own_val ho2b
            have hm2b := hm2
            unfold maxLen at hm2b
            clear hl2 ho2 ho2b hq2 hb1
            clear c0 c1 c2 c3 ok
            go_wp2_with fail
            refine (num_any _ _).mono ?_
            rintro e w' ⟨rfl, rfl⟩
            go_wp2_with fail
            refine (K.parse_yes A2 d2 nb _ ba N L _ HPA.out HNB.out hr2 HBY.out hd2 hm2 (by omega)).mono ?_
            rintro e w3 ⟨A3, dd3, rfl, ho3, hq3⟩
            have hb3 := hb2.trans (hq3.mono hb2.size)
            have hr3 := hr2.below hq3
            clear hq3 hb2 hr2
            rw [HNT.out] at ho3 ⊢
            obtain ⟨wb, hwb⟩ : ∃ wb, wb = w3.alloc (.cells #[.int .i64 ba, .int .i64 N, .slice A3 nT dd3] 26) := ⟨_, rfl⟩
            have HPB := Lib.hid (box_three hwb)
            have hbb : Below w.heap.size w wb := by rw [hwb]; exact hb3.alloc hb3.size _
            have hrb : Rd wb A2 (u8s (batBytes ba N L)) := by rw [hwb]; exact hr3.alloc _
            have hob := ho3.alloc (.cells #[.int .i64 ba, .int .i64 N, .slice A3 nT dd3] 26)
            rw [← hwb] at hob
            go_wp2_with fail
            rw [← hwb]
            clear hwb hr3 hb3 ho3
            refine (copyBytes_any A2 d2 nb _ _ HNB.out hrb hd2 (by omega)).mono ?_
            rintro e w4 ⟨v4, rfl, ho4, hq4⟩
            have hb4 := hbb.trans (hq4.mono hbb.size)
            have ho4b := own_cast ho4 ((u8s_length _).trans HNB.out)
            clear ho4
            go_wp2_with (at_builtin; refine wpList_app_one _ rfl _ _ 27 rfl wb.heap.size 5 (.int .u8 0) 1 Try.underlying27 info_u8 rfl (by decide) _ nb _ rfl (ho4b.alloc _) w4.heap.size (.int .u8 0) rfl (cell_new _ _ _) rfl (by omega) (by have := hq4.size; simp; omega) ?_)
            intro v5 w5 ho5 hq5
            have hx5 : Below wb.heap.size wb w5 := (hq4.alloc hq4.size _).trans hq5
            have hb5 : Below w.heap.size w w5 := hbb.trans (hx5.mono hbb.size)
            have ho5b := own_conv (ys := u8s (batBytes ba N L ++ [0])) (n' := nb + 1) ho5 (by rw [u8s_append]; rfl) rfl
            obtain ⟨A5, d5, rfl, hd5, hm5, hr5, _, hl5⟩ := own_val ho5b
            have HL5 : Hid ((batBytes ba N L ++ [0]).length = nb + 1) := by show (batBytes ba N L ++ [0]).length = nb + 1; rw [List.length_append, HNB.out]; rfl
            have HBZ : Hid (Byts (batBytes ba N L ++ [0])) := HBY.out.append (Byts.cons ⟨by decide, by decide⟩ Byts.nil)
            have hrx5 := hrb.below hx5
            have hob5 := ownS_below hob hx5
            clear hl5 ho5 ho5b ho4b hrb hob hq4 hq5 hb4 hbb
            go_wp2_with fail
            refine (K.parse_no A5 d5 (nb + 1) _ _ HPM.out HL5.out hr5 HBZ.out hd5 hm5 (by omega)).mono ?_
            rintro e w6 ⟨rfl, hq6⟩
            have hb6 := hb5.trans (hq6.mono hb5.size)
            have hx6 := hx5.trans (hq6.mono hx5.size)
            have hrx6 := hrx5.below hq6
            have hob6 := ownS_below hob5 hq6
            clear hq6 hb5 hx5 hrx5 hob5 hr5
            obtain ⟨wc, hwc⟩ : ∃ wc, wc = w6.alloc (.cells #[.int .i64 0, .int .i64 0, .slice none 0 0] 26) := ⟨_, rfl⟩
            have hbc : Below w.heap.size w wc := by rw [hwc]; exact hb6.alloc hb6.size _
            have hxc : Below wb.heap.size wb wc := by rw [hwc]; exact hx6.alloc hx6.size _
            have hrc : Rd wc A2 (u8s (batBytes ba N L)) := by rw [hwc]; exact hrx6.alloc _
            have hoc := hob6.alloc (.cells #[.int .i64 0, .int .i64 0, .slice none 0 0] 26)
            rw [← hwc] at hoc
            go_wp2_with fail
            rw [← hwc]
            clear hwc hrx6 hob6 hb6 hx6
            obtain ⟨_, _, hv3, _, _, hrd3, _, _⟩ := ownS_slice hoc
            cases hv3
            obtain ⟨ok, c0, c1, c2, c3⟩ := HA.out _ hbc
            try simp only at c0 c1 c2 c3
            obtain ⟨q0, q1, q2⟩ := HPB.out _ hxc
            have HRT := Lib.hid ok.rT
            have HR3 := Lib.hid hrd3
            clear hrd3 ok c3
            go_region_held3 (fun w' => w'.cell? ⟨b, off + k * 4, none⟩ = some (.int .i64 ba) ∧ w'.cell? ⟨b, off + k * 4 + 1, none⟩ = some (.int .i64 N) ∧ w'.cell? ⟨b, off + k * 4 + 2, none⟩ = some (.slice TA nT cT) ∧ w'.cell? ⟨w3.heap.size, 0, none⟩ = some (.int .i64 ba) ∧ w'.cell? ⟨w3.heap.size, 1, none⟩ = some (.int .i64 N) ∧ w'.cell? ⟨w3.heap.size, 2, none⟩ = some (.slice A3 nT dd3))
              (first | assumption | go_keep)
              (first
                | (go_at_call 10; refine (num_any _ _).mono ?_; rintro e w' ⟨rfl, rfl⟩)
                | (go_at_call 16; refine (eqBatch_same ba N A3 TA dd3 cT nT L _ HNT.out (by first | exact HR3.out | exact HR3.out.drew) (by first | exact HRT.out | exact HRT.out.drew) (by omega)).mono ?_; rintro e w7 ⟨rfl, hq7⟩; have hb7 : Below w.heap.size w w7 := (by first | exact hbc.trans (hq7.mono hbc.size) | exact hbc.drew.trans (hq7.mono hbc.size)); have hx7 : Below wb.heap.size wb w7 := (by first | exact hxc.trans (hq7.mono hxc.size) | exact hxc.drew.trans (hq7.mono hxc.size)); have hrx7 : Rd w7 A2 (u8s (batBytes ba N L)) := (by first | exact hrc.below hq7 | exact hrc.drew.below hq7); have hS7 := And.intro (HA.out _ hb7).2.1 (And.intro (HA.out _ hb7).2.2.1 (And.intro (HA.out _ hb7).2.2.2.1 (HPB.out _ hx7)))))
            clear hS7 hx7 hq7 q0 q1 q2 c0 c1 c2 hbc hxc hrc hoc HR3 HRT
            have HPS : Hid (∀ q, q < nb → parseB ((batBytes ba N L).take q) = none) := fun q hq => parse_short HV.out (by rw [HNB.out]; exact hq)
            go_wp2_with fail
            go_loopw [10] (fun v wz => ∃ q : Nat, v = .int .i64 q ∧ q ≤ 5000 ∧ Below w.heap.size w wz ∧ Rd wz A2 (u8s (batBytes ba N L))) (fun v _ => 5000 - (intOf v).toNat)
            case atStart => exact ⟨0, rfl, by omega, hb7, hrx7⟩
            case round =>
              obtain ⟨q, rfl, hq5k, hbz, hrz⟩ := hrel
              clear hb7 hrx7
              by_cases hqn : q < nb
              · have iq : (q : Int) < (nb : Int) := by omega
                have iq0 : (0 : Int) ≤ (q : Int) := by omega
                have iqd : (q : Int) ≤ (d2 : Int) := by omega
                have inb : (0 : Int) ≤ (nb : Int) := by omega
                have HT1 : Hid (((batBytes ba N L).take q).length = q) := by show ((batBytes ba N L).take q).length = q; rw [List.length_take, HNB.out]; omega
                have HBT : Hid (Byts ((batBytes ba N L).take q)) := HBY.out.take q
                have hrt : Rd wr A2 (u8s ((batBytes ba N L).take q)) := rd_take hrz q
                go_wp2_with fail
                refine (K.parse_no A2 d2 q _ _ (HPS.out q hqn) HT1.out hrt HBT.out (by omega) hm2 (by omega)).mono ?_
                rintro e w8 ⟨rfl, hq8⟩
                have hb8 := (hbz.trans (hq8.mono hbz.size))
                have hr8 := hrz.below hq8
                clear hq8 hrt hrz hbz
                go_wp2_with fail
                refine (num_any _ _).mono ?_
                rintro e w' ⟨rfl, rfl⟩
                go_wp2_with fail
                go_roundw
                case rel => exact ⟨q + 1 + nb / 20, by go_num, by omega, hb8.alloc hb8.size _, hr8.alloc _⟩
                case measure => simp [intOf]; omega
              · have iq : ¬ ((q : Int) < (nb : Int)) := by omega
                go_wp2_with fail
                go_loopw [13] (fun v wz => ∃ q : Nat, v = .int .i64 q ∧ q ≤ k ∧ Below w.heap.size w wz ∧ Rd wz A2 (u8s (batBytes ba N L))) (fun v _ => 8 - (intOf v).toNat)
                case atStart => exact ⟨0, rfl, by omega, hbz, hrz⟩
                case round =>
                  obtain ⟨p, rfl, hpk, hbp, hrp⟩ := hrel
                  clear hbz hrz
                  by_cases hpn : p < k
                  · have ip : (p : Int) < (k : Int) := by omega
                    have ip0 : (0 : Int) ≤ (p : Int) := by omega
                    have ipl : (p : Int) < (len : Int) := by omega
                    obtain ⟨b2, off2, ⟨ba2, N2, TA2, cT2, L2, XA2, cX2, X2⟩, nT2, nX2, hbo, (hnT2 : L2.length = nT2), _, hA2⟩ := (HI.out p (by omega)).all
                    cases hbo
                    have HA2 := Lib.hid hA2
                    have HNT2 := Lib.hid hnT2
                    clear hA2 hnT2
                    have hTc2 : nT2 ≤ cT2 := by have := (HA2.out _ hbp).1.hT; have := HNT2.out; simp only at *; omega
                    have hTm2 : cT2 ≤ maxLen := (HA2.out _ hbp).1.mT
                    obtain ⟨ok, e0, e1, e2, _⟩ := HA2.out _ hbp
                    try simp only at e0 e1 e2
                    cases hv2 : batB ba2 N2 L2 with
                    | false =>
                      have HV2 := Lib.hid hv2
                      clear hv2
                      go_wp2_with fail
                      refine (K.bytes_no ba2 N2 TA2 cT2 nT2 L2 _ HV2.out HNT2.out ok.rT hTc2 hTm2).mono ?_
                      rintro e w9 ⟨rfl, hq9⟩
                      have hb9 := hbp.trans (hq9.mono hbp.size)
                      have hr9 := hrp.below hq9
                      clear hq9 hbp hrp e0 e1 e2 ok
                      go_wp2_with fail
                      go_quiet ((go_at_call 10; exact quiet_left (num_any _ _)))
                      go_wp2_with fail
                      go_roundw
                      case rel => exact ⟨p + 1, by go_num, by omega, below_n hb9 _, hr9.drewN _⟩
                      case measure => simp [intOf]; omega
                    | true =>
                      have HV2 := Lib.hid hv2
                      obtain ⟨nb2, hnb2⟩ : ∃ nb2, (batBytes ba2 N2 L2).length = nb2 := ⟨_, rfl⟩
                      have hsmall2 := bytes_small hv2
                      rw [hnb2] at hsmall2
                      have HNB2 := Lib.hid hnb2
                      have hl82 : nT2 ≤ 8 := by have := (bat_all hv2).2.2.1; have := HNT2.out; omega
                      obtain ⟨bb, hbb⟩ : ∃ bb, eqBat ba N L ba2 N2 L2 = bb := ⟨_, rfl⟩
                      have HEB := Lib.hid hbb
                      have HEX : Hid (decide (batBytes ba N L = batBytes ba2 N2 L2) = bb) := (eq_bytes HV.out HV2.out).trans hbb
                      clear hv2 hnb2 hbb
                      go_wp2_with fail
                      refine (K.bytes_yes ba2 N2 TA2 cT2 nT2 L2 _ HV2.out HNT2.out ok.rT hTc2 hTm2).mono ?_
                      rintro e w9 ⟨v9, rfl, ho9, hq9⟩
                      have hb9 := hbp.trans (hq9.mono hbp.size)
                      have hr9 := hrp.below hq9
                      have ho9b := own_cast ho9 ((u8s_length _).trans HNB2.out)
                      obtain ⟨A9, d9, rfl, _, _, hr9b, _, hl9⟩ := own_val ho9b
                      clear hl9 ho9 ho9b hq9 hbp hrp e0 e1 e2 ok
                      obtain ⟨ok, c0, c1, c2, c3⟩ := HA.out _ hb9
                      try simp only at c0 c1 c2 c3
                      obtain ⟨ok2, e0, e1, e2, e3⟩ := HA2.out _ hb9
                      try simp only at e0 e1 e2 e3
                      have HRT := Lib.hid ok.rT
                      have HRT2 := Lib.hid ok2.rT
                      have HR9 := Lib.hid hr9
                      have HR9b := Lib.hid hr9b
                      clear ok ok2 c3 e3 hr9b
                      go_wp2_with fail
                      go_region_held3 (fun w' => w'.cell? ⟨b, off + k * 4, none⟩ = some (.int .i64 ba) ∧ w'.cell? ⟨b, off + k * 4 + 1, none⟩ = some (.int .i64 N) ∧ w'.cell? ⟨b, off + k * 4 + 2, none⟩ = some (.slice TA nT cT) ∧ w'.cell? ⟨b, off + p * 4, none⟩ = some (.int .i64 ba2) ∧ w'.cell? ⟨b, off + p * 4 + 1, none⟩ = some (.int .i64 N2) ∧ w'.cell? ⟨b, off + p * 4 + 2, none⟩ = some (.slice TA2 nT2 cT2))
                        (first | assumption | go_keep)
                        (first
                          | (go_at_call 10; refine (num_any _ _).mono ?_; rintro e w' ⟨rfl, rfl⟩)
                          | (go_at_call 19; refine (eqBytes_is bb A2 A9 d2 d9 nb nb2 _ _ _ HEX.out HNB.out HNB2.out (by first | exact HR9.out | exact HR9.out.drew) (by first | exact HR9b.out | exact HR9b.out.drew) (by omega) (by omega)).mono ?_; rintro e w' ⟨rfl, dx, rfl⟩)
                          | (go_at_call 16; refine (eqBatch_is bb ba N ba2 N2 TA TA2 cT cT2 nT nT2 L L2 _ HEB.out HNT.out HNT2.out (by first | exact HRT.out | exact HRT.out.drew | exact HRT.out.drewN _) (by first | exact HRT2.out | exact HRT2.out.drew | exact HRT2.out.drewN _) (by omega) (by omega)).mono ?_; rintro e w10 ⟨rfl, hq10⟩; have hb10 : Below w.heap.size w w10 := (by first | exact hb9.trans (hq10.mono hb9.size) | exact hb9.drew.trans (hq10.mono hb9.size) | exact (below_n hb9 _).trans (hq10.mono hb9.size)); have hr10 : Rd w10 A2 (u8s (batBytes ba N L)) := (by first | exact HR9.out.below hq10 | exact HR9.out.drew.below hq10 | exact (HR9.out.drewN _).below hq10); have hS10 := And.intro (HA.out _ hb10).2.1 (And.intro (HA.out _ hb10).2.2.1 (And.intro (HA.out _ hb10).2.2.2.1 (And.intro (HA2.out _ hb10).2.1 (And.intro (HA2.out _ hb10).2.2.1 (HA2.out _ hb10).2.2.2.1))))))
                      cases bb
                      all_goals
                        go_wp2_with fail
                        go_roundw
                        case rel => exact ⟨p + 1, by go_num, by omega, hb10, hr10⟩
                        case measure => simp [intOf]; omega
                  · have ip : ¬ ((p : Int) < (k : Int)) := by omega
                    go_wp2_with fail
                    go_roundw
                    case rel => exact ⟨k + 1, by go_num, by omega, by omega, hbp⟩
                    case measure => simp [intOf]; omega
      · have i1 : (k : Int) < (len : Int) := by omega
        have i2 : ¬ ((k : Int) < 8) := by omega
        go_wp2_with fail
        refine (wakes_any K _).mono ?_
        rintro e w' ⟨rfl, hbw⟩
        go_wp2_with fail
        go_ret
        exact ⟨rfl, hb.trans (hbw.mono hb.size)⟩
    · have i1 : ¬ ((k : Int) < (len : Int)) := by omega
      go_wp2_with fail
      refine (wakes_any K _).mono ?_
      rintro e w' ⟨rfl, hbw⟩
      go_wp2_with fail
      go_ret
      exact ⟨rfl, hb.trans (hbw.mono hb.size)⟩

end Go.Proofs.Ytkkamcdilpcehaa
