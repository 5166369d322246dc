/-
  The walk of 'HeaderBack', out of what it asks of package header.
-/
import Derived.Test.YtkgbnohmhjljoaaHCopy
import Derived.Test.YtkgbnohmhjljoaaHPage
import Derived.Test.YtkgbnohmhjljoaaHAsk
import Derived.Test.YtkgbnohmhjljoaaHParse
import Derived.Test.YtkgbnohmhjljoaaCalm
import Derived.Test.YtkgbnohmhjljoaaMemStep
namespace Go.Proofs.Ytkgbnohmhjljoaa
open Go.RowKit

theorem rd_takeH {w : World} {A : Option Addr} {l : List Int} (h : Rd w A (u8s l)) (q : Nat) : Rd w A (u8s (l.take q)) := fun hx => by
  have hl : u8s l ≠ [] := fun e => hx (by have : l = [] := by simpa [u8s] using e
                                          simp [this, u8s])
  obtain ⟨b, off, e, hlt, hc⟩ := h hl
  refine ⟨b, off, e, hlt, fun i v hv => hc i v ?_⟩
  rw [show u8s (l.take q) = (u8s l).take q from by simp [u8s, List.map_take]] at hv
  rw [List.getElem?_take] at hv
  split at hv
  · exact hv
  · cases hv

set_option maxRecDepth 100000 in
set_option maxHeartbeats 40000000 in
theorem headerBack_walk (K : HContracts) (a : Option Addr) (len cap : Nat) (w : World) (ha : HAsks w a len cap) :
    Calls Try.prog 6 #[.slice a len cap] w fun e w' => e = .returned (.bool true) ∧ Below w.heap.size w w' := by
  obtain ⟨hl, hm, hi⟩ := ha
  unfold maxLen at hm
  have HI := Lib.hid hi
  clear hi
  go_enter Try.func6, Try.ntmps6
  go_wp2_with fail
  go_loopw [3] (fun i wr => ∃ k : Nat, i = .int .i64 k ∧ k ≤ len ∧ k ≤ 8 ∧ Below w.heap.size w wr ∧ (∀ p, p < k → HLight w a p)) (fun i _ => 8 - (intOf i).toNat)
  case atStart => exact ⟨0, rfl, by omega, by omega, Below.refl _ _, fun p hp => absurd hp (by omega)⟩
  case round =>
    obtain ⟨k, rfl, hk, hkm, hb, hlk⟩ := hrel
    by_cases hlt : k < len
    · by_cases hmo : k < 8
      · have i0 : (0 : Int) ≤ (k : Int) := by omega
        have i1 : (k : Int) < (len : Int) := by omega
        have i2 : (k : Int) < 8 := by omega
        obtain ⟨b, off, ⟨ba, br, BA, cB, B, PA, cP, P, bd, SA, cS, S, N, XA, cX, X⟩, nB, nP, nS, nX, rfl, (hnB : B.length = nB), (hnP : P.length = nP), (hnS : S.length = nS), (hnX : X.length = nX), hA⟩ := (HI.out k hlt).all
        have HNB := Lib.hid hnB
        have HNP := Lib.hid hnP
        have HNS := Lib.hid hnS
        have HNX := Lib.hid hnX
        clear hnB hnP hnS hnX
        have hXc : nX ≤ cX := by have := (hA _ hb).1.hX; have := HNX.out; simp only at *; omega
        have hXm : cX ≤ maxLen := (hA _ hb).1.mX
        have hBc : nB ≤ cB := by have := (hA _ hb).1.nB.hc; have := HNB.out; simp only at *; omega
        have hPc : nP ≤ cP := by have := (hA _ hb).1.nP.hc; have := HNP.out; simp only at *; omega
        have hSc : nS ≤ cS := by have := (hA _ hb).1.nS.hc; have := HNS.out; simp only at *; omega
        have hBz : nB ≤ 140737488351232 := by have := (hA _ hb).1.zB; have := HNB.out; simp only at *; omega
        have hPz : nP ≤ 140737488351232 := by have := (hA _ hb).1.zP; have := HNP.out; simp only at *; omega
        have hSz : nS ≤ 140737488351232 := by have := (hA _ hb).1.zS; have := HNS.out; simp only at *; omega
        obtain ⟨ws, hws⟩ : ∃ ws, ws = wr := ⟨_, rfl⟩
        subst hws
        have hb0 := hb
        have HA := Lib.hid (fun wX (h : Below ws.heap.size ws wX) => hA wX (hb0.trans (h.mono hb0.size)))
        obtain ⟨ok, c0, c1, c2, c3, c4, c5, c6, c7⟩ := hA _ hb
        try simp only at c0 c1 c2 c3 c4 c5 c6 c7
        go_wp2_with fail
        clear c0 c1 c2 c3 c4 c5 c6 c7 ok hb
        have HAW := Lib.hid (hA w (Below.refl _ _))
        clear hA
        have HRB : Hid (∀ wX, Below ws.heap.size ws wX → Rd wX BA (i64s B)) := fun wX h => (HA.out _ h).1.nB.hr
        have HRP : Hid (∀ wX, Below ws.heap.size ws wX → Rd wX PA (i64s P)) := fun wX h => (HA.out _ h).1.nP.hr
        have HRS : Hid (∀ wX, Below ws.heap.size ws wX → Rd wX SA (i64s S)) := fun wX h => (HA.out _ h).1.nS.hr
        have HHI : Hid (nB ≤ 499 → nP ≤ 499 → ∀ wX, Below ws.heap.size ws wX → HdrIn wX BA cB nB B PA cP nP P) := fun h1 h2 wX h => by
          have ok := (HA.out _ h).1
          have e1 := HNB.out
          have e2 := HNP.out
          subst e1 e2
          exact ⟨ok.nB, ok.nP, by omega, by omega⟩
        refine (hheavy_any ba br BA cB nB PA cP nP bd SA cS nS N XA cX nX _ hBz hPz hSz).mono ?_
        rintro e w1 ⟨hv, rfl, hb1, hlight⟩
        have HLI := Lib.hid hlight
        clear hlight
        cases hv with
        | true =>
          go_wp2_with fail
          go_ret
          exact ⟨rfl, hb0.trans (hb1.mono hb0.size)⟩
        | false =>
          obtain ⟨hn3, hnX5⟩ := HLI.out rfl
          have HIN := Lib.hid (HHI.out (by omega) (by omega))
          have hnB9 : nB ≤ 499 := by omega
          have hnP9 : nP ≤ 499 := by omega
          have hnS9 : nS ≤ 499 := by omega
          clear HLI HHI hn3 hBz hPz hSz
          have hlk2 := hlight_next hlk (HAW.out.2.2.2.1) (HAW.out.2.2.2.2.1) hnB9 hnP9
          obtain ⟨ok, c0, c1, c2, c3, c4, c5, c6, c7⟩ := HA.out _ hb1
          try simp only at c0 c1 c2 c3 c4 c5 c6 c7
          cases hv : wideB ba br B P with
          | false =>
            have HV := Lib.hid hv
            clear hv
            go_wp2_with fail
            refine (K.bytes_no ba br BA cB nB B PA cP nP P _ HV.out (HIN.out _ hb1)).mono ?_
            rintro e w2 ⟨rfl, hq2⟩
            have hb2 := hb1.trans (hq2.mono hb1.size)
            clear hq2 hb1
            clear c0 c1 c2 c3 c4 c5 c6 c7 ok
            go_wp2_with fail
            refine (hnum_any _ _).mono ?_
            rintro e w' ⟨rfl, rfl⟩
            go_wp2_with fail
            go_roundw
            case rel => exact ⟨k + 1, by go_num, by omega, by omega, hb0.trans ((hb2).mono hb0.size), hlk2⟩
            case measure => simp [intOf]; omega
          | true =>
            have HV := Lib.hid hv
            have hsmall := head_small hv
            obtain ⟨nh, hnh⟩ : ∃ nh, (headBytes ba br B P).length = nh := ⟨_, rfl⟩
            rw [hnh] at hsmall
            have HNH := Lib.hid hnh
            have HBY := Lib.hid (headBytes_byts ba br B P)
            have HPA := Lib.hid (parseH_put hv)
            have HPM := Lib.hid (parseH_more hv (t := [0]) (by simp))
            obtain ⟨hnB8, hnP16⟩ : nB ≤ 8 ∧ nP ≤ 16 := by have h := (wide_i64 hv).2.2; have e1 := HNB.out; have e2 := HNP.out; omega
            clear hv hnh
            go_wp2_with fail
            refine (K.bytes_yes ba br BA cB nB B PA cP nP P _ HV.out (HIN.out _ hb1)).mono ?_
            rintro e w2 ⟨v2, rfl, ho2, hq2⟩
            have hb2 := hb1.trans (hq2.mono hb1.size)
            have ho2b := own_cast ho2 ((u8s_length _).trans HNH.out)
            obtain ⟨A2, d2, rfl, hd2, hm2, hr2, _, hl2⟩ := own_val ho2b
            clear hl2 ho2 ho2b
            have hm2b := hm2
            unfold maxLen at hm2b
            clear hq2 hb1
            clear c0 c1 c2 c3 c4 c5 c6 c7 ok
            go_wp2_with fail
            refine (hnum_any _ _).mono ?_
            rintro e w' ⟨rfl, rfl⟩
            go_wp2_with fail
            refine (K.parse_yes A2 d2 nh _ ba br B P _ HPA.out HNH.out hr2 HBY.out hd2 hm2 (by omega)).mono ?_
            rintro e w3 ⟨B3, e3, P3, f3, rfl, hoB3, hoP3, hdis, hq3⟩
            have hb3 := hb2.trans (hq3.mono hb2.size)
            have hr3 := hr2.below hq3
            clear hq3 hb2 hr2 hdis
            rw [HNB.out] at hoB3 ⊢
            rw [HNP.out] at hoP3 ⊢
            obtain ⟨wb, hwb⟩ : ∃ wx, wx = w3.alloc (.cells #[.int .i64 ba, .int .i64 br, .slice B3 nB e3, .slice P3 nP f3] 25) := ⟨_, rfl⟩
            have HPB := Lib.hid (hbox_new hwb)
            have hbb : Below ws.heap.size ws wb := by rw [hwb]; exact hb3.alloc hb3.size _
            have hrb : Rd wb A2 (u8s (headBytes ba br B P)) := by rw [hwb]; exact hr3.alloc _
            have hoBb := hoB3.alloc (.cells #[.int .i64 ba, .int .i64 br, .slice B3 nB e3, .slice P3 nP f3] 25)
            have hoPb := hoP3.alloc (.cells #[.int .i64 ba, .int .i64 br, .slice B3 nB e3, .slice P3 nP f3] 25)
            rw [← hwb] at hoBb hoPb
            obtain ⟨_, _, hvB, _, _, hrB, _, _⟩ := own_val hoBb
            cases hvB
            obtain ⟨_, _, hvP, _, _, hrP, _, _⟩ := own_val hoPb
            cases hvP
            go_wp2_with fail
            rw [← hwb]
            clear hwb hr3 hb3 hoB3 hoP3 hoBb hoPb
            refine (copyBytes_any A2 d2 nh _ _ HNH.out hrb hd2 (by omega)).mono ?_
            rintro e w4 ⟨v4, rfl, ho4, hq4⟩
            have hb4 := hbb.trans (hq4.mono hbb.size)
            have ho4b := own_cast ho4 ((u8s_length _).trans HNH.out)
            clear ho4
            go_wp2_with (at_builtin; refine wpList_app_one _ rfl _ _ 28 rfl wb.heap.size 5 (.int .u8 0) 1 Try.underlying28 info_u8 rfl (by decide) _ nh _ rfl (ho4b.alloc _) w4.heap.size (.int .u8 0) rfl (cell_new _ _ _) rfl (by omega) (by have := hq4.size; simp; omega) ?_)
            intro v5 w5 ho5 hq5
            have hx5 : Below wb.heap.size wb w5 := (hq4.alloc hq4.size _).trans hq5
            have hb5 : Below ws.heap.size ws w5 := hbb.trans (hx5.mono hbb.size)
            have ho5b := own_conv (ys := u8s (headBytes ba br B P ++ [0])) (n' := nh + 1) ho5 (by rw [u8s_append]; rfl) rfl
            obtain ⟨A5, d5, rfl, hd5, hm5, hr5, _, hl5⟩ := own_val ho5b
            have HL5 : Hid ((headBytes ba br B P ++ [0]).length = nh + 1) := by show (headBytes ba br B P ++ [0]).length = nh + 1; rw [List.length_append, HNH.out]; rfl
            have HBZ : Hid (Byts (headBytes ba br B P ++ [0])) := HBY.out.append (Byts.cons ⟨by decide, by decide⟩ Byts.nil)
            have hrx5 := hrb.below hx5
            clear hl5 ho5 ho5b ho4b hq4 hq5 hb4
            go_wp2_with fail
            refine (K.parse_no A5 d5 (nh + 1) _ _ HPM.out HL5.out hr5 HBZ.out hd5 hm5 (by omega)).mono ?_
            rintro e w6 ⟨rfl, hq6⟩
            have hb6 := hb5.trans (hq6.mono hb5.size)
            have hx6 := hx5.trans (hq6.mono hx5.size)
            clear hq6 hb5 hx5 hrx5 hr5
            obtain ⟨wc, hwc⟩ : ∃ wc, wc = w6.alloc (.cells #[.int .i64 0, .int .i64 0, .slice none 0 0, .slice none 0 0] 25) := ⟨_, rfl⟩
            have hbc : Below ws.heap.size ws wc := by rw [hwc]; exact hb6.alloc hb6.size _
            have hxc : Below wb.heap.size wb wc := by rw [hwc]; exact hx6.alloc hx6.size _
            go_wp2_with fail
            rw [← hwc]
            clear hwc hb6 hx6
            have c0 : ∀ x : Calm wc, x.val.cell? ⟨b, off + k * 8, none⟩ = some (.int .i64 ba) := fun x => (HA.out _ (hbc.trans (x.ok.mono hbc.size))).2.1
            have c1 : ∀ x : Calm wc, x.val.cell? ⟨b, off + k * 8 + 1, none⟩ = some (.int .i64 br) := fun x => (HA.out _ (hbc.trans (x.ok.mono hbc.size))).2.2.1
            have c2 : ∀ x : Calm wc, x.val.cell? ⟨b, off + k * 8 + 2, none⟩ = some (.slice BA nB cB) := fun x => (HA.out _ (hbc.trans (x.ok.mono hbc.size))).2.2.2.1
            have c3 : ∀ x : Calm wc, x.val.cell? ⟨b, off + k * 8 + 3, none⟩ = some (.slice PA nP cP) := fun x => (HA.out _ (hbc.trans (x.ok.mono hbc.size))).2.2.2.2.1
            have q0 : ∀ x : Calm wc, x.val.cell? ⟨w3.heap.size, 0, none⟩ = some (.int .i64 ba) := fun x => (HPB.out _ (hxc.trans (x.ok.mono hxc.size))).1
            have q1 : ∀ x : Calm wc, x.val.cell? ⟨w3.heap.size, 1, none⟩ = some (.int .i64 br) := fun x => (HPB.out _ (hxc.trans (x.ok.mono hxc.size))).2.1
            have q2 : ∀ x : Calm wc, x.val.cell? ⟨w3.heap.size, 2, none⟩ = some (.slice B3 nB e3) := fun x => (HPB.out _ (hxc.trans (x.ok.mono hxc.size))).2.2.1
            have q3 : ∀ x : Calm wc, x.val.cell? ⟨w3.heap.size, 3, none⟩ = some (.slice P3 nP f3) := fun x => (HPB.out _ (hxc.trans (x.ok.mono hxc.size))).2.2.2
            refine wp_region_calm (by kernel_rfl) (by kernel_rfl) ?_
            repeat (go_big_quiet_step (first
                | (go_at_call 11; exact calm_same (hnum_any _ _))
                | (go_at_call 25; exact calm_tells (reqHdr_is true ba br B3 e3 nB B P3 f3 nP P ba br BA cB nB B PA cP nP P _ (eqHdr_same _ _ _ _) HNB.out ((hrB.below hxc).below (Calm.ok _)) (by omega) HNP.out ((hrP.below hxc).below (Calm.ok _)) (by omega) HNB.out (HRB.out _ (hbc.trans ((Calm.ok _).mono hbc.size))) (by omega) HNP.out (HRP.out _ (hbc.trans ((Calm.ok _).mono hbc.size))) (by omega)))))
            refine wpQuiet_nil ?_
            rintro _ ⟨x, rfl⟩
            have hb7 : Below ws.heap.size ws x.val := hbc.trans (x.ok.mono hbc.size)
            have hrx7 : Rd x.val A2 (u8s (headBytes ba br B P)) := (hrb.below hxc).below x.ok
            obtain ⟨w7, hw7⟩ : ∃ w7, w7 = x.val := ⟨_, rfl⟩
            rw [← hw7] at hb7 hrx7 ⊢
            clear hw7 x q0 q1 q2 q3 c0 c1 c2 c3 hbc hxc hrb hrB hrP hbb
            have HPS : Hid (∀ q, q < nh → parseH ((headBytes ba br B P).take q) = none) := fun q hq => parseH_short HV.out (by rw [HNH.out]; exact hq)
            go_wp2_with fail
            go_loopw [10] (fun v wz => ∃ q : Nat, v = .int .i64 q ∧ q ≤ 5000 ∧ Below ws.heap.size ws wz ∧ Rd wz A2 (u8s (headBytes ba br B P))) (fun v _ => 5000 - (intOf v).toNat)
            case atStart => exact ⟨0, rfl, by omega, hb7, hrx7⟩
            case round =>
              obtain ⟨q, rfl, hq5k, hbz, hrz⟩ := hrel
              clear hb7 hrx7
              by_cases hqn : q < nh
              · have iq : (q : Int) < (nh : Int) := by omega
                have iq0 : (0 : Int) ≤ (q : Int) := by omega
                have iqd : (q : Int) ≤ (d2 : Int) := by omega
                have inb : (0 : Int) ≤ (nh : Int) := by omega
                have HT1 : Hid (((headBytes ba br B P).take q).length = q) := by show ((headBytes ba br B P).take q).length = q; rw [List.length_take, HNH.out]; omega
                have HBT : Hid (Byts ((headBytes ba br B P).take q)) := HBY.out.take q
                have hrt : Rd wr A2 (u8s ((headBytes ba br B P).take q)) := rd_takeH hrz q
                go_wp2_with fail
                refine (K.parse_no A2 d2 q _ _ (HPS.out q hqn) HT1.out hrt HBT.out (by omega) hm2 (by omega)).mono ?_
                rintro e w8 ⟨rfl, hq8⟩
                have hb8 := (hbz.trans (hq8.mono hbz.size))
                have hr8 := hrz.below hq8
                clear hq8 hrt hrz hbz
                go_wp2_with fail
                refine (hnum_any _ _).mono ?_
                rintro e w' ⟨rfl, rfl⟩
                go_wp2_with fail
                go_roundw
                case rel => exact ⟨q + 1 + nh / 20, by go_num, by omega, hb8.alloc hb8.size _, hr8.alloc _⟩
                case measure => simp [intOf]; omega
              · have iq : ¬ ((q : Int) < (nh : Int)) := by omega
                go_wp2_with fail
                go_loopw [13] (fun v wz => ∃ q : Nat, v = .int .i64 q ∧ q ≤ k ∧ Below ws.heap.size ws wz ∧ Rd wz A2 (u8s (headBytes ba br B P))) (fun v _ => 8 - (intOf v).toNat)
                case atStart => exact ⟨0, rfl, by omega, hbz, hrz⟩
                case round =>
                  obtain ⟨p, rfl, hpk, hbp, hrp⟩ := hrel
                  clear hbz hrz
                  by_cases hpn : p < k
                  · have ip : (p : Int) < (k : Int) := by omega
                    have ip0 : (0 : Int) ≤ (p : Int) := by omega
                    have ipl : (p : Int) < (len : Int) := by omega
                    obtain ⟨b2, off2, ⟨ba2, br2, BA2, cB2, B2, PA2, cP2, P2, bd2, SA2, cS2, S2, N2, XA2, cX2, X2⟩, nB2, nP2, nS2, nX2, hbo, (hnB2 : B2.length = nB2), (hnP2 : P2.length = nP2), _, _, hA2⟩ := (HI.out p (by omega)).all
                    cases hbo
                    have HA2 := Lib.hid (fun wX (h : Below ws.heap.size ws wX) => hA2 wX (hb0.trans (h.mono hb0.size)))
                    have hnB29 : nB2 ≤ 499 := (hlk p hpn b off BA2 nB2 cB2 rfl).1 (hA2 w (Below.refl _ _)).2.2.2.1
                    have hnP29 : nP2 ≤ 499 := (hlk p hpn b off PA2 nP2 cP2 rfl).2 (hA2 w (Below.refl _ _)).2.2.2.2.1
                    have HNB2 := Lib.hid hnB2
                    have HNP2 := Lib.hid hnP2
                    clear hA2 hnB2 hnP2
                    have HIN2 : Hid (∀ wX, Below ws.heap.size ws wX → HdrIn wX BA2 cB2 nB2 B2 PA2 cP2 nP2 P2) := fun wX h => by
                      have ok := (HA2.out _ h).1
                      have e1 := HNB2.out
                      have e2 := HNP2.out
                      subst e1 e2
                      exact ⟨ok.nB, ok.nP, by omega, by omega⟩
                    obtain ⟨_, e0, e1, e2, e3, _⟩ := HA2.out _ hbp
                    try simp only at e0 e1 e2 e3
                    cases hv2 : wideB ba2 br2 B2 P2 with
                    | false =>
                      have HV2 := Lib.hid hv2
                      clear hv2
                      go_wp2_with fail
                      refine (K.bytes_no ba2 br2 BA2 cB2 nB2 B2 PA2 cP2 nP2 P2 _ HV2.out (HIN2.out _ hbp)).mono ?_
                      rintro e w9 ⟨rfl, hq9⟩
                      have hb9 := hbp.trans (hq9.mono hbp.size)
                      have hr9 := hrp.below hq9
                      clear hq9 hbp hrp e0 e1 e2 e3
                      go_wp2_with fail
                      refine wp_region_calm (by kernel_rfl) (by kernel_rfl) ?_
                      repeat (go_big_quiet_step (first
                          | (go_at_call 11; exact calm_same (hnum_any _ _))))
                      refine wpQuiet_nil ?_
                      rintro _ ⟨x, rfl⟩
                      go_wp2_with fail
                      go_roundw
                      case rel => exact ⟨p + 1, by go_num, by omega, hb9.trans (x.ok.mono hb9.size), hr9.below x.ok⟩
                      case measure => simp [intOf]; omega
                    | true =>
                      have HV2 := Lib.hid hv2
                      obtain ⟨nh2, hnh2⟩ : ∃ nh2, (headBytes ba2 br2 B2 P2).length = nh2 := ⟨_, rfl⟩
                      have hsmall2 := head_small hv2
                      rw [hnh2] at hsmall2
                      have HNH2 := Lib.hid hnh2
                      obtain ⟨bb, hbb⟩ : ∃ bb, eqHdr ba br B P ba2 br2 B2 P2 = bb := ⟨_, rfl⟩
                      have HEB := Lib.hid hbb
                      have HEX : Hid (decide (headBytes ba br B P = headBytes ba2 br2 B2 P2) = bb) := (eq_heads HV.out HV2.out).trans hbb
                      clear hv2 hnh2 hbb
                      go_wp2_with fail
                      refine (K.bytes_yes ba2 br2 BA2 cB2 nB2 B2 PA2 cP2 nP2 P2 _ HV2.out (HIN2.out _ hbp)).mono ?_
                      rintro e w9 ⟨v9, rfl, ho9, hq9⟩
                      have hb9 := hbp.trans (hq9.mono hbp.size)
                      have hr9 := hrp.below hq9
                      have ho9b := own_cast ho9 ((u8s_length _).trans HNH2.out)
                      obtain ⟨A9, d9, rfl, _, _, hr9b, _, hl9⟩ := own_val ho9b
                      clear hl9 ho9 ho9b hq9 hbp hrp e0 e1 e2 e3
                      have HRB2 : Hid (∀ wX, Below ws.heap.size ws wX → Rd wX BA2 (i64s B2)) := fun wX h => (HA2.out _ h).1.nB.hr
                      have HRP2 : Hid (∀ wX, Below ws.heap.size ws wX → Rd wX PA2 (i64s P2)) := fun wX h => (HA2.out _ h).1.nP.hr
                      have c0 : ∀ x : Calm w9, x.val.cell? ⟨b, off + k * 8, none⟩ = some (.int .i64 ba) := fun x => (HA.out _ (hb9.trans (x.ok.mono hb9.size))).2.1
                      have c1 : ∀ x : Calm w9, x.val.cell? ⟨b, off + k * 8 + 1, none⟩ = some (.int .i64 br) := fun x => (HA.out _ (hb9.trans (x.ok.mono hb9.size))).2.2.1
                      have c2 : ∀ x : Calm w9, x.val.cell? ⟨b, off + k * 8 + 2, none⟩ = some (.slice BA nB cB) := fun x => (HA.out _ (hb9.trans (x.ok.mono hb9.size))).2.2.2.1
                      have c3 : ∀ x : Calm w9, x.val.cell? ⟨b, off + k * 8 + 3, none⟩ = some (.slice PA nP cP) := fun x => (HA.out _ (hb9.trans (x.ok.mono hb9.size))).2.2.2.2.1
                      have e0 : ∀ x : Calm w9, x.val.cell? ⟨b, off + p * 8, none⟩ = some (.int .i64 ba2) := fun x => (HA2.out _ (hb9.trans (x.ok.mono hb9.size))).2.1
                      have e1 : ∀ x : Calm w9, x.val.cell? ⟨b, off + p * 8 + 1, none⟩ = some (.int .i64 br2) := fun x => (HA2.out _ (hb9.trans (x.ok.mono hb9.size))).2.2.1
                      have e2 : ∀ x : Calm w9, x.val.cell? ⟨b, off + p * 8 + 2, none⟩ = some (.slice BA2 nB2 cB2) := fun x => (HA2.out _ (hb9.trans (x.ok.mono hb9.size))).2.2.2.1
                      have e3 : ∀ x : Calm w9, x.val.cell? ⟨b, off + p * 8 + 3, none⟩ = some (.slice PA2 nP2 cP2) := fun x => (HA2.out _ (hb9.trans (x.ok.mono hb9.size))).2.2.2.2.1
                      go_wp2_with fail
                      refine wp_region_calm (by kernel_rfl) (by kernel_rfl) ?_
                      repeat (go_big_quiet_step (first
                          | (go_at_call 11; exact calm_same (hnum_any _ _))
                          | (go_at_call 20; exact calm_drew (eqBytes_isH bb A2 A9 d2 d9 nh nh2 _ _ _ HEX.out HNH.out HNH2.out (hr9.below (Calm.ok _)) (hr9b.below (Calm.ok _)) (by omega) (by omega)))
                          | (go_at_call 25; exact calm_tells (reqHdr_is bb ba br BA cB nB B PA cP nP P ba2 br2 BA2 cB2 nB2 B2 PA2 cP2 nP2 P2 _ HEB.out HNB.out (HRB.out _ (hb9.trans ((Calm.ok _).mono hb9.size))) (by omega) HNP.out (HRP.out _ (hb9.trans ((Calm.ok _).mono hb9.size))) (by omega) HNB2.out (HRB2.out _ (hb9.trans ((Calm.ok _).mono hb9.size))) (by omega) HNP2.out (HRP2.out _ (hb9.trans ((Calm.ok _).mono hb9.size))) (by omega)))))
                      refine wpQuiet_nil ?_
                      rintro _ ⟨x, rfl⟩
                      cases bb
                      all_goals
                        go_wp2_with fail
                        go_roundw
                        case rel => exact ⟨p + 1, by go_num, by omega, hb9.trans (x.ok.mono hb9.size), hr9.below x.ok⟩
                        case measure => simp [intOf]; omega
                  · have ip : ¬ ((p : Int) < (k : Int)) := by omega
                    go_wp2_with fail
                    go_roundw
                    case rel => exact ⟨k + 1, by go_num, by omega, by omega, hb0.trans ((hbp).mono hb0.size), hlk2⟩
                    case measure => simp [intOf]; omega
      · have i1 : (k : Int) < (len : Int) := by omega
        have i2 : ¬ ((k : Int) < 8) := by omega
        go_wp2_with fail
        refine (hwakes_any K _).mono ?_
        rintro e w' ⟨rfl, hbw⟩
        go_wp2_with fail
        go_ret
        exact ⟨rfl, hb.trans (hbw.mono hb.size)⟩
    · have i1 : ¬ ((k : Int) < (len : Int)) := by omega
      go_wp2_with fail
      refine (hwakes_any K _).mono ?_
      rintro e w' ⟨rfl, hbw⟩
      go_wp2_with fail
      go_ret
      exact ⟨rfl, hb.trans (hbw.mono hb.size)⟩

end Go.Proofs.Ytkgbnohmhjljoaa
