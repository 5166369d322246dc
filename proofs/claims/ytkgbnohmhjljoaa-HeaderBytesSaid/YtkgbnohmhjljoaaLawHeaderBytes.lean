/-
  The walk of 'HeaderBytes', out of what it asks of package header.
-/
import Derived.Test.YtkgbnohmhjljoaaHPage
import Derived.Test.YtkgbnohmhjljoaaHAsk
namespace Go.Proofs.Ytkgbnohmhjljoaa
open Go.RowKit

set_option maxRecDepth 100000 in
set_option maxHeartbeats 8000000 in
theorem headerBytes_walk (K : HContracts) (a : Option Addr) (len cap : Nat) (w : World) (ha : HAsks w a len cap) :
    Calls Try.prog 4 #[.slice a len cap] w fun e w' => e = .returned (.bool true) ∧ Below w.heap.size w w' := by
  obtain ⟨hl, hm, hi⟩ := ha
  unfold maxLen at hm
  have HI := Lib.hid hi
  clear hi
  go_enter Try.func4, Try.ntmps4
  go_wp2_with fail
  go_loopw [3] (fun i wr => ∃ k : Nat, i = .int .i64 k ∧ k ≤ len ∧ k ≤ 8 ∧ Below w.heap.size w wr) (fun i _ => 8 - (intOf i).toNat)
  case atStart => exact ⟨0, rfl, by omega, by omega, Below.refl _ _⟩
  case round =>
    obtain ⟨k, rfl, hk, hkm, hb⟩ := hrel
    by_cases hlt : k < len
    · by_cases hmo : k < 8
      · have i0 : (0 : Int) ≤ (k : Int) := by omega
        have i1 : (k : Int) < (len : Int) := by omega
        have i2 : (k : Int) < 8 := by omega
        obtain ⟨b, off, ⟨ba, br, BA, cB, B, PA, cP, P, bd, SA, cS, S, N, XA, cX, X⟩, nB, nP, nS, nX, rfl, (hnB : B.length = nB), (hnP : P.length = nP), (hnS : S.length = nS), (hnX : X.length = nX), hA⟩ := (HI.out k hlt).all
        have HNB := Lib.hid hnB
        have HNP := Lib.hid hnP
        have HNS := Lib.hid hnS
        have HNX := Lib.hid hnX
        clear hnB hnP hnS hnX
        have hXc : nX ≤ cX := by have := (hA _ hb).1.hX; have := HNX.out; simp only at *; omega
        have hXm : cX ≤ maxLen := (hA _ hb).1.mX
        have hBc : nB ≤ cB := by have := (hA _ hb).1.nB.hc; have := HNB.out; simp only at *; omega
        have hPc : nP ≤ cP := by have := (hA _ hb).1.nP.hc; have := HNP.out; simp only at *; omega
        have hSc : nS ≤ cS := by have := (hA _ hb).1.nS.hc; have := HNS.out; simp only at *; omega
        have hBz : nB ≤ 140737488351232 := by have := (hA _ hb).1.zB; have := HNB.out; simp only at *; omega
        have hPz : nP ≤ 140737488351232 := by have := (hA _ hb).1.zP; have := HNP.out; simp only at *; omega
        have hSz : nS ≤ 140737488351232 := by have := (hA _ hb).1.zS; have := HNS.out; simp only at *; omega
        obtain ⟨ws, hws⟩ : ∃ ws, ws = wr.alloc (.cells #[.int .i64 ba, .int .i64 br, .slice BA nB cB, .slice PA nP cP] 25) := ⟨_, rfl⟩
        have HBX := Lib.hid (hbox_new hws)
        have hb0 : Below w.heap.size w ws := by rw [hws]; exact hb.alloc hb.size _
        have HA := Lib.hid (fun wX (h : Below ws.heap.size ws wX) => hA wX (hb0.trans (h.mono hb0.size)))
        obtain ⟨ok, c0, c1, c2, c3, c4, c5, c6, c7⟩ := hA _ hb
        obtain ⟨_, d0, d1, d2, d3, d4, d5, d6, d7⟩ := hA (wr.alloc (.cells #[.int .i64 ba, .int .i64 br, .slice BA nB cB, .slice PA nP cP] 25)) (hb.alloc hb.size _)
        try simp only at c0 c1 c2 c3 c4 c5 c6 c7 d0 d1 d2 d3 d4 d5 d6 d7
        go_wp2_with fail
        rw [← hws]
        clear c0 c1 c2 c3 c4 c5 c6 c7 d0 d1 d2 d3 d4 d5 d6 d7 ok hws hb
        have HAW := Lib.hid (hA w (Below.refl _ _))
        clear hA
        have HRB : Hid (∀ wX, Below ws.heap.size ws wX → Rd wX BA (i64s B)) := fun wX h => (HA.out _ h).1.nB.hr
        have HRP : Hid (∀ wX, Below ws.heap.size ws wX → Rd wX PA (i64s P)) := fun wX h => (HA.out _ h).1.nP.hr
        have HRS : Hid (∀ wX, Below ws.heap.size ws wX → Rd wX SA (i64s S)) := fun wX h => (HA.out _ h).1.nS.hr
        have HHI : Hid (nB ≤ 499 → nP ≤ 499 → ∀ wX, Below ws.heap.size ws wX → HdrIn wX BA cB nB B PA cP nP P) := fun h1 h2 wX h => by
          have ok := (HA.out _ h).1
          have e1 := HNB.out
          have e2 := HNP.out
          subst e1 e2
          exact ⟨ok.nB, ok.nP, by omega, by omega⟩
        refine (hheavy_any ba br BA cB nB PA cP nP bd SA cS nS N XA cX nX _ hBz hPz hSz).mono ?_
        rintro e w1 ⟨hv, rfl, hb1, hlight⟩
        have HLI := Lib.hid hlight
        clear hlight
        cases hv with
        | true =>
          go_wp2_with fail
          go_ret
          exact ⟨rfl, hb0.trans (hb1.mono hb0.size)⟩
        | false =>
          obtain ⟨hn3, hnX5⟩ := HLI.out rfl
          have HIN := Lib.hid (HHI.out (by omega) (by omega))
          have hnB9 : nB ≤ 499 := by omega
          have hnP9 : nP ≤ 499 := by omega
          have hnS9 : nS ≤ 499 := by omega
          clear HLI HHI hn3 hBz hPz hSz
          obtain ⟨q0, q1, q2, q3⟩ := HBX.out _ hb1
          cases hv : wideB ba br B P with
          | true =>
            have HV := Lib.hid hv
            have hsmall := head_small hv
            obtain ⟨nh, hnh⟩ : ∃ nh, (headBytes ba br B P).length = nh := ⟨_, rfl⟩
            rw [hnh] at hsmall
            have HNH := Lib.hid hnh
            clear hv hnh
            go_wp2_with fail
            refine (K.bytes_yes ba br BA cB nB B PA cP nP P _ HV.out (HIN.out _ hb1)).mono ?_
            rintro e w2 ⟨v2, rfl, ho2, hq2⟩
            have hb2 := hb1.trans (hq2.mono hb1.size)
            have ho2b := own_cast ho2 ((u8s_length _).trans HNH.out)
            obtain ⟨A2, d2, rfl, hd2, hm2, hr2, _, hl2⟩ := own_val ho2b
            clear hl2 ho2 ho2b
            clear hq2 hb1 q0 q1 q2 q3
            obtain ⟨q0, q1, q2, q3⟩ := HBX.out _ hb2
            go_wp2_with fail
            refine (rwide_is true ba br BA cB nB B PA cP nP P _ HV.out HNB.out (HRB.out _ hb2) (by omega) HNP.out (HRP.out _ hb2) (by omega)).mono ?_
            rintro e w3 ⟨rfl, hq3⟩
            have hb3 := hb2.trans (hq3.mono hb2.size)
            have hr3 := hr2.below hq3
            clear hq3 hb2 hr2 q0 q1 q2 q3
            obtain ⟨q0, q1, q2, q3⟩ := HBX.out _ hb3
            go_wp2_with fail
            refine (hnum_any _ _).mono ?_
            rintro e w' ⟨rfl, rfl⟩
            go_wp2_with fail
            refine (rheadBytes_any ba br BA cB nB B PA cP nP P _ HV.out HNB.out (HRB.out _ hb3) HNP.out (HRP.out _ hb3)).mono ?_
            rintro e w4 ⟨v4, rfl, ho4, hq4⟩
            have hb4 := hb3.trans (hq4.mono hb3.size)
            have hr34 := hr3.below hq4
            have ho4b := own_cast ho4 ((u8s_length _).trans HNH.out)
            obtain ⟨A4, d4, rfl, hd4, hm4, hr4, _, hl4⟩ := own_val ho4b
            clear hl4 ho4 ho4b
            clear hq4 hb3 hr3
            go_wp2_with fail
            refine (eqBytes_same A2 A4 d2 d4 nh (headBytes ba br B P) _ HNH.out hr34 hr4 (by omega)).mono ?_
            rintro e w' ⟨rfl, dq, rfl⟩
            go_wp2_with fail
            go_roundw
            case rel => exact ⟨k + 1, by go_num, by omega, by omega, hb0.trans ((below_n hb4 dq).mono hb0.size)⟩
            case measure => simp [intOf]; omega
          | false =>
            have HV := Lib.hid hv
            clear hv
            go_wp2_with fail
            refine (K.bytes_no ba br BA cB nB B PA cP nP P _ HV.out (HIN.out _ hb1)).mono ?_
            rintro e w2 ⟨rfl, hq2⟩
            have hb2 := hb1.trans (hq2.mono hb1.size)
            clear hq2 hb1 q0 q1 q2 q3
            obtain ⟨q0, q1, q2, q3⟩ := HBX.out _ hb2
            go_wp2_with fail
            refine (rwide_is false ba br BA cB nB B PA cP nP P _ HV.out HNB.out (HRB.out _ hb2) (by omega) HNP.out (HRP.out _ hb2) (by omega)).mono ?_
            rintro e w3 ⟨rfl, hq3⟩
            have hb3 := hb2.trans (hq3.mono hb2.size)
            clear hq3 hb2 q0 q1 q2 q3
            go_wp2_with fail
            refine (hnum_any _ _).mono ?_
            rintro e w' ⟨rfl, rfl⟩
            go_wp2_with fail
            go_roundw
            case rel => exact ⟨k + 1, by go_num, by omega, by omega, hb0.trans ((hb3).mono hb0.size)⟩
            case measure => simp [intOf]; omega
      · have i1 : (k : Int) < (len : Int) := by omega
        have i2 : ¬ ((k : Int) < 8) := by omega
        go_wp2_with fail
        refine (hwakes_any K _).mono ?_
        rintro e w' ⟨rfl, hbw⟩
        go_wp2_with fail
        go_ret
        exact ⟨rfl, hb.trans (hbw.mono hb.size)⟩
    · have i1 : ¬ ((k : Int) < (len : Int)) := by omega
      go_wp2_with fail
      refine (hwakes_any K _).mono ?_
      rintro e w' ⟨rfl, hbw⟩
      go_wp2_with fail
      go_ret
      exact ⟨rfl, hb.trans (hbw.mono hb.size)⟩

end Go.Proofs.Ytkgbnohmhjljoaa
