/-
  The walk of 'BatchBytes', out of what it asks of package batch.
-/
import Derived.Test.YtkkamcdilpcehaaBWakes
namespace Go.Proofs.Ytkkamcdilpcehaa
open Go.RowKit

set_option maxRecDepth 100000 in
set_option maxHeartbeats 8000000 in
theorem batchBytes_walk (K : BContracts) (a : Option Addr) (len cap : Nat) (w : World) (ha : BAsks w a len cap) :
    Calls Try.prog 4 #[.slice a len cap] w fun e w' => e = .returned (.bool true) ∧ Below w.heap.size w w' := by
  obtain ⟨hl, hm, hi⟩ := ha
  unfold maxLen at hm
  have HI := Lib.hid hi
  clear hi
  go_enter Try.func4, Try.ntmps4
  go_wp2_with fail
  go_loopw [3] (fun i wr => ∃ k : Nat, i = .int .i64 k ∧ k ≤ len ∧ k ≤ 8 ∧ Below w.heap.size w wr) (fun i _ => 8 - (intOf i).toNat)
  case atStart => exact ⟨0, rfl, by omega, by omega, Below.refl _ _⟩
  case round =>
    obtain ⟨k, rfl, hk, hkm, hb⟩ := hrel
    by_cases hlt : k < len
    · by_cases hmo : k < 8
      · have i0 : (0 : Int) ≤ (k : Int) := by omega
        have i1 : (k : Int) < (len : Int) := by omega
        have i2 : (k : Int) < 8 := by omega
        obtain ⟨b, off, ⟨ba, N, TA, cT, L, XA, cX, X⟩, nT, nX, rfl, (hnT : L.length = nT), (hnX : X.length = nX), hA⟩ := (HI.out k hlt).all
        have HA := Lib.hid hA
        have HNT := Lib.hid hnT
        have HNX := Lib.hid hnX
        clear hA hnT hnX
        have hTc : nT ≤ cT := by have := (HA.out _ hb).1.hT; have := HNT.out; simp only at *; omega
        have hTm : cT ≤ maxLen := (HA.out _ hb).1.mT
        have hXc : nX ≤ cX := by have := (HA.out _ hb).1.hX; have := HNX.out; simp only at *; omega
        have hXm : cX ≤ maxLen := (HA.out _ hb).1.mX
        obtain ⟨ok, c0, c1, c2, c3⟩ := HA.out _ hb
        try simp only at c0 c1 c2 c3
        go_wp2_with fail
        refine (bheavy_any ba N TA cT nT L XA cX nX _ HNT.out ok.rT ok.sT hTc hTm).mono ?_
        rintro e w1 ⟨hv, rfl, hq1, hlight⟩
        have HLI := Lib.hid hlight
        have hb1 := hb.trans (hq1.mono hb.size)
        clear hlight c0 c1 c2 c3 ok hq1 hb
        cases hv with
        | true =>
          go_wp2_with fail
          go_ret
          exact ⟨rfl, hb1⟩
        | false =>
          obtain ⟨hnT5, hnX5⟩ := HLI.out rfl
          have hnT9 : nT ≤ 5000 := by omega
          clear HLI
          obtain ⟨ok, c0, c1, c2, c3⟩ := HA.out _ hb1
          try simp only at c0 c1 c2 c3
          cases hv : batB ba N L with
          | true =>
            have HV := Lib.hid hv
            have hsmall := bytes_small hv
            obtain ⟨nb, hnb⟩ : ∃ nb, (batBytes ba N L).length = nb := ⟨_, rfl⟩
            rw [hnb] at hsmall
            have HNB := Lib.hid hnb
            clear hv hnb
            go_wp2_with fail
            refine (K.bytes_yes ba N TA cT nT L _ HV.out HNT.out ok.rT hTc hTm).mono ?_
            rintro e w2 ⟨v2, rfl, ho2, hq2⟩
            have hb2 := hb1.trans (hq2.mono hb1.size)
            have ho2b := own_cast ho2 ((u8s_length _).trans HNB.out)
            obtain ⟨A2, d2, rfl, _, _, hr2, _, hl2⟩ := own_val ho2b
            clear hl2 ho2 ho2b hq2 hb1
            clear c0 c1 c2 c3 ok
            obtain ⟨ok, c0, c1, c2, c3⟩ := HA.out _ hb2
            try simp only at c0 c1 c2 c3
            go_wp2_with fail
            refine (rbatch_is true ba N TA cT nT L _ HV.out HNT.out ok.rT).mono ?_
            rintro e w3 ⟨rfl, hq3⟩
            have hb3 := hb2.trans (hq3.mono hb2.size)
            have hr3 := hr2.below hq3
            clear hq3 hb2 hr2
            clear c0 c1 c2 c3 ok
            obtain ⟨ok, c0, c1, c2, c3⟩ := HA.out _ hb3
            try simp only at c0 c1 c2 c3
            go_wp2_with fail
            refine (num_any _ _).mono ?_
            rintro e w' ⟨rfl, rfl⟩
            go_wp2_with fail
            refine (rbytes_any ba N TA cT nT L _ HV.out HNT.out ok.rT hTc).mono ?_
            rintro e w4 ⟨v4, rfl, ho4, hq4⟩
            have hb4 := hb3.trans (hq4.mono hb3.size)
            have hr4 := hr3.below hq4
            have ho4b := own_cast ho4 ((u8s_length _).trans HNB.out)
            obtain ⟨A4, d4, rfl, _, _, hr4b, _, hl4⟩ := own_val ho4b
            clear hl4 ho4 ho4b hq4 hb3 hr3
            clear c0 c1 c2 c3 ok
            go_wp2_with fail
            refine (eqBytes_same A2 A4 d2 d4 nb (batBytes ba N L) _ HNB.out hr4 hr4b (by omega)).mono ?_
            rintro e w' ⟨rfl, dq, rfl⟩
            go_wp2_with fail
            go_roundw
            case rel => exact ⟨k + 1, by go_num, by omega, by omega, below_n hb4 dq⟩
            case measure => simp [intOf]; omega
          | false =>
            have HV := Lib.hid hv
            clear hv
            go_wp2_with fail
            refine (K.bytes_no ba N TA cT nT L _ HV.out HNT.out ok.rT hTc hTm).mono ?_
            rintro e w2 ⟨rfl, hq2⟩
            have hb2 := hb1.trans (hq2.mono hb1.size)
            clear hq2 hb1
            clear c0 c1 c2 c3 ok
            obtain ⟨ok, c0, c1, c2, c3⟩ := HA.out _ hb2
            try simp only at c0 c1 c2 c3
            go_wp2_with fail
            refine (rbatch_is false ba N TA cT nT L _ HV.out HNT.out ok.rT).mono ?_
            rintro e w3 ⟨rfl, hq3⟩
            have hb3 := hb2.trans (hq3.mono hb2.size)
            clear hq3 hb2
            clear c0 c1 c2 c3 ok
            go_wp2_with fail
            refine (num_any _ _).mono ?_
            rintro e w' ⟨rfl, rfl⟩
            go_wp2_with fail
            go_roundw
            case rel => exact ⟨k + 1, by go_num, by omega, by omega, hb3⟩
            case measure => simp [intOf]; omega
      · have i1 : (k : Int) < (len : Int) := by omega
        have i2 : ¬ ((k : Int) < 8) := by omega
        go_wp2_with fail
        refine (wakes_any K _).mono ?_
        rintro e w' ⟨rfl, hbw⟩
        go_wp2_with fail
        go_ret
        exact ⟨rfl, hb.trans (hbw.mono hb.size)⟩
    · have i1 : ¬ ((k : Int) < (len : Int)) := by omega
      go_wp2_with fail
      refine (wakes_any K _).mono ?_
      rintro e w' ⟨rfl, hbw⟩
      go_wp2_with fail
      go_ret
      exact ⟨rfl, hb.trans (hbw.mono hb.size)⟩

end Go.Proofs.Ytkkamcdilpcehaa
