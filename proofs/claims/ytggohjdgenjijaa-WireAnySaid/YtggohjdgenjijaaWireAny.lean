/-
  'WireAny': for every input the law returns true, and its argument reads as it did. 
-/
import Derived.Test.YtggohjdgenjijaaLawKit
namespace Go.Proofs.Ytggohjdgenjijaa
open Go.RowKit Go.ChangeShapes Go.WideShapes Go.ChangeAt

set_option maxRecDepth 100000 in
set_option maxHeartbeats 16000000 in
theorem wireAny_walk (a : Option Addr) (len cap : Nat) (w : World) (ha : Asks w a len cap) :
    Calls Try.prog 7 #[.slice a len cap] w fun e w' => e = .returned (.bool true) ∧ Below w.heap.size w w' := by
  obtain ⟨hl, hm, hi⟩ := ha
  unfold maxLen at hm
  have HI := Lib.hid hi
  clear hi
  go_enter Try.func7, Try.ntmps7
  go_wp2_with fail
  go_loopw [3] (fun i wr => ∃ k : Nat, i = .int .i64 k ∧ k ≤ len ∧ k ≤ 12 ∧ Below w.heap.size w wr) (fun i _ => 12 - (intOf i).toNat)
  case atStart => exact ⟨0, rfl, by omega, by omega, Below.refl _ _⟩
  case round =>
    obtain ⟨k, rfl, hk, hk12, hb⟩ := hrel
    by_cases hlt : k < len
    · by_cases h12 : k < 12
      · have i0 : (0 : Int) ≤ (k : Int) := by omega
        have i1 : (k : Int) < (len : Int) := by omega
        have i2 : (k : Int) < 12 := by omega
        obtain ⟨b, off, ⟨N, AL, cL, L, AN, cN, S, AB, cB, B⟩, nL, nS, nB, rfl, (hnL : L.length = nL), (hnS : S.length = nS), (hnB : B.length = nB), hA⟩ := (HI.out k hlt).all
        have HA := Lib.hid hA
        have HNL := Lib.hid hnL
        have HNS := Lib.hid hnS
        have HNB := Lib.hid hnB
        clear hA hnL hnS hnB
        obtain ⟨ok, c0, c1, c2, c3⟩ := HA.out _ hb
        try simp only at c0 c1 c2 c3
        go_wp2_with fail
        refine (heavy_nums ⟨N, AL, cL, L, AN, cN, S, AB, cB, B⟩ nL nS nB HNL.out HNS.out HNB.out _ ok).mono ?_
        rintro e w1 ⟨hv, rfl, hb1, hlight⟩
        have HLI := Lib.hid hlight
        have hbb := hb.trans (hb1.mono hb.size)
        clear hlight c0 c1 c2 c3 ok hb1 hb
        cases hv with
        | true =>
          go_wp2_with fail
          go_ret
          exact ⟨rfl, hbb⟩
        | false =>
          obtain ⟨(lL : L.length + totT L L.length ≤ 8000), (lB : B.length ≤ 8000), (lS : S.length ≤ 500)⟩ := HLI.out rfl
          rw [HNS.out] at lS
          rw [HNB.out] at lB
          have lT : nL + totT L nL ≤ 8000 := by have := HNL.out; rw [← this]; exact lL
          clear lL
          clear HLI
          obtain ⟨ok, c0, c1, c2, c3⟩ := HA.out _ hbb
          try simp only at c0 c1 c2 c3
          go_wp2_with fail
          refine (getPuts_any AB cB nB B _ HNB.out ok.rB ok.sB (HNB.out ▸ ok.hB) ok.mB (by omega)).mono ?_
          rintro e w2 hgot1
          clear c0 c1 c2 c3 ok
          cases hgn1 : getPuts B with
          | none =>
            rw [hgn1] at hgot1
            obtain ⟨rfl, hb2⟩ := hgot1
            clear hgn1
            have hb3 := hbb.trans (hb2.mono hbb.size)
            clear hb2
            go_wp2_with fail
            refine (num_any _ _).mono ?_
            rintro e w' ⟨rfl, rfl⟩
            obtain ⟨ok, c0, c1, c2, c3⟩ := HA.out _ hb3
            try simp only at c0 c1 c2 c3
            go_wp2_with fail
            refine (getNums_any AB cB nB B _ HNB.out ok.rB ok.sB (HNB.out ▸ ok.hB) ok.mB (by omega)).mono ?_
            rintro e w7 hgot2
            clear c0 c1 c2 c3 ok
            cases hgn2 : getNums B with
            | none =>
              rw [hgn2] at hgot2
              obtain ⟨rfl, hb7⟩ := hgot2
              clear hgn2
              have hb8 := hb3.trans (hb7.mono hb3.size)
              clear hb7
              obtain ⟨ok, c0, c1, c2, c3⟩ := HA.out _ hb8
              try simp only at c0 c1 c2 c3
              go_wp2_with fail
              refine (num_any _ _).mono ?_
              rintro e w' ⟨rfl, rfl⟩
              go_wp2_with fail
              refine (getNum_any AB cB nB B _ HNB.out ok.rB ok.sB (by omega)).mono ?_
              rintro e w' ⟨rfl, rfl⟩
              cases hgn3 : gn 0 0 B with
              | none =>
                unfold gnVal
                go_wp2_with fail
                refine (num_any _ _).mono ?_
                rintro e w' ⟨rfl, rfl⟩
                clear c0 c1 c2 c3 ok
                go_wp2_with fail
                go_roundw
                case rel => exact ⟨k + 1, by go_num, by omega, by omega, hb8⟩
                case measure => simp [intOf]; omega
              | some p3 =>
                obtain ⟨m, k3⟩ := p3
                obtain ⟨hn1, hn2, hn3, hn4⟩ := num_back ok.sB hgn3
                rw [HNB.out] at hn3
                have HN1 := Lib.hid hn1
                have HN2 := Lib.hid hn2
                clear hn1 hn2 hgn3 c0 c1 c2 c3 ok
                unfold gnVal
                go_wp2_with fail
                refine (num_any _ _).mono ?_
                rintro e w' ⟨rfl, rfl⟩
                go_wp2_with fail
                refine (num_yes m _ hn4).mono ?_
                rintro e w12 ⟨v12, rfl, ho12, hb12⟩
                have hb13 := hb8.trans (hb12.mono hb8.size)
                have ho13 := own_cast ho12 ((u8s_length _).trans HN2.out)
                obtain ⟨A12, d12, rfl, hd12, _, hr12, _, hl12⟩ := own_val ho13
                clear hl12 ho12 ho13 hb12
                obtain ⟨ok, c0, c1, c2, c3⟩ := HA.out _ hb13
                try simp only at c0 c1 c2 c3
                have hr14 : Rd w12 AB (u8s (vnum m)) := by have := ok.rB.take k3; rw [← HN1.out]; simpa [u8s, List.map_take] using this
                have hcB : k3 ≤ cB := by have h1 : B.length ≤ cB := ok.hB; rw [HNB.out] at h1; omega
                have hmB : cB ≤ 9223372036854775807 := ok.mB
                go_wp2_with fail
                refine (num_any _ _).mono ?_
                rintro e w' ⟨rfl, rfl⟩
                go_wp2_with fail
                refine (eqBytes_same A12 AB d12 cB k3 (vnum m) _ HN2.out hr12 hr14 (by omega)).mono ?_
                rintro e w' ⟨rfl, dx, rfl⟩
                clear c0 c1 c2 c3 ok
                go_wp2_with fail
                go_roundw
                case rel => exact ⟨k + 1, by go_num, by omega, by omega, below_n hb13 dx⟩
                case measure => simp [intOf]; omega
            | some l2 =>
              rw [hgn2] at hgot2
              obtain ⟨v7, rfl, ho7, hb7⟩ := hgot2
              have hb8 := hb3.trans (hb7.mono hb3.size)
              clear hb7
              obtain ⟨hq1, hq2, hq3⟩ := nums_back (HA.out _ hb8).1.sB hgn2
              simp only at hq1 hq2
              rw [HNB.out] at hq2
              have HQ1 := Lib.hid hq1
              have HQ3 := Lib.hid hq3
              clear hgn2 hq1 hq3
              have ho7d := own_cast ho7 (show (i64s (nats l2)).length = l2.length by rw [i64s_length, nats_length])
              obtain ⟨A7, d7, rfl, hd7, _, hr7, _, hl7⟩ := own_val ho7d
              clear hl7 ho7 ho7d
              go_wp2_with fail
              refine (num_any _ _).mono ?_
              rintro e w' ⟨rfl, rfl⟩
              go_wp2_with fail
              refine (nums_yes A7 d7 l2.length l2 _ rfl hr7 (by omega) HQ3.out (by rw [HQ1.out, HNB.out]; omega)).mono ?_
              rintro e w9 ⟨v9, rfl, ho9, hb9⟩
              have hb10 := hb8.trans (hb9.mono hb8.size)
              rw [HQ1.out] at ho9
              have ho9b := own_cast ho9 ((u8s_length B).trans HNB.out)
              obtain ⟨A9, d9, rfl, hd9, _, hr9, _, hl9⟩ := own_val ho9b
              clear hl9 ho9 ho9b hb9 hb8
              obtain ⟨ok, c0, c1, c2, c3⟩ := HA.out _ hb10
              try simp only at c0 c1 c2 c3
              go_wp2_with fail
              refine (num_any _ _).mono ?_
              rintro e w' ⟨rfl, rfl⟩
              go_wp2_with fail
              refine (eqBytes_same A9 AB d9 cB nB B _ HNB.out hr9 ok.rB (by omega)).mono ?_
              rintro e w' ⟨rfl, dz, rfl⟩
              have hb11 := below_n hb10 dz
              clear hb10 hr9
              clear c0 c1 c2 c3 ok
              obtain ⟨ok, c0, c1, c2, c3⟩ := HA.out _ hb11
              try simp only at c0 c1 c2 c3
              go_wp2_with fail
              refine (getNum_any AB cB nB B _ HNB.out ok.rB ok.sB (by omega)).mono ?_
              rintro e w' ⟨rfl, rfl⟩
              cases hgn3 : gn 0 0 B with
              | none =>
                unfold gnVal
                go_wp2_with fail
                refine (num_any _ _).mono ?_
                rintro e w' ⟨rfl, rfl⟩
                clear c0 c1 c2 c3 ok
                go_wp2_with fail
                go_roundw
                case rel => exact ⟨k + 1, by go_num, by omega, by omega, hb11⟩
                case measure => simp [intOf]; omega
              | some p3 =>
                obtain ⟨m, k3⟩ := p3
                obtain ⟨hn1, hn2, hn3, hn4⟩ := num_back ok.sB hgn3
                rw [HNB.out] at hn3
                have HN1 := Lib.hid hn1
                have HN2 := Lib.hid hn2
                clear hn1 hn2 hgn3 c0 c1 c2 c3 ok
                unfold gnVal
                go_wp2_with fail
                refine (num_any _ _).mono ?_
                rintro e w' ⟨rfl, rfl⟩
                go_wp2_with fail
                refine (num_yes m _ hn4).mono ?_
                rintro e w12 ⟨v12, rfl, ho12, hb12⟩
                have hb13 := hb11.trans (hb12.mono hb11.size)
                have ho13 := own_cast ho12 ((u8s_length _).trans HN2.out)
                obtain ⟨A12, d12, rfl, hd12, _, hr12, _, hl12⟩ := own_val ho13
                clear hl12 ho12 ho13 hb12
                obtain ⟨ok, c0, c1, c2, c3⟩ := HA.out _ hb13
                try simp only at c0 c1 c2 c3
                have hr14 : Rd w12 AB (u8s (vnum m)) := by have := ok.rB.take k3; rw [← HN1.out]; simpa [u8s, List.map_take] using this
                have hcB : k3 ≤ cB := by have h1 : B.length ≤ cB := ok.hB; rw [HNB.out] at h1; omega
                have hmB : cB ≤ 9223372036854775807 := ok.mB
                go_wp2_with fail
                refine (num_any _ _).mono ?_
                rintro e w' ⟨rfl, rfl⟩
                go_wp2_with fail
                refine (eqBytes_same A12 AB d12 cB k3 (vnum m) _ HN2.out hr12 hr14 (by omega)).mono ?_
                rintro e w' ⟨rfl, dx, rfl⟩
                clear c0 c1 c2 c3 ok
                go_wp2_with fail
                go_roundw
                case rel => exact ⟨k + 1, by go_num, by omega, by omega, below_n hb13 dx⟩
                case measure => simp [intOf]; omega
          | some l1 =>
            rw [hgn1] at hgot1
            obtain ⟨v2, rfl, ho2, hb2⟩ := hgot1
            have hb3 := hbb.trans (hb2.mono hbb.size)
            clear hb2
            obtain ⟨hp1, hp2⟩ := texts_back (HA.out _ hb3).1.sB hgn1
            simp only at hp1 hp2
            rw [HNB.out] at hp2
            have HP1 := Lib.hid hp1
            clear hgn1 hp1
            have ho2d := own_cast ho2 (show (strs (l1.map strOfNums)).length = l1.length by rw [strs_length, List.length_map])
            obtain ⟨A2, d2, rfl, hd2, _, hr2, _, hl2⟩ := own_val ho2d
            clear hl2 ho2 ho2d
            go_wp2_with fail
            refine (num_any _ _).mono ?_
            rintro e w' ⟨rfl, rfl⟩
            go_wp2_with fail
            refine (put_yes A2 d2 l1.length (l1.map strOfNums) _ (List.length_map _) hr2 (by omega) (by rw [HP1.out, HNB.out]; omega)).mono ?_
            rintro e w4 ⟨v4, rfl, ho4, hb4⟩
            have hb5 := hb3.trans (hb4.mono hb3.size)
            rw [HP1.out] at ho4
            have ho4b := own_cast ho4 ((u8s_length B).trans HNB.out)
            obtain ⟨A4, d4, rfl, hd4, _, hr4, _, hl4⟩ := own_val ho4b
            clear hl4 ho4 ho4b hb4 hb3
            obtain ⟨ok, c0, c1, c2, c3⟩ := HA.out _ hb5
            try simp only at c0 c1 c2 c3
            go_wp2_with fail
            refine (num_any _ _).mono ?_
            rintro e w' ⟨rfl, rfl⟩
            go_wp2_with fail
            refine (eqBytes_same A4 AB d4 cB nB B _ HNB.out hr4 ok.rB (by omega)).mono ?_
            rintro e w' ⟨rfl, dy, rfl⟩
            have hb6 := below_n hb5 dy
            clear hb5 hr4
            clear c0 c1 c2 c3 ok
            obtain ⟨ok, c0, c1, c2, c3⟩ := HA.out _ hb6
            try simp only at c0 c1 c2 c3
            go_wp2_with fail
            refine (getNums_any AB cB nB B _ HNB.out ok.rB ok.sB (HNB.out ▸ ok.hB) ok.mB (by omega)).mono ?_
            rintro e w7 hgot2
            clear c0 c1 c2 c3 ok
            cases hgn2 : getNums B with
            | none =>
              rw [hgn2] at hgot2
              obtain ⟨rfl, hb7⟩ := hgot2
              clear hgn2
              have hb8 := hb6.trans (hb7.mono hb6.size)
              clear hb7
              obtain ⟨ok, c0, c1, c2, c3⟩ := HA.out _ hb8
              try simp only at c0 c1 c2 c3
              go_wp2_with fail
              refine (num_any _ _).mono ?_
              rintro e w' ⟨rfl, rfl⟩
              go_wp2_with fail
              refine (getNum_any AB cB nB B _ HNB.out ok.rB ok.sB (by omega)).mono ?_
              rintro e w' ⟨rfl, rfl⟩
              cases hgn3 : gn 0 0 B with
              | none =>
                unfold gnVal
                go_wp2_with fail
                refine (num_any _ _).mono ?_
                rintro e w' ⟨rfl, rfl⟩
                clear c0 c1 c2 c3 ok
                go_wp2_with fail
                go_roundw
                case rel => exact ⟨k + 1, by go_num, by omega, by omega, hb8⟩
                case measure => simp [intOf]; omega
              | some p3 =>
                obtain ⟨m, k3⟩ := p3
                obtain ⟨hn1, hn2, hn3, hn4⟩ := num_back ok.sB hgn3
                rw [HNB.out] at hn3
                have HN1 := Lib.hid hn1
                have HN2 := Lib.hid hn2
                clear hn1 hn2 hgn3 c0 c1 c2 c3 ok
                unfold gnVal
                go_wp2_with fail
                refine (num_any _ _).mono ?_
                rintro e w' ⟨rfl, rfl⟩
                go_wp2_with fail
                refine (num_yes m _ hn4).mono ?_
                rintro e w12 ⟨v12, rfl, ho12, hb12⟩
                have hb13 := hb8.trans (hb12.mono hb8.size)
                have ho13 := own_cast ho12 ((u8s_length _).trans HN2.out)
                obtain ⟨A12, d12, rfl, hd12, _, hr12, _, hl12⟩ := own_val ho13
                clear hl12 ho12 ho13 hb12
                obtain ⟨ok, c0, c1, c2, c3⟩ := HA.out _ hb13
                try simp only at c0 c1 c2 c3
                have hr14 : Rd w12 AB (u8s (vnum m)) := by have := ok.rB.take k3; rw [← HN1.out]; simpa [u8s, List.map_take] using this
                have hcB : k3 ≤ cB := by have h1 : B.length ≤ cB := ok.hB; rw [HNB.out] at h1; omega
                have hmB : cB ≤ 9223372036854775807 := ok.mB
                go_wp2_with fail
                refine (num_any _ _).mono ?_
                rintro e w' ⟨rfl, rfl⟩
                go_wp2_with fail
                refine (eqBytes_same A12 AB d12 cB k3 (vnum m) _ HN2.out hr12 hr14 (by omega)).mono ?_
                rintro e w' ⟨rfl, dx, rfl⟩
                clear c0 c1 c2 c3 ok
                go_wp2_with fail
                go_roundw
                case rel => exact ⟨k + 1, by go_num, by omega, by omega, below_n hb13 dx⟩
                case measure => simp [intOf]; omega
            | some l2 =>
              rw [hgn2] at hgot2
              obtain ⟨v7, rfl, ho7, hb7⟩ := hgot2
              have hb8 := hb6.trans (hb7.mono hb6.size)
              clear hb7
              obtain ⟨hq1, hq2, hq3⟩ := nums_back (HA.out _ hb8).1.sB hgn2
              simp only at hq1 hq2
              rw [HNB.out] at hq2
              have HQ1 := Lib.hid hq1
              have HQ3 := Lib.hid hq3
              clear hgn2 hq1 hq3
              have ho7d := own_cast ho7 (show (i64s (nats l2)).length = l2.length by rw [i64s_length, nats_length])
              obtain ⟨A7, d7, rfl, hd7, _, hr7, _, hl7⟩ := own_val ho7d
              clear hl7 ho7 ho7d
              go_wp2_with fail
              refine (num_any _ _).mono ?_
              rintro e w' ⟨rfl, rfl⟩
              go_wp2_with fail
              refine (nums_yes A7 d7 l2.length l2 _ rfl hr7 (by omega) HQ3.out (by rw [HQ1.out, HNB.out]; omega)).mono ?_
              rintro e w9 ⟨v9, rfl, ho9, hb9⟩
              have hb10 := hb8.trans (hb9.mono hb8.size)
              rw [HQ1.out] at ho9
              have ho9b := own_cast ho9 ((u8s_length B).trans HNB.out)
              obtain ⟨A9, d9, rfl, hd9, _, hr9, _, hl9⟩ := own_val ho9b
              clear hl9 ho9 ho9b hb9 hb8
              obtain ⟨ok, c0, c1, c2, c3⟩ := HA.out _ hb10
              try simp only at c0 c1 c2 c3
              go_wp2_with fail
              refine (num_any _ _).mono ?_
              rintro e w' ⟨rfl, rfl⟩
              go_wp2_with fail
              refine (eqBytes_same A9 AB d9 cB nB B _ HNB.out hr9 ok.rB (by omega)).mono ?_
              rintro e w' ⟨rfl, dz, rfl⟩
              have hb11 := below_n hb10 dz
              clear hb10 hr9
              clear c0 c1 c2 c3 ok
              obtain ⟨ok, c0, c1, c2, c3⟩ := HA.out _ hb11
              try simp only at c0 c1 c2 c3
              go_wp2_with fail
              refine (getNum_any AB cB nB B _ HNB.out ok.rB ok.sB (by omega)).mono ?_
              rintro e w' ⟨rfl, rfl⟩
              cases hgn3 : gn 0 0 B with
              | none =>
                unfold gnVal
                go_wp2_with fail
                refine (num_any _ _).mono ?_
                rintro e w' ⟨rfl, rfl⟩
                clear c0 c1 c2 c3 ok
                go_wp2_with fail
                go_roundw
                case rel => exact ⟨k + 1, by go_num, by omega, by omega, hb11⟩
                case measure => simp [intOf]; omega
              | some p3 =>
                obtain ⟨m, k3⟩ := p3
                obtain ⟨hn1, hn2, hn3, hn4⟩ := num_back ok.sB hgn3
                rw [HNB.out] at hn3
                have HN1 := Lib.hid hn1
                have HN2 := Lib.hid hn2
                clear hn1 hn2 hgn3 c0 c1 c2 c3 ok
                unfold gnVal
                go_wp2_with fail
                refine (num_any _ _).mono ?_
                rintro e w' ⟨rfl, rfl⟩
                go_wp2_with fail
                refine (num_yes m _ hn4).mono ?_
                rintro e w12 ⟨v12, rfl, ho12, hb12⟩
                have hb13 := hb11.trans (hb12.mono hb11.size)
                have ho13 := own_cast ho12 ((u8s_length _).trans HN2.out)
                obtain ⟨A12, d12, rfl, hd12, _, hr12, _, hl12⟩ := own_val ho13
                clear hl12 ho12 ho13 hb12
                obtain ⟨ok, c0, c1, c2, c3⟩ := HA.out _ hb13
                try simp only at c0 c1 c2 c3
                have hr14 : Rd w12 AB (u8s (vnum m)) := by have := ok.rB.take k3; rw [← HN1.out]; simpa [u8s, List.map_take] using this
                have hcB : k3 ≤ cB := by have h1 : B.length ≤ cB := ok.hB; rw [HNB.out] at h1; omega
                have hmB : cB ≤ 9223372036854775807 := ok.mB
                go_wp2_with fail
                refine (num_any _ _).mono ?_
                rintro e w' ⟨rfl, rfl⟩
                go_wp2_with fail
                refine (eqBytes_same A12 AB d12 cB k3 (vnum m) _ HN2.out hr12 hr14 (by omega)).mono ?_
                rintro e w' ⟨rfl, dx, rfl⟩
                clear c0 c1 c2 c3 ok
                go_wp2_with fail
                go_roundw
                case rel => exact ⟨k + 1, by go_num, by omega, by omega, below_n hb13 dx⟩
                case measure => simp [intOf]; omega
      · have i1 : (k : Int) < (len : Int) := by omega
        have i2 : ¬ ((k : Int) < 12) := by omega
        go_wp2_with fail
        refine (wakes_any _).mono ?_
        rintro e w' ⟨rfl, hbw⟩
        go_wp2_with fail
        go_ret
        exact ⟨rfl, hb.trans (hbw.mono hb.size)⟩
    · have i1 : ¬ ((k : Int) < (len : Int)) := by omega
      go_wp2_with fail
      refine (wakes_any _).mono ?_
      rintro e w' ⟨rfl, hbw⟩
      go_wp2_with fail
      go_ret
      exact ⟨rfl, hb.trans (hbw.mono hb.size)⟩

set_option maxRecDepth 100000 in
theorem wireAny_lifted (os : Os) (started : os.Started) (H : Type) (enc : TypeId × Value → H) :
    ReturnsInHanded {} Try.checked os 7 .any (Rows.wireAnySpec.pre6 enc Try.prog Try.f7 Rows.wireAnyRow.domain false) (Rows.wireAnySpec.post enc Try.prog Try.f7 false true false false) := by
  refine returnsInHanded_of_change_sized (C := Try.checked) (by kernel_rfl) started (by kernel_rfl) Try.func7
    (ChangeSpec.witness6 (enc := enc) (C := Try.checked) false ⟨#[], #[.slice none 0 0], []⟩ 8 (by kernel_rfl) (by kernel_rfl) (by kernel_rfl) (by kernel_rfl)) ?_
  intro W base args ds gs before hval0 hW hcnd hsz0 _
  have hval : ∀ (j : Nat) t v, Try.f7.params[j]? = some t → args[j]? = some v → Value.okWide Try.prog W .any base t v := hval0
  have hsz : (DataW.weightsEach Try.prog (Try.f7.params.toList ++ Rows.wireAnySpec.plain.varTypes Try.prog) (ds ++ gs)).all (· ≤ reachBytes) = true := hsz0
  have hW' := hW
  obtain ⟨p, q, hA0, hV, rfl, hfz, hnd⟩ := hW
  have hA : DataW.TrodAll enc Try.prog W 0 (fun _ => true) true Try.f7.params.toList args.toList ds p := hA0
  rw [Try.params7] at hA hval hsz
  obtain ⟨v0, d0, rfl, rfl, h0⟩ := trodAll_one hA
  obtain ⟨rfl, rfl⟩ := trodVars_none hV
  obtain ⟨a0, len, cap, rfl⟩ := okWide_slice Try.underlying22 (hval 0 22 v0 rfl rfl)
  have k0 := h0
  have lt0 : ∀ x ∈ p, x.block < W.heap.size := by obtain ⟨m, hm⟩ := k0; exact DataW.trod_lt m _ _ _ hm
  obtain ⟨fuel, hf⟩ := h0
  have hwt : ∀ n ∈ d0.weights Try.prog 22, n ≤ reachBytes := fun n hn => by
    have h1 := List.all_eq_true.1 hsz n (DataW.weights_mem_each (j := 0) (t := 22) (d := d0) rfl rfl n hn)
    simpa using h1
  clear hA0 hval0 hsz0 hsz
  refine (wireAny_walk a0 len cap W (open_asks hf hwt)).mono fun e W' ⟨he, bel⟩ => ?_
  subst he
  exact ⟨_, rfl, _, _, _, [], _, [], hW', trodAll_mk1 (shut_bool Try.underlying4 _), trodAll_mk1 (Below.trod (by kernel_rfl) (by kernel_rfl) (of_decide_eq_true (by kernel_rfl)) k0 bel lt0), rfl, bel.frame _, fun h => by cases h⟩

theorem wireAny_holds : Rows.WireAnySaid :=
  OpenClaim.holds_of_wide 7 Try.f7 rfl rfl rfl rfl rfl rfl rfl ⟨rfl, rfl, rfl, rfl, rfl⟩ rfl rfl rfl rfl rfl (by kernel_rfl) Try.func7 (by kernel_rfl)
    (of_decide_eq_true (by kernel_rfl)) (by unfold Func.isWrapper; first | (rw [if_pos (by decide +kernel)]; kernel_rfl) | (rw [if_neg (by decide +kernel)]; exact ⟨rfl, rfl⟩))
    (fun os started H enc _ => wireAny_lifted os started H enc)

end Go.Proofs.Ytggohjdgenjijaa
