/-
  The walk of 'BatchParses', out of what it asks of package batch.
-/
import Derived.Test.YtkkamcdilpcehaaPageParse
import Derived.Test.YtkkamcdilpcehaaBWakes
namespace Go.Proofs.Ytkkamcdilpcehaa
open Go.RowKit

set_option maxRecDepth 100000 in
set_option maxHeartbeats 8000000 in
theorem batchParses_walk (K : BContracts) (a : Option Addr) (len cap : Nat) (w : World) (ha : BAsks w a len cap) :
    Calls Try.prog 5 #[.slice a len cap] w fun e w' => e = .returned (.bool true) ∧ Below w.heap.size w w' := by
  obtain ⟨hl, hm, hi⟩ := ha
  unfold maxLen at hm
  have HI := Lib.hid hi
  clear hi
  go_enter Try.func5, Try.ntmps5
  go_wp2_with fail
  go_loopw [3] (fun i wr => ∃ k : Nat, i = .int .i64 k ∧ k ≤ len ∧ k ≤ 8 ∧ Below w.heap.size w wr) (fun i _ => 8 - (intOf i).toNat)
  case atStart => exact ⟨0, rfl, by omega, by omega, Below.refl _ _⟩
  case round =>
    obtain ⟨k, rfl, hk, hkm, hb⟩ := hrel
    by_cases hlt : k < len
    · by_cases hmo : k < 8
      · have i0 : (0 : Int) ≤ (k : Int) := by omega
        have i1 : (k : Int) < (len : Int) := by omega
        have i2 : (k : Int) < 8 := by omega
        obtain ⟨b, off, ⟨ba, N, TA, cT, L, XA, cX, X⟩, nT, nX, rfl, (hnT : L.length = nT), (hnX : X.length = nX), hA⟩ := (HI.out k hlt).all
        have HA := Lib.hid hA
        have HNT := Lib.hid hnT
        have HNX := Lib.hid hnX
        clear hA hnT hnX
        have hTc : nT ≤ cT := by have := (HA.out _ hb).1.hT; have := HNT.out; simp only at *; omega
        have hTm : cT ≤ maxLen := (HA.out _ hb).1.mT
        have hXc : nX ≤ cX := by have := (HA.out _ hb).1.hX; have := HNX.out; simp only at *; omega
        have hXm : cX ≤ maxLen := (HA.out _ hb).1.mX
        obtain ⟨ok, c0, c1, c2, c3⟩ := HA.out _ hb
        try simp only at c0 c1 c2 c3
        go_wp2_with fail
        refine (bheavy_any ba N TA cT nT L XA cX nX _ HNT.out ok.rT ok.sT hTc hTm).mono ?_
        rintro e w1 ⟨hv, rfl, hq1, hlight⟩
        have HLI := Lib.hid hlight
        have hb1 := hb.trans (hq1.mono hb.size)
        clear hlight c0 c1 c2 c3 ok hq1 hb
        cases hv with
        | true =>
          go_wp2_with fail
          go_ret
          exact ⟨rfl, hb1⟩
        | false =>
          obtain ⟨hnT5, hnX5⟩ := HLI.out rfl
          have hnT9 : nT ≤ 5000 := by omega
          clear HLI
          obtain ⟨ok, c0, c1, c2, c3⟩ := HA.out _ hb1
          try simp only at c0 c1 c2 c3
          go_wp2_with fail
          refine (copyBytes_any XA cX nX X _ HNX.out ok.rX hXc (by omega)).mono ?_
          rintro e w2 ⟨v2, rfl, ho2, hq2⟩
          have hb2 := hb1.trans (hq2.mono hb1.size)
          have ho2b := own_cast ho2 ((u8s_length _).trans HNX.out)
          obtain ⟨A2, d2, rfl, hd2, hm2, hr2, _, hl2⟩ := own_val ho2b
          have hyX : Byts X := ok.sX
          clear hl2 ho2 ho2b hq2 hb1
          clear c0 c1 c2 c3 ok
          have hb2s := hb2.size
          cases hpar : parseB X with
          | none =>
            have HPA := Lib.hid hpar
            clear hpar
            go_wp2_with fail
            refine (K.parse_no A2 d2 nX X _ HPA.out HNX.out hr2 hyX hd2 hm2 (by omega)).mono ?_
            rintro e w3 ⟨rfl, hq3⟩
            have hb3 := hb2.trans (hq3.mono hb2.size)
            have hr3 := hr2.below hq3
            clear hq3 hr2
            obtain ⟨wb, hwb⟩ : ∃ wb, wb = w3.alloc (.cells #[.int .i64 0, .int .i64 0, .slice none 0 0] 26) := ⟨_, rfl⟩
            have HPB := Lib.hid (box_three hwb)
            have hbb : Below w.heap.size w wb := by rw [hwb]; exact hb3.alloc hb3.size _
            have hrb : Rd wb A2 (u8s X) := by rw [hwb]; exact hr3.alloc _
            have hgb : w3.heap.size < wb.heap.size := by rw [hwb]; simp
            obtain ⟨ok, c0, c1, c2, c3⟩ := HA.out (w3.alloc (.cells #[.int .i64 0, .int .i64 0, .slice none 0 0] 26)) (hb3.alloc hb3.size _)
            try simp only at c0 c1 c2 c3
            go_wp2_with fail
            rw [← hwb]
            clear hwb hr3 hb3 hb2
            refine (rparse_any XA cX nX X _ HNX.out ((HA.out _ hbb).1.rX) hyX hXc hXm (by omega)).mono ?_
            rintro e w4 hgot
            rw [HPA.out] at hgot
            clear c0 c1 c2 c3 ok
            obtain ⟨hq4, rfl⟩ := hgot
            have hb4 := hbb.trans (hq4.mono hbb.size)
            have hrb4 := hrb.below hq4
            clear hrb
            obtain ⟨wc, hwc⟩ : ∃ wc, wc = w4.alloc (.cells #[.int .i64 0, .int .i64 0, .slice none 0 0] 26) := ⟨_, rfl⟩
            have HPC := Lib.hid (box_three hwc)
            have hbc : Below w.heap.size w wc := by rw [hwc]; exact hb4.alloc hb4.size _
            have hxc : Below wb.heap.size wb wc := by rw [hwc]; exact hq4.alloc hq4.size _
            have hrc : Rd wc A2 (u8s X) := by rw [hwc]; exact hrb4.alloc _
            go_wp2_with fail
            rw [← hwc]
            clear hwc hrb4 hb4 hq4 hbb
            refine (num_any _ _).mono ?_
            rintro e w' ⟨rfl, rfl⟩
            go_wp2_with fail
            refine (num_any _ _).mono ?_
            rintro e w' ⟨rfl, rfl⟩
            obtain ⟨q0, q1, q2⟩ := HPB.out _ hxc
            obtain ⟨p0, p1, p2⟩ := HPC.out _ (Below.refl _ _)
            go_wp2_with fail
            refine (eqBatch_same 0 0 none none 0 0 0 [] _ rfl (Rd.nil _ _) (Rd.nil _ _) (by omega)).mono ?_
            rintro e w5 ⟨rfl, hq5⟩
            have hb5 := hbc.trans (hq5.mono hbc.size)
            have hr5 := hrc.below hq5
            have hx5 := hxc.trans (hq5.mono hxc.size)
            clear hq5 hrc hbc q0 q1 q2 p0 p1 p2
            obtain ⟨ok, c0, c1, c2, c3⟩ := HA.out _ hb5
            try simp only at c0 c1 c2 c3
            go_wp2_with fail
            refine (eqBytes_same A2 XA d2 cX nX X _ HNX.out hr5 ok.rX (by omega)).mono ?_
            rintro e w' ⟨rfl, dq, rfl⟩
            obtain ⟨q0, q1, q2⟩ := HPB.out _ (below_n hx5 dq)
            clear c0 c1 c2 c3 ok
            go_wp2_with fail
            refine (spoilTxs_any w.heap.size (.slice none 0 0) 0 [] _ (World.ownsRow_nil _ _ _ _) (below_n hb5 dq).size (by omega)).mono ?_
            rintro e w6 ⟨rfl, hq6⟩
            go_wp2_with fail
            go_roundw
            case rel => exact ⟨k + 1, by go_num, by omega, by omega, (below_n hb5 dq).trans hq6⟩
            case measure => simp [intOf]; omega
          | some pp =>
            obtain ⟨pa, pN, pL⟩ := pp
            have HPA := Lib.hid hpar
            clear hpar
            have hpl8 : pL.length ≤ 8 := by have := (bat_all (parse_get hyX HPA.out).1).2.2.1; omega
            go_wp2_with fail
            refine (K.parse_yes A2 d2 nX X pa pN pL _ HPA.out HNX.out hr2 hyX hd2 hm2 (by omega)).mono ?_
            rintro e w3 ⟨A3, c3, rfl, ho3, hq3⟩
            have hb3 := hb2.trans (hq3.mono hb2.size)
            have hr3 := hr2.below hq3
            clear hq3 hr2
            obtain ⟨wb, hwb⟩ : ∃ wb, wb = w3.alloc (.cells #[.int .i64 pa, .int .i64 pN, .slice A3 pL.length c3] 26) := ⟨_, rfl⟩
            have HPB := Lib.hid (box_three hwb)
            have hbb : Below w.heap.size w wb := by rw [hwb]; exact hb3.alloc hb3.size _
            have hrb : Rd wb A2 (u8s X) := by rw [hwb]; exact hr3.alloc _
            have hgb : w3.heap.size < wb.heap.size := by rw [hwb]; simp
            have hob := ho3.alloc (.cells #[.int .i64 pa, .int .i64 pN, .slice A3 pL.length c3] 26)
            rw [← hwb] at hob
            obtain ⟨ok, c0, c1, c2, c3⟩ := HA.out (w3.alloc (.cells #[.int .i64 pa, .int .i64 pN, .slice A3 pL.length c3] 26)) (hb3.alloc hb3.size _)
            try simp only at c0 c1 c2 c3
            go_wp2_with fail
            rw [← hwb]
            clear hwb hr3 hb3 hb2
            refine (rparse_any XA cX nX X _ HNX.out ((HA.out _ hbb).1.rX) hyX hXc hXm (by omega)).mono ?_
            rintro e w4 hgot
            rw [HPA.out] at hgot
            clear c0 c1 c2 c3 ok
            obtain ⟨hq4, A4, c4, rfl, ho4⟩ := hgot
            have hob4 := ownS_below hob hq4
            clear hob ho3
            have hb4 := hbb.trans (hq4.mono hbb.size)
            have hrb4 := hrb.below hq4
            clear hrb
            obtain ⟨wc, hwc⟩ : ∃ wc, wc = w4.alloc (.cells #[.int .i64 pa, .int .i64 pN, .slice A4 pL.length c4] 26) := ⟨_, rfl⟩
            have HPC := Lib.hid (box_three hwc)
            have hbc : Below w.heap.size w wc := by rw [hwc]; exact hb4.alloc hb4.size _
            have hxc : Below wb.heap.size wb wc := by rw [hwc]; exact hq4.alloc hq4.size _
            have hrc : Rd wc A2 (u8s X) := by rw [hwc]; exact hrb4.alloc _
            have hoc3 := hob4.alloc (.cells #[.int .i64 pa, .int .i64 pN, .slice A4 pL.length c4] 26)
            have hoc4 := ho4.alloc (.cells #[.int .i64 pa, .int .i64 pN, .slice A4 pL.length c4] 26)
            rw [← hwc] at hoc3 hoc4
            go_wp2_with fail
            rw [← hwc]
            clear hwc hrb4 hb4 hq4 hbb
            refine (num_any _ _).mono ?_
            rintro e w' ⟨rfl, rfl⟩
            obtain ⟨q0, q1, q2⟩ := HPB.out _ hxc
            obtain ⟨p0, p1, p2⟩ := HPC.out _ (Below.refl _ _)
            obtain ⟨_, _, hv3, _, _, hrd3, _, _⟩ := ownS_slice hoc3
            cases hv3
            obtain ⟨_, _, hv4, _, _, hrd4, _, _⟩ := ownS_slice hoc4
            cases hv4
            go_wp2_with fail
            refine (eqBatch_same pa pN A3 A4 c3 c4 pL.length pL _ rfl hrd3 hrd4 (by omega)).mono ?_
            rintro e w5 ⟨rfl, hq5⟩
            have hb5 := hbc.trans (hq5.mono hbc.size)
            have hr5 := hrc.below hq5
            have hx5 := hxc.trans (hq5.mono hxc.size)
            have ho5 := ownS_below hoc3 hq5
            clear hq5 hrc hbc q0 q1 q2 p0 p1 p2
            obtain ⟨ok, c0, c1, c2, c3⟩ := HA.out _ hb5
            try simp only at c0 c1 c2 c3
            go_wp2_with fail
            refine (eqBytes_same A2 XA d2 cX nX X _ HNX.out hr5 ok.rX (by omega)).mono ?_
            rintro e w' ⟨rfl, dq, rfl⟩
            obtain ⟨q0, q1, q2⟩ := HPB.out _ (below_n hx5 dq)
            clear c0 c1 c2 c3 ok
            go_wp2_with fail
            refine (spoilTxs_any w.heap.size _ pL.length (txs pL) _ (ownS_n (ownS_more ho5 (by have := hb2s; omega)) dq) (below_n hb5 dq).size (by omega)).mono ?_
            rintro e w6 ⟨rfl, hq6⟩
            go_wp2_with fail
            go_roundw
            case rel => exact ⟨k + 1, by go_num, by omega, by omega, (below_n hb5 dq).trans hq6⟩
            case measure => simp [intOf]; omega
      · have i1 : (k : Int) < (len : Int) := by omega
        have i2 : ¬ ((k : Int) < 8) := by omega
        go_wp2_with fail
        refine (wakes_any K _).mono ?_
        rintro e w' ⟨rfl, hbw⟩
        go_wp2_with fail
        go_ret
        exact ⟨rfl, hb.trans (hbw.mono hb.size)⟩
    · have i1 : ¬ ((k : Int) < (len : Int)) := by omega
      go_wp2_with fail
      refine (wakes_any K _).mono ?_
      rintro e w' ⟨rfl, hbw⟩
      go_wp2_with fail
      go_ret
      exact ⟨rfl, hb.trans (hbw.mono hb.size)⟩

end Go.Proofs.Ytkkamcdilpcehaa
