/-
  The walk of 'HeaderParses', out of what it asks of package header.
-/
import Derived.Test.YtkgbnohmhjljoaaHPage
import Derived.Test.YtkgbnohmhjljoaaHAsk
import Derived.Test.YtkgbnohmhjljoaaHParse
import Derived.Test.YtkgbnohmhjljoaaHCopy
namespace Go.Proofs.Ytkgbnohmhjljoaa
open Go.RowKit

set_option maxRecDepth 100000 in
set_option maxHeartbeats 8000000 in
theorem headerParses_walk (K : HContracts) (a : Option Addr) (len cap : Nat) (w : World) (ha : HAsks w a len cap) :
    Calls Try.prog 5 #[.slice a len cap] w fun e w' => e = .returned (.bool true) ∧ Below w.heap.size w w' := by
  obtain ⟨hl, hm, hi⟩ := ha
  unfold maxLen at hm
  have HI := Lib.hid hi
  clear hi
  go_enter Try.func5, Try.ntmps5
  go_wp2_with fail
  go_loopw [3] (fun i wr => ∃ k : Nat, i = .int .i64 k ∧ k ≤ len ∧ k ≤ 8 ∧ Below w.heap.size w wr) (fun i _ => 8 - (intOf i).toNat)
  case atStart => exact ⟨0, rfl, by omega, by omega, Below.refl _ _⟩
  case round =>
    obtain ⟨k, rfl, hk, hkm, hb⟩ := hrel
    by_cases hlt : k < len
    · by_cases hmo : k < 8
      · have i0 : (0 : Int) ≤ (k : Int) := by omega
        have i1 : (k : Int) < (len : Int) := by omega
        have i2 : (k : Int) < 8 := by omega
        obtain ⟨b, off, ⟨ba, br, BA, cB, B, PA, cP, P, bd, SA, cS, S, N, XA, cX, X⟩, nB, nP, nS, nX, rfl, (hnB : B.length = nB), (hnP : P.length = nP), (hnS : S.length = nS), (hnX : X.length = nX), hA⟩ := (HI.out k hlt).all
        have HNB := Lib.hid hnB
        have HNP := Lib.hid hnP
        have HNS := Lib.hid hnS
        have HNX := Lib.hid hnX
        clear hnB hnP hnS hnX
        have hXc : nX ≤ cX := by have := (hA _ hb).1.hX; have := HNX.out; simp only at *; omega
        have hXm : cX ≤ maxLen := (hA _ hb).1.mX
        have hBc : nB ≤ cB := by have := (hA _ hb).1.nB.hc; have := HNB.out; simp only at *; omega
        have hPc : nP ≤ cP := by have := (hA _ hb).1.nP.hc; have := HNP.out; simp only at *; omega
        have hSc : nS ≤ cS := by have := (hA _ hb).1.nS.hc; have := HNS.out; simp only at *; omega
        have hBz : nB ≤ 140737488351232 := by have := (hA _ hb).1.zB; have := HNB.out; simp only at *; omega
        have hPz : nP ≤ 140737488351232 := by have := (hA _ hb).1.zP; have := HNP.out; simp only at *; omega
        have hSz : nS ≤ 140737488351232 := by have := (hA _ hb).1.zS; have := HNS.out; simp only at *; omega
        obtain ⟨ws, hws⟩ : ∃ ws, ws = wr := ⟨_, rfl⟩
        subst hws
        have hb0 := hb
        have HA := Lib.hid (fun wX (h : Below ws.heap.size ws wX) => hA wX (hb0.trans (h.mono hb0.size)))
        obtain ⟨ok, c0, c1, c2, c3, c4, c5, c6, c7⟩ := hA _ hb
        try simp only at c0 c1 c2 c3 c4 c5 c6 c7
        go_wp2_with fail
        clear c0 c1 c2 c3 c4 c5 c6 c7 ok hb
        have HAW := Lib.hid (hA w (Below.refl _ _))
        clear hA
        have HRB : Hid (∀ wX, Below ws.heap.size ws wX → Rd wX BA (i64s B)) := fun wX h => (HA.out _ h).1.nB.hr
        have HRP : Hid (∀ wX, Below ws.heap.size ws wX → Rd wX PA (i64s P)) := fun wX h => (HA.out _ h).1.nP.hr
        have HRS : Hid (∀ wX, Below ws.heap.size ws wX → Rd wX SA (i64s S)) := fun wX h => (HA.out _ h).1.nS.hr
        have HHI : Hid (nB ≤ 499 → nP ≤ 499 → ∀ wX, Below ws.heap.size ws wX → HdrIn wX BA cB nB B PA cP nP P) := fun h1 h2 wX h => by
          have ok := (HA.out _ h).1
          have e1 := HNB.out
          have e2 := HNP.out
          subst e1 e2
          exact ⟨ok.nB, ok.nP, by omega, by omega⟩
        refine (hheavy_any ba br BA cB nB PA cP nP bd SA cS nS N XA cX nX _ hBz hPz hSz).mono ?_
        rintro e w1 ⟨hv, rfl, hb1, hlight⟩
        have HLI := Lib.hid hlight
        clear hlight
        cases hv with
        | true =>
          go_wp2_with fail
          go_ret
          exact ⟨rfl, hb0.trans (hb1.mono hb0.size)⟩
        | false =>
          obtain ⟨hn3, hnX5⟩ := HLI.out rfl
          have HIN := Lib.hid (HHI.out (by omega) (by omega))
          have hnB9 : nB ≤ 499 := by omega
          have hnP9 : nP ≤ 499 := by omega
          have hnS9 : nS ≤ 499 := by omega
          clear HLI HHI hn3 hBz hPz hSz
          obtain ⟨ok, c0, c1, c2, c3, c4, c5, c6, c7⟩ := HA.out _ hb1
          try simp only at c0 c1 c2 c3 c4 c5 c6 c7
          go_wp2_with fail
          refine (copyBytes_any XA cX nX X _ HNX.out ok.rX hXc (by omega)).mono ?_
          rintro e w2 ⟨v2, rfl, ho2, hq2⟩
          have hb2 := hb1.trans (hq2.mono hb1.size)
          have ho2b := own_cast ho2 ((u8s_length _).trans HNX.out)
          obtain ⟨A2, d2, rfl, hd2, hm2, hr2, _, hl2⟩ := own_val ho2b
          have hyX : Byts X := ok.sX
          clear hl2 ho2 ho2b hq2 hb1
          clear c0 c1 c2 c3 c4 c5 c6 c7 ok
          have hb2s := hb2.size
          cases hpar : parseH X with
          | none =>
            have HPA := Lib.hid hpar
            clear hpar
            go_wp2_with fail
            refine (K.parse_no A2 d2 nX X _ HPA.out HNX.out hr2 hyX hd2 hm2 (by omega)).mono ?_
            rintro e w3 ⟨rfl, hq3⟩
            have hb3 := hb2.trans (hq3.mono hb2.size)
            have hr3 := hr2.below hq3
            clear hq3 hr2
            obtain ⟨wb, hwb⟩ : ∃ wx, wx = w3.alloc (.cells #[.int .i64 0, .int .i64 0, .slice none 0 0, .slice none 0 0] 25) := ⟨_, rfl⟩
            have HPB := Lib.hid (hbox_new hwb)
            have hbb : Below ws.heap.size ws wb := by rw [hwb]; exact hb3.alloc hb3.size _
            have hrb : Rd wb A2 (u8s X) := by rw [hwb]; exact hr3.alloc _
            obtain ⟨ok, c0, c1, c2, c3, c4, c5, c6, c7⟩ := HA.out (w3.alloc (.cells #[.int .i64 0, .int .i64 0, .slice none 0 0, .slice none 0 0] 25)) (hb3.alloc hb3.size _)
            try simp only at c0 c1 c2 c3 c4 c5 c6 c7
            go_wp2_with fail
            rw [← hwb]
            clear hwb hr3 hb3 hb2
            refine (rparseH_any XA cX nX X _ HNX.out ((HA.out _ hbb).1.rX) hyX hXc hXm (by omega)).mono ?_
            rintro e w4 hgot
            clear c0 c1 c2 c3 c4 c5 c6 c7 ok
            obtain ⟨hq4, rfl⟩ : RParsedH _ none e w4 := by have h := hgot; rw [HPA.out] at h; exact h
            clear hgot
            have hb4 := hbb.trans (hq4.mono hbb.size)
            have hrb4 := hrb.below hq4
            clear hrb
            obtain ⟨wc, hwc⟩ : ∃ wx, wx = w4.alloc (.cells #[.int .i64 0, .int .i64 0, .slice none 0 0, .slice none 0 0] 25) := ⟨_, rfl⟩
            have HPC := Lib.hid (hbox_new hwc)
            have hbc : Below ws.heap.size ws wc := by rw [hwc]; exact hb4.alloc hb4.size _
            have hxc : Below wb.heap.size wb wc := by rw [hwc]; exact hq4.alloc hq4.size _
            have hrc : Rd wc A2 (u8s X) := by rw [hwc]; exact hrb4.alloc _
            go_wp2_with fail
            rw [← hwc]
            clear hwc hrb4 hb4 hq4 hbb
            refine (hnum_any _ _).mono ?_
            rintro e w' ⟨rfl, rfl⟩
            go_wp2_with fail
            refine (hnum_any _ _).mono ?_
            rintro e w' ⟨rfl, rfl⟩
            obtain ⟨q0, q1, q2, q3⟩ := HPB.out _ hxc
            obtain ⟨p0, p1, p2, p3⟩ := HPC.out _ (Below.refl _ _)
            go_wp2_with fail
            refine (reqHdr_is true 0 0 none 0 0 [] none 0 0 [] 0 0 none 0 0 [] none 0 0 [] _ rfl rfl (Rd.nil _ _) (by omega) rfl (Rd.nil _ _) (by omega) rfl (Rd.nil _ _) (by omega) rfl (Rd.nil _ _) (by omega)).mono ?_
            rintro e w5 ⟨rfl, hq5⟩
            have hb5 := hbc.trans (hq5.mono hbc.size)
            have hr5 := hrc.below hq5
            have hx5 := hxc.trans (hq5.mono hxc.size)
            clear hq5 hrc hbc q0 q1 q2 q3 p0 p1 p2 p3
            obtain ⟨ok, c0, c1, c2, c3, c4, c5, c6, c7⟩ := HA.out _ hb5
            try simp only at c0 c1 c2 c3 c4 c5 c6 c7
            go_wp2_with fail
            refine (eqBytes_same A2 XA d2 cX nX X _ HNX.out hr5 ok.rX (by omega)).mono ?_
            rintro e w' ⟨rfl, dq, rfl⟩
            clear c0 c1 c2 c3 c4 c5 c6 c7 ok
            obtain ⟨q0, q1, q2, q3⟩ := HPB.out _ (below_n hx5 dq)
            go_wp2_with fail
            refine (spoilHdr_any ws.heap.size 0 0 none 0 0 [] none 0 0 [] _ (World.ownsRow_nil _ _ _ _) (World.ownsRow_nil _ _ _ _) (fun _ h => by cases h) (below_n hb5 dq).size (by omega) (by omega)).mono ?_
            rintro e w6 ⟨rfl, hq6⟩
            go_wp2_with fail
            go_roundw
            case rel => exact ⟨k + 1, by go_num, by omega, by omega, hb0.trans (((below_n hb5 dq).trans hq6).mono hb0.size)⟩
            case measure => simp [intOf]; omega
          | some pp =>
            obtain ⟨pa, pr, pB, pP⟩ := pp
            have HPA := Lib.hid hpar
            clear hpar
            obtain ⟨hqB, hqP⟩ : pB.length ≤ 8 ∧ pP.length ≤ 16 := (wide_i64 (parseH_get hyX HPA.out).1).2.2
            go_wp2_with fail
            refine (K.parse_yes A2 d2 nX X pa pr pB pP _ HPA.out HNX.out hr2 hyX hd2 hm2 (by omega)).mono ?_
            rintro e w3 ⟨B3, e3, P3, f3, rfl, hoB3, hoP3, hdis, hq3⟩
            have hb3 := hb2.trans (hq3.mono hb2.size)
            have hr3 := hr2.below hq3
            clear hq3 hr2
            obtain ⟨wb, hwb⟩ : ∃ wx, wx = w3.alloc (.cells #[.int .i64 pa, .int .i64 pr, .slice B3 pB.length e3, .slice P3 pP.length f3] 25) := ⟨_, rfl⟩
            have HPB := Lib.hid (hbox_new hwb)
            have hbb : Below ws.heap.size ws wb := by rw [hwb]; exact hb3.alloc hb3.size _
            have hrb : Rd wb A2 (u8s X) := by rw [hwb]; exact hr3.alloc _
            have hoBb := hoB3.alloc (.cells #[.int .i64 pa, .int .i64 pr, .slice B3 pB.length e3, .slice P3 pP.length f3] 25)
            have hoPb := hoP3.alloc (.cells #[.int .i64 pa, .int .i64 pr, .slice B3 pB.length e3, .slice P3 pP.length f3] 25)
            rw [← hwb] at hoBb hoPb
            obtain ⟨ok, c0, c1, c2, c3, c4, c5, c6, c7⟩ := HA.out (w3.alloc (.cells #[.int .i64 pa, .int .i64 pr, .slice B3 pB.length e3, .slice P3 pP.length f3] 25)) (hb3.alloc hb3.size _)
            try simp only at c0 c1 c2 c3 c4 c5 c6 c7
            go_wp2_with fail
            rw [← hwb]
            clear hwb hr3 hb3 hb2
            clear hoB3 hoP3
            refine (rparseH_any XA cX nX X _ HNX.out ((HA.out _ hbb).1.rX) hyX hXc hXm (by omega)).mono ?_
            rintro e w4 hgot
            clear c0 c1 c2 c3 c4 c5 c6 c7 ok
            obtain ⟨hq4, B4, e4, P4, f4, rfl, hoB4, hoP4⟩ : RParsedH _ (some (pa, pr, pB, pP)) e w4 := by have h := hgot; rw [HPA.out] at h; exact h
            have hoBb4 := ownS_below hoBb hq4
            have hoPb4 := ownS_below hoPb hq4
            clear hoBb hoPb
            clear hgot
            have hb4 := hbb.trans (hq4.mono hbb.size)
            have hrb4 := hrb.below hq4
            clear hrb
            obtain ⟨wc, hwc⟩ : ∃ wx, wx = w4.alloc (.cells #[.int .i64 pa, .int .i64 pr, .slice B4 pB.length e4, .slice P4 pP.length f4] 25) := ⟨_, rfl⟩
            have HPC := Lib.hid (hbox_new hwc)
            have hbc : Below ws.heap.size ws wc := by rw [hwc]; exact hb4.alloc hb4.size _
            have hxc : Below wb.heap.size wb wc := by rw [hwc]; exact hq4.alloc hq4.size _
            have hrc : Rd wc A2 (u8s X) := by rw [hwc]; exact hrb4.alloc _
            have hoBb4c := hoBb4.alloc (.cells #[.int .i64 pa, .int .i64 pr, .slice B4 pB.length e4, .slice P4 pP.length f4] 25)
            rw [← hwc] at hoBb4c
            have hoPb4c := hoPb4.alloc (.cells #[.int .i64 pa, .int .i64 pr, .slice B4 pB.length e4, .slice P4 pP.length f4] 25)
            rw [← hwc] at hoPb4c
            have hoB4c := hoB4.alloc (.cells #[.int .i64 pa, .int .i64 pr, .slice B4 pB.length e4, .slice P4 pP.length f4] 25)
            rw [← hwc] at hoB4c
            have hoP4c := hoP4.alloc (.cells #[.int .i64 pa, .int .i64 pr, .slice B4 pB.length e4, .slice P4 pP.length f4] 25)
            rw [← hwc] at hoP4c
            clear hoBb4 hoPb4 hoB4 hoP4
            go_wp2_with fail
            rw [← hwc]
            clear hwc hrb4 hb4 hq4 hbb
            refine (hnum_any _ _).mono ?_
            rintro e w' ⟨rfl, rfl⟩
            obtain ⟨q0, q1, q2, q3⟩ := HPB.out _ hxc
            obtain ⟨p0, p1, p2, p3⟩ := HPC.out _ (Below.refl _ _)
            obtain ⟨_, _, hv0, _, _, hrr0, _, _⟩ := own_val hoBb4c
            cases hv0
            obtain ⟨_, _, hv1, _, _, hrr1, _, _⟩ := own_val hoPb4c
            cases hv1
            obtain ⟨_, _, hv2, _, _, hrr2, _, _⟩ := own_val hoB4c
            cases hv2
            obtain ⟨_, _, hv3, _, _, hrr3, _, _⟩ := own_val hoP4c
            cases hv3
            go_wp2_with fail
            refine (reqHdr_is true pa pr B3 e3 pB.length pB P3 f3 pP.length pP pa pr B4 e4 pB.length pB P4 f4 pP.length pP _ (eqHdr_same _ _ _ _) rfl hrr0 (by omega) rfl hrr1 (by omega) rfl hrr2 (by omega) rfl hrr3 (by omega)).mono ?_
            rintro e w5 ⟨rfl, hq5⟩
            have hb5 := hbc.trans (hq5.mono hbc.size)
            have hr5 := hrc.below hq5
            have hx5 := hxc.trans (hq5.mono hxc.size)
            have hoB5 := ownS_below hoBb4c hq5
            have hoP5 := ownS_below hoPb4c hq5
            clear hrr0 hrr1 hrr2 hrr3
            clear hq5 hrc hbc q0 q1 q2 q3 p0 p1 p2 p3
            obtain ⟨ok, c0, c1, c2, c3, c4, c5, c6, c7⟩ := HA.out _ hb5
            try simp only at c0 c1 c2 c3 c4 c5 c6 c7
            go_wp2_with fail
            refine (eqBytes_same A2 XA d2 cX nX X _ HNX.out hr5 ok.rX (by omega)).mono ?_
            rintro e w' ⟨rfl, dq, rfl⟩
            clear c0 c1 c2 c3 c4 c5 c6 c7 ok
            obtain ⟨q0, q1, q2, q3⟩ := HPB.out _ (below_n hx5 dq)
            go_wp2_with fail
            refine (spoilHdr_any ws.heap.size pa pr B3 e3 pB.length pB P3 f3 pP.length pP _ (ownS_n (ownS_more hoB5 hb2s) dq) (ownS_n (ownS_more hoP5 hb2s) dq) hdis (below_n hb5 dq).size (by omega) (by omega)).mono ?_
            rintro e w6 ⟨rfl, hq6⟩
            go_wp2_with fail
            go_roundw
            case rel => exact ⟨k + 1, by go_num, by omega, by omega, hb0.trans (((below_n hb5 dq).trans hq6).mono hb0.size)⟩
            case measure => simp [intOf]; omega
      · have i1 : (k : Int) < (len : Int) := by omega
        have i2 : ¬ ((k : Int) < 8) := by omega
        go_wp2_with fail
        refine (hwakes_any K _).mono ?_
        rintro e w' ⟨rfl, hbw⟩
        go_wp2_with fail
        go_ret
        exact ⟨rfl, hb.trans (hbw.mono hb.size)⟩
    · have i1 : ¬ ((k : Int) < (len : Int)) := by omega
      go_wp2_with fail
      refine (hwakes_any K _).mono ?_
      rintro e w' ⟨rfl, hbw⟩
      go_wp2_with fail
      go_ret
      exact ⟨rfl, hb.trans (hbw.mono hb.size)⟩

end Go.Proofs.Ytkgbnohmhjljoaa
