/-
  The walk of 'HeaderTurned', out of what it asks of package header.
-/
import Derived.Test.YtkgbnohmhjljoaaHCopy
import Derived.Test.YtkgbnohmhjljoaaHPage
import Derived.Test.YtkgbnohmhjljoaaHAsk
import Derived.Test.YtkgbnohmhjljoaaHParse
import Derived.Test.YtkgbnohmhjljoaaCalm
import Derived.Test.YtkgbnohmhjljoaaMemStep
import Derived.Laws.BitsAllLaws
namespace Go.Proofs.Ytkgbnohmhjljoaa
open Go.RowKit

theorem turn_byteH {u c : Int} (hu : Byt u) (h0 : 1 ≤ c) (h1 : c ≤ 255) : Byt (bits .xor .u8 u c) ∧ bits .xor .u8 u c ≠ u := by
  obtain ⟨a0, a1⟩ : 0 ≤ u ∧ u ≤ 255 := hu
  rw [u8_xor u c a0 (by omega) (by omega) (by omega)]
  have hx : u.toNat ^^^ c.toNat < 2 ^ 8 := Nat.xor_lt_two_pow (by omega) (by omega)
  refine ⟨⟨by omega, by omega⟩, fun e => ?_⟩
  have e1 : u.toNat ^^^ c.toNat = u.toNat := by omega
  have e2 := congrArg (u.toNat ^^^ ·) e1
  simp only [← Nat.xor_assoc, Nat.xor_self, Nat.zero_xor] at e2
  omega
theorem byts_setH {xs : List Int} {q : Nat} {v : Int} (h : Byts xs) (hv : Byt v) : Byts (xs.set q v) := fun c hc => by
  rcases List.mem_or_eq_of_mem_set hc with h' | rfl
  · exact h c h'
  · exact hv
theorem set_otherH {xs : List Int} {q : Nat} {v : Int} (hq : q < xs.length) (h : v ≠ xs[q]?.getD 0) : xs.set q v ≠ xs := fun e => by
  have := congrArg (fun l => l[q]?.getD 0) e
  simp [hq] at this
  apply h
  simp [hq, this]

set_option maxRecDepth 100000 in
set_option maxHeartbeats 40000000 in
theorem headerTurned_walk (K : HContracts) (a : Option Addr) (len cap : Nat) (w : World) (ha : HAsks w a len cap) :
    Calls Try.prog 7 #[.slice a len cap] w fun e w' => e = .returned (.bool true) ∧ Below w.heap.size w w' := by
  obtain ⟨hl, hm, hi⟩ := ha
  unfold maxLen at hm
  have HI := Lib.hid hi
  clear hi
  go_enter Try.func7, Try.ntmps7
  go_wp2_with fail
  go_loopw [3] (fun i wr => ∃ k : Nat, i = .int .i64 k ∧ k ≤ len ∧ k ≤ 8 ∧ Below w.heap.size w wr) (fun i _ => 8 - (intOf i).toNat)
  case atStart => exact ⟨0, rfl, by omega, by omega, Below.refl _ _⟩
  case round =>
    obtain ⟨k, rfl, hk, hkm, hb⟩ := hrel
    by_cases hlt : k < len
    · by_cases hmo : k < 8
      · have i0 : (0 : Int) ≤ (k : Int) := by omega
        have i1 : (k : Int) < (len : Int) := by omega
        have i2 : (k : Int) < 8 := by omega
        obtain ⟨b, off, ⟨ba, br, BA, cB, B, PA, cP, P, bd, SA, cS, S, N, XA, cX, X⟩, nB, nP, nS, nX, rfl, (hnB : B.length = nB), (hnP : P.length = nP), (hnS : S.length = nS), (hnX : X.length = nX), hA⟩ := (HI.out k hlt).all
        have HNB := Lib.hid hnB
        have HNP := Lib.hid hnP
        have HNS := Lib.hid hnS
        have HNX := Lib.hid hnX
        clear hnB hnP hnS hnX
        have hXc : nX ≤ cX := by have := (hA _ hb).1.hX; have := HNX.out; simp only at *; omega
        have hXm : cX ≤ maxLen := (hA _ hb).1.mX
        have hBc : nB ≤ cB := by have := (hA _ hb).1.nB.hc; have := HNB.out; simp only at *; omega
        have hPc : nP ≤ cP := by have := (hA _ hb).1.nP.hc; have := HNP.out; simp only at *; omega
        have hSc : nS ≤ cS := by have := (hA _ hb).1.nS.hc; have := HNS.out; simp only at *; omega
        have hBz : nB ≤ 140737488351232 := by have := (hA _ hb).1.zB; have := HNB.out; simp only at *; omega
        have hPz : nP ≤ 140737488351232 := by have := (hA _ hb).1.zP; have := HNP.out; simp only at *; omega
        have hSz : nS ≤ 140737488351232 := by have := (hA _ hb).1.zS; have := HNS.out; simp only at *; omega
        obtain ⟨ws, hws⟩ : ∃ ws, ws = wr := ⟨_, rfl⟩
        subst hws
        have hb0 := hb
        have HA := Lib.hid (fun wX (h : Below ws.heap.size ws wX) => hA wX (hb0.trans (h.mono hb0.size)))
        obtain ⟨ok, c0, c1, c2, c3, c4, c5, c6, c7⟩ := hA _ hb
        try simp only at c0 c1 c2 c3 c4 c5 c6 c7
        go_wp2_with fail
        clear c0 c1 c2 c3 c4 c5 c6 c7 ok hb
        have HAW := Lib.hid (hA w (Below.refl _ _))
        clear hA
        have HRB : Hid (∀ wX, Below ws.heap.size ws wX → Rd wX BA (i64s B)) := fun wX h => (HA.out _ h).1.nB.hr
        have HRP : Hid (∀ wX, Below ws.heap.size ws wX → Rd wX PA (i64s P)) := fun wX h => (HA.out _ h).1.nP.hr
        have HRS : Hid (∀ wX, Below ws.heap.size ws wX → Rd wX SA (i64s S)) := fun wX h => (HA.out _ h).1.nS.hr
        have HHI : Hid (nB ≤ 499 → nP ≤ 499 → ∀ wX, Below ws.heap.size ws wX → HdrIn wX BA cB nB B PA cP nP P) := fun h1 h2 wX h => by
          have ok := (HA.out _ h).1
          have e1 := HNB.out
          have e2 := HNP.out
          subst e1 e2
          exact ⟨ok.nB, ok.nP, by omega, by omega⟩
        refine (hheavy_any ba br BA cB nB PA cP nP bd SA cS nS N XA cX nX _ hBz hPz hSz).mono ?_
        rintro e w1 ⟨hv, rfl, hb1, hlight⟩
        have HLI := Lib.hid hlight
        clear hlight
        cases hv with
        | true =>
          go_wp2_with fail
          go_ret
          exact ⟨rfl, hb0.trans (hb1.mono hb0.size)⟩
        | false =>
          obtain ⟨hn3, hnX5⟩ := HLI.out rfl
          have HIN := Lib.hid (HHI.out (by omega) (by omega))
          have hnB9 : nB ≤ 499 := by omega
          have hnP9 : nP ≤ 499 := by omega
          have hnS9 : nS ≤ 499 := by omega
          clear HLI HHI hn3 hBz hPz hSz
          obtain ⟨ok, c0, c1, c2, c3, c4, c5, c6, c7⟩ := HA.out _ hb1
          try simp only at c0 c1 c2 c3 c4 c5 c6 c7
          cases hv : wideB ba br B P with
          | false =>
            have HV := Lib.hid hv
            clear hv
            go_wp2_with fail
            refine (K.bytes_no ba br BA cB nB B PA cP nP P _ HV.out (HIN.out _ hb1)).mono ?_
            rintro e w2 ⟨rfl, hq2⟩
            have hb2 := hb1.trans (hq2.mono hb1.size)
            clear hq2 hb1
            clear c0 c1 c2 c3 c4 c5 c6 c7 ok
            go_wp2_with fail
            refine (hnum_any _ _).mono ?_
            rintro e w' ⟨rfl, rfl⟩
            go_wp2_with fail
            go_roundw
            case rel => exact ⟨k + 1, by go_num, by omega, by omega, hb0.trans ((hb2).mono hb0.size)⟩
            case measure => simp [intOf]; omega
          | true =>
            have HV := Lib.hid hv
            have hsmall := head_small hv
            obtain ⟨nh, hnh⟩ : ∃ nh, (headBytes ba br B P).length = nh := ⟨_, rfl⟩
            rw [hnh] at hsmall
            have HNH := Lib.hid hnh
            have HBY := Lib.hid (headBytes_byts ba br B P)
            clear hv hnh
            go_wp2_with fail
            refine (K.bytes_yes ba br BA cB nB B PA cP nP P _ HV.out (HIN.out _ hb1)).mono ?_
            rintro e w2 ⟨v2, rfl, ho2, hq2⟩
            have hb2 := hb1.trans (hq2.mono hb1.size)
            have ho2b := own_cast ho2 ((u8s_length _).trans HNH.out)
            obtain ⟨A2, d2, rfl, hd2, hm2, hr2, _, hl2⟩ := own_val ho2b
            clear hl2 ho2 ho2b
            have hm2b := hm2
            unfold maxLen at hm2b
            clear hq2 hb1
            clear c0 c1 c2 c3 c4 c5 c6 c7 ok
            go_wp2_with fail
            refine (hnum_any _ _).mono ?_
            rintro e w' ⟨rfl, rfl⟩
            go_wp2_with fail
            go_loopw [6] (fun v wz => ∃ q : Nat, v = .int .i64 q ∧ q ≤ 5000 ∧ Below ws.heap.size ws wz ∧ Rd wz A2 (u8s (headBytes ba br B P))) (fun v _ => 5000 - (intOf v).toNat)
            case atStart => exact ⟨0, rfl, by omega, hb2, hr2⟩
            case round =>
              obtain ⟨q, rfl, hq5k, hbz, hrz⟩ := hrel
              clear hb2 hr2
              by_cases hqn : q < nh
              · have iq : (q : Int) < (nh : Int) := by omega
                have iq0 : (0 : Int) ≤ (q : Int) := by omega
                go_wp2_with fail
                refine (copyBytes_any A2 d2 nh _ _ HNH.out hrz hd2 (by omega)).mono ?_
                rintro e w3 ⟨v3, rfl, ho3, hq3⟩
                have hb3 := hbz.trans (hq3.mono hbz.size)
                have hr3 := hrz.below hq3
                have ho3b := own_cast ho3 ((u8s_length _).trans HNH.out)
                obtain ⟨g, cy, rfl, hBg, hglt⟩ := ho3b.form (by omega)
                have hyc : nh ≤ cy ∧ cy ≤ maxLen := by obtain ⟨_, _, hv3, h1, h2, _⟩ := own_val ho3b; cases hv3; exact ⟨h1, h2⟩
                have hcq : w3.cell? ⟨g, q, none⟩ = some (.int .u8 ((headBytes ba br B P)[q]?.getD 0)) := by rw [ho3b.cellAt q (by omega), u8s_at (by have := HNH.out; omega)]
                have hfq := ho3b.frozenAt q
                have hBY := HBY.out.at_ q
                have HUB := Lib.hid hBY
                clear hBY
                have hws := hbz.size
                obtain ⟨vv, hvv⟩ : ∃ vv, vv = bits .xor .u8 ((headBytes ba br B P)[q]?.getD 0) (1 + ((k : Int) + (q : Int)) % 255) := ⟨_, rfl⟩
                obtain ⟨w4, hw4⟩ : ∃ w4, w4 = w3.setCell ⟨g, q, none⟩ (.int .u8 vv) := ⟨_, rfl⟩
                have hq4 : Below wr.heap.size wr w4 := by rw [hw4]; exact hq3.setCell hBg _
                have hb4 : Below ws.heap.size ws w4 := hbz.trans (hq4.mono hbz.size)
                have hr4 := hrz.below hq4
                obtain ⟨zs, hzs⟩ : ∃ zs, zs = (headBytes ba br B P).set q vv := ⟨_, rfl⟩
                have ht : Byt vv ∧ vv ≠ (headBytes ba br B P)[q]?.getD 0 := by rw [hvv]; exact turn_byteH HUB.out (by omega) (by omega)
                have hne : zs ≠ headBytes ba br B P := by rw [hzs]; exact set_otherH (by have := HNH.out; omega) ht.2
                have HZB : Hid (Byts zs) := by show Byts zs; rw [hzs]; exact byts_setH HBY.out ht.1
                have HZL : Hid (zs.length = nh) := by show zs.length = nh; rw [hzs, List.length_set, HNH.out]
                have ho4 : w4.ownsRow wr.heap.size 5 1 (.slice (some ⟨g, 0, none⟩) nh cy) nh (u8s zs) := by
                  rw [hw4, hzs, show u8s ((headBytes ba br B P).set q vv) = (u8s (headBytes ba br B P)).set q (.int .u8 vv) from by simp [u8s, List.map_set]]
                  exact (ho3b.stored q (.int .u8 vv)).1
                obtain ⟨_, _, hv4, _, _, hry, _, _⟩ := own_val ho4
                cases hv4
                clear hzs ht hq3 ho3 hbz hrz hq4
                go_wp2_with fail
                rw [← hvv, ← hw4]
                clear hvv hw4 hr3 hb3 ho3b hcq hfq ho4 hglt
                cases hp : parseH zs with
                | none =>
                  have HP := Lib.hid hp
                  clear hp
                  refine (K.parse_no _ cy nh zs _ HP.out HZL.out hry HZB.out hyc.1 hyc.2 (by omega)).mono ?_
                  rintro e w5 ⟨rfl, hq5⟩
                  clear hne
                  have hb5 := hb4.trans (hq5.mono hb4.size)
                  have hr5 := hr4.below hq5
                  have hry5 := hry.below hq5
                  clear hq5 hb4 hr4 hry
                  obtain ⟨wb, hwb⟩ : ∃ wx, wx = w5.alloc (.cells #[.int .i64 0, .int .i64 0, .slice none 0 0, .slice none 0 0] 25) := ⟨_, rfl⟩
                  have HPB := Lib.hid (hbox_new hwb)
                  have hbb : Below ws.heap.size ws wb := by rw [hwb]; exact hb5.alloc hb5.size _
                  have hrb : Rd wb A2 (u8s (headBytes ba br B P)) := by rw [hwb]; exact hr5.alloc _
                  go_wp2_with fail
                  rw [← hwb]
                  clear hwb hr5 hb5 hry5
                  refine (hnum_any _ _).mono ?_
                  rintro e w' ⟨rfl, rfl⟩
                  obtain ⟨q0, q1, q2, q3⟩ := HPB.out _ (Below.refl _ _)
                  go_wp2_with fail
                  refine (hnum_any _ _).mono ?_
                  rintro e w' ⟨rfl, rfl⟩
                  go_wp2_with fail
                  refine (reqHdr_is true 0 0 none 0 0 [] none 0 0 [] 0 0 none 0 0 [] none 0 0 [] _ rfl rfl (Rd.nil _ _) (by omega) rfl (Rd.nil _ _) (by omega) rfl (Rd.nil _ _) (by omega) rfl (Rd.nil _ _) (by omega)).mono ?_
                  rintro e w6 ⟨rfl, hq6⟩
                  have hb6 := hbb.trans (hq6.mono hbb.size)
                  have hr6 := hrb.below hq6
                  go_wp2_with fail
                  go_roundw
                  case rel => exact ⟨q + 1, by go_num, by omega, hb6, hr6⟩
                  case measure => simp [intOf]; omega
                | some pp =>
                  obtain ⟨pa, pr, pB, pP⟩ := pp
                  have HP := Lib.hid hp
                  obtain ⟨hwid, hzz⟩ := parseH_get HZB.out hp
                  clear hp
                  obtain ⟨hiB, hiP, hqB, hqP⟩ := wide_i64 hwid
                  have HEB : Hid (eqHdr pa pr pB pP ba br B P = false) := by show eqHdr pa pr pB pP ba br B P = false; rw [← eq_heads hwid HV.out, ← hzz]; exact decide_eq_false hne
                  have HZZ := Lib.hid hzz
                  have HWI := Lib.hid hwid
                  clear hzz hwid
                  refine (K.parse_yes _ cy nh zs pa pr pB pP _ HP.out HZL.out hry HZB.out hyc.1 hyc.2 (by omega)).mono ?_
                  rintro e w5 ⟨B3, e3, P3, f3, rfl, hoB, hoP, _, hq5⟩
                  clear hne
                  have hb5 := hb4.trans (hq5.mono hb4.size)
                  have hr5 := hr4.below hq5
                  have hry5 := hry.below hq5
                  clear hq5 hb4 hr4 hry
                  obtain ⟨wb, hwb⟩ : ∃ wx, wx = w5.alloc (.cells #[.int .i64 pa, .int .i64 pr, .slice B3 pB.length e3, .slice P3 pP.length f3] 25) := ⟨_, rfl⟩
                  have HPB := Lib.hid (hbox_new hwb)
                  have hbb : Below ws.heap.size ws wb := by rw [hwb]; exact hb5.alloc hb5.size _
                  have hrb : Rd wb A2 (u8s (headBytes ba br B P)) := by rw [hwb]; exact hr5.alloc _
                  have hryb : Rd wb (some ⟨g, 0, none⟩) (u8s zs) := by rw [hwb]; exact hry5.alloc _
                  have hIB := (NumsIn.own hoB hiB).below ((Below.refl _ _).alloc (Nat.le_refl _) (.cells #[.int .i64 pa, .int .i64 pr, .slice B3 pB.length e3, .slice P3 pP.length f3] 25))
                  have hIP := (NumsIn.own hoP hiP).below ((Below.refl _ _).alloc (Nat.le_refl _) (.cells #[.int .i64 pa, .int .i64 pr, .slice B3 pB.length e3, .slice P3 pP.length f3] 25))
                  rw [← hwb] at hIB hIP
                  clear hoB hoP
                  go_wp2_with fail
                  rw [← hwb]
                  clear hwb hr5 hb5 hry5
                  refine (hnum_any _ _).mono ?_
                  rintro e w' ⟨rfl, rfl⟩
                  obtain ⟨q0, q1, q2, q3⟩ := HPB.out _ (Below.refl _ _)
                  go_wp2_with fail
                  refine (K.bytes_yes pa pr B3 e3 pB.length pB P3 f3 pP.length pP _ HWI.out ⟨hIB, hIP, by omega, by omega⟩).mono ?_
                  rintro e w6 ⟨v6, rfl, ho6, hq6⟩
                  have hb6 := hbb.trans (hq6.mono hbb.size)
                  have hr6 := hrb.below hq6
                  have hry6 := hryb.below hq6
                  have hIB6 := hIB.hr.below hq6
                  have hIP6 := hIP.hr.below hq6
                  have hx6 := hq6
                  have ho6b := own_conv (ys := u8s zs) (n' := nh) ho6 (by rw [HZZ.out]) ((u8s_length _).trans (by rw [← HZZ.out]; exact HZL.out))
                  obtain ⟨A6, d6, rfl, hd6, hm6, hr6y, _, hl6⟩ := own_val ho6b
                  clear hl6 ho6 ho6b hq6 hrb hryb hIB hIP q0 q1 q2 q3
                  go_wp2_with fail
                  have c0 : ∀ x : Calm w6, x.val.cell? ⟨b, off + k * 8, none⟩ = some (.int .i64 ba) := fun x => (HA.out _ (hb6.trans (x.ok.mono hb6.size))).2.1
                  have c1 : ∀ x : Calm w6, x.val.cell? ⟨b, off + k * 8 + 1, none⟩ = some (.int .i64 br) := fun x => (HA.out _ (hb6.trans (x.ok.mono hb6.size))).2.2.1
                  have c2 : ∀ x : Calm w6, x.val.cell? ⟨b, off + k * 8 + 2, none⟩ = some (.slice BA nB cB) := fun x => (HA.out _ (hb6.trans (x.ok.mono hb6.size))).2.2.2.1
                  have c3 : ∀ x : Calm w6, x.val.cell? ⟨b, off + k * 8 + 3, none⟩ = some (.slice PA nP cP) := fun x => (HA.out _ (hb6.trans (x.ok.mono hb6.size))).2.2.2.2.1
                  have q0 : ∀ x : Calm w6, x.val.cell? ⟨w5.heap.size, 0, none⟩ = some (.int .i64 pa) := fun x => (HPB.out _ (hx6.trans (x.ok.mono hx6.size))).1
                  have q1 : ∀ x : Calm w6, x.val.cell? ⟨w5.heap.size, 1, none⟩ = some (.int .i64 pr) := fun x => (HPB.out _ (hx6.trans (x.ok.mono hx6.size))).2.1
                  have q2 : ∀ x : Calm w6, x.val.cell? ⟨w5.heap.size, 2, none⟩ = some (.slice B3 pB.length e3) := fun x => (HPB.out _ (hx6.trans (x.ok.mono hx6.size))).2.2.1
                  have q3 : ∀ x : Calm w6, x.val.cell? ⟨w5.heap.size, 3, none⟩ = some (.slice P3 pP.length f3) := fun x => (HPB.out _ (hx6.trans (x.ok.mono hx6.size))).2.2.2
                  refine wp_region_calm (by kernel_rfl) (by kernel_rfl) ?_
                  repeat (go_big_quiet_step (first
                      | (go_at_call 11; exact calm_same (hnum_any _ _))
                      | (go_at_call 20; exact calm_drew (eqBytes_same A6 _ d6 cy nh zs _ HZL.out (hr6y.below (Calm.ok _)) (hry6.below (Calm.ok _)) (by omega)))
                      | (go_at_call 25; exact calm_tells (reqHdr_is false pa pr B3 e3 pB.length pB P3 f3 pP.length pP ba br BA cB nB B PA cP nP P _ HEB.out rfl (hIB6.below (Calm.ok _)) (by omega) rfl (hIP6.below (Calm.ok _)) (by omega) HNB.out (HRB.out _ (hb6.trans ((Calm.ok _).mono hb6.size))) (by omega) HNP.out (HRP.out _ (hb6.trans ((Calm.ok _).mono hb6.size))) (by omega)))))
                  refine wpQuiet_nil ?_
                  rintro _ ⟨x, rfl⟩
                  go_wp2_with fail
                  go_roundw
                  case rel => exact ⟨q + 1, by go_num, by omega, hb6.trans (x.ok.mono hb6.size), hr6.below x.ok⟩
                  case measure => simp [intOf]; omega
              · have iq : ¬ ((q : Int) < (nh : Int)) := by omega
                go_wp2_with fail
                go_roundw
                case rel => exact ⟨k + 1, by go_num, by omega, by omega, hb0.trans ((hbz).mono hb0.size)⟩
                case measure => simp [intOf]; omega
      · have i1 : (k : Int) < (len : Int) := by omega
        have i2 : ¬ ((k : Int) < 8) := by omega
        go_wp2_with fail
        refine (hwakes_any K _).mono ?_
        rintro e w' ⟨rfl, hbw⟩
        go_wp2_with fail
        go_ret
        exact ⟨rfl, hb.trans (hbw.mono hb.size)⟩
    · have i1 : ¬ ((k : Int) < (len : Int)) := by omega
      go_wp2_with fail
      refine (hwakes_any K _).mono ?_
      rintro e w' ⟨rfl, hbw⟩
      go_wp2_with fail
      go_ret
      exact ⟨rfl, hb.trans (hbw.mono hb.size)⟩

end Go.Proofs.Ytkgbnohmhjljoaa
