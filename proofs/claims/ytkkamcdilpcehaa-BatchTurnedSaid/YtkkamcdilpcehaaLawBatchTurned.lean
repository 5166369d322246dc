/-
  The walk of 'BatchTurned', out of what it asks of package batch.
-/
import Derived.Test.YtkkamcdilpcehaaBWakes
import Derived.Laws.BitsAllLaws
namespace Go.Proofs.Ytkkamcdilpcehaa
open Go.RowKit

theorem turn_byte {u c : Int} (hu : Byt u) (h0 : 1 ≤ c) (h1 : c ≤ 255) : Byt (bits .xor .u8 u c) ∧ bits .xor .u8 u c ≠ u := by
  obtain ⟨a0, a1⟩ : 0 ≤ u ∧ u ≤ 255 := hu
  rw [u8_xor u c a0 (by omega) (by omega) (by omega)]
  have hx : u.toNat ^^^ c.toNat < 2 ^ 8 := Nat.xor_lt_two_pow (by omega) (by omega)
  refine ⟨⟨by omega, by omega⟩, fun e => ?_⟩
  have e1 : u.toNat ^^^ c.toNat = u.toNat := by omega
  have e2 := congrArg (u.toNat ^^^ ·) e1
  simp only [← Nat.xor_assoc, Nat.xor_self, Nat.zero_xor] at e2
  omega
theorem byts_set {xs : List Int} {q : Nat} {v : Int} (h : Byts xs) (hv : Byt v) : Byts (xs.set q v) := fun c hc => by
  rcases List.mem_or_eq_of_mem_set hc with h' | rfl
  · exact h c h'
  · exact hv
theorem set_other {xs : List Int} {q : Nat} {v : Int} (hq : q < xs.length) (h : v ≠ xs[q]?.getD 0) : xs.set q v ≠ xs := fun e => by
  have := congrArg (fun l => l[q]?.getD 0) e
  simp [hq] at this
  apply h
  simp [hq, this]

set_option maxRecDepth 100000 in
set_option maxHeartbeats 8000000 in
theorem batchTurned_walk (K : BContracts) (a : Option Addr) (len cap : Nat) (w : World) (ha : BAsks w a len cap) :
    Calls Try.prog 8 #[.slice a len cap] w fun e w' => e = .returned (.bool true) ∧ Below w.heap.size w w' := by
  obtain ⟨hl, hm, hi⟩ := ha
  unfold maxLen at hm
  have HI := Lib.hid hi
  clear hi
  go_enter Try.func8, Try.ntmps8
  go_wp2_with fail
  go_loopw [3] (fun i wr => ∃ k : Nat, i = .int .i64 k ∧ k ≤ len ∧ k ≤ 8 ∧ Below w.heap.size w wr) (fun i _ => 8 - (intOf i).toNat)
  case atStart => exact ⟨0, rfl, by omega, by omega, Below.refl _ _⟩
  case round =>
    obtain ⟨k, rfl, hk, hkm, hb⟩ := hrel
    by_cases hlt : k < len
    · by_cases hmo : k < 8
      · have i0 : (0 : Int) ≤ (k : Int) := by omega
        have i1 : (k : Int) < (len : Int) := by omega
        have i2 : (k : Int) < 8 := by omega
        obtain ⟨b, off, ⟨ba, N, TA, cT, L, XA, cX, X⟩, nT, nX, rfl, (hnT : L.length = nT), (hnX : X.length = nX), hA⟩ := (HI.out k hlt).all
        have HA := Lib.hid hA
        have HNT := Lib.hid hnT
        have HNX := Lib.hid hnX
        clear hA hnT hnX
        have hTc : nT ≤ cT := by have := (HA.out _ hb).1.hT; have := HNT.out; simp only at *; omega
        have hTm : cT ≤ maxLen := (HA.out _ hb).1.mT
        have hXc : nX ≤ cX := by have := (HA.out _ hb).1.hX; have := HNX.out; simp only at *; omega
        have hXm : cX ≤ maxLen := (HA.out _ hb).1.mX
        obtain ⟨ok, c0, c1, c2, c3⟩ := HA.out _ hb
        try simp only at c0 c1 c2 c3
        go_wp2_with fail
        refine (bheavy_any ba N TA cT nT L XA cX nX _ HNT.out ok.rT ok.sT hTc hTm).mono ?_
        rintro e w1 ⟨hv, rfl, hq1, hlight⟩
        have HLI := Lib.hid hlight
        have hb1 := hb.trans (hq1.mono hb.size)
        clear hlight c0 c1 c2 c3 ok hq1 hb
        cases hv with
        | true =>
          go_wp2_with fail
          go_ret
          exact ⟨rfl, hb1⟩
        | false =>
          obtain ⟨hnT5, hnX5⟩ := HLI.out rfl
          have hnT9 : nT ≤ 5000 := by omega
          clear HLI
          obtain ⟨ok, c0, c1, c2, c3⟩ := HA.out _ hb1
          try simp only at c0 c1 c2 c3
          cases hv : batB ba N L with
          | false =>
            have HV := Lib.hid hv
            clear hv
            go_wp2_with fail
            refine (K.bytes_no ba N TA cT nT L _ HV.out HNT.out ok.rT hTc hTm).mono ?_
            rintro e w2 ⟨rfl, hq2⟩
            have hb2 := hb1.trans (hq2.mono hb1.size)
            clear hq2 hb1
            clear c0 c1 c2 c3 ok
            go_wp2_with fail
            refine (num_any _ _).mono ?_
            rintro e w' ⟨rfl, rfl⟩
            go_wp2_with fail
            go_roundw
            case rel => exact ⟨k + 1, by go_num, by omega, by omega, hb2⟩
            case measure => simp [intOf]; omega
          | true =>
            have HV := Lib.hid hv
            have hsmall := bytes_small hv
            have HBY := Lib.hid (batBytes_byts ba N L)
            obtain ⟨nb, hnb⟩ : ∃ nb, (batBytes ba N L).length = nb := ⟨_, rfl⟩
            rw [hnb] at hsmall
            have HNB := Lib.hid hnb
            have hl8 : nT ≤ 8 := by have := (bat_all hv).2.2.1; have := HNT.out; omega
            clear hv hnb
            go_wp2_with fail
            refine (K.bytes_yes ba N TA cT nT L _ HV.out HNT.out ok.rT hTc hTm).mono ?_
            rintro e w2 ⟨v2, rfl, ho2, hq2⟩
            have hb2 := hb1.trans (hq2.mono hb1.size)
            have ho2b := own_cast ho2 ((u8s_length _).trans HNB.out)
            obtain ⟨A2, d2, rfl, hd2, hm2, hr2, _, hl2⟩ := own_val ho2b
            have hm2b := hm2
            unfold maxLen at hm2b
            clear hl2 ho2 ho2b hq2 hb1
            clear c0 c1 c2 c3 ok
            go_wp2_with fail
            refine (num_any _ _).mono ?_
            rintro e w' ⟨rfl, rfl⟩
            go_wp2_with fail
            go_loopw [6] (fun v wz => ∃ q : Nat, v = .int .i64 q ∧ q ≤ 5000 ∧ Below w.heap.size w wz ∧ Rd wz A2 (u8s (batBytes ba N L))) (fun v _ => 5000 - (intOf v).toNat)
            case atStart => exact ⟨0, rfl, by omega, hb2, hr2⟩
            case round =>
              obtain ⟨q, rfl, hq5k, hbz, hrz⟩ := hrel
              clear hb2 hr2
              by_cases hqn : q < nb
              · have iq : (q : Int) < (nb : Int) := by omega
                have iq0 : (0 : Int) ≤ (q : Int) := by omega
                go_wp2_with fail
                refine (copyBytes_any A2 d2 nb _ _ HNB.out hrz hd2 (by omega)).mono ?_
                rintro e w3 ⟨v3, rfl, ho3, hq3⟩
                have hb3 := hbz.trans (hq3.mono hbz.size)
                have hr3 := hrz.below hq3
                have ho3b := own_cast ho3 ((u8s_length _).trans HNB.out)
                obtain ⟨g, cy, rfl, hBg, hglt⟩ := ho3b.form (by omega)
                have hyc : nb ≤ cy ∧ cy ≤ maxLen := by obtain ⟨_, _, hv3, h1, h2, _⟩ := own_val ho3b; cases hv3; exact ⟨h1, h2⟩
                have hcq : w3.cell? ⟨g, q, none⟩ = some (.int .u8 ((batBytes ba N L)[q]?.getD 0)) := by rw [ho3b.cellAt q (by omega), u8s_at (by have := HNB.out; omega)]
                have hfq := ho3b.frozenAt q
                have hBY := HBY.out.at_ q
                have HUB := Lib.hid hBY
                clear hBY
                have hws := hbz.size
                obtain ⟨vv, hvv⟩ : ∃ vv, vv = bits .xor .u8 ((batBytes ba N L)[q]?.getD 0) (1 + ((k : Int) + (q : Int)) % 255) := ⟨_, rfl⟩
                obtain ⟨w4, hw4⟩ : ∃ w4, w4 = w3.setCell ⟨g, q, none⟩ (.int .u8 vv) := ⟨_, rfl⟩
                have hq4 : Below wr.heap.size wr w4 := by rw [hw4]; exact hq3.setCell hBg _
                have hb4 : Below w.heap.size w w4 := hbz.trans (hq4.mono hbz.size)
                have hr4 := hrz.below hq4
                obtain ⟨zs, hzs⟩ : ∃ zs, zs = (batBytes ba N L).set q vv := ⟨_, rfl⟩
                have ht : Byt vv ∧ vv ≠ (batBytes ba N L)[q]?.getD 0 := by rw [hvv]; exact turn_byte HUB.out (by omega) (by omega)
                have hne : zs ≠ batBytes ba N L := by rw [hzs]; exact set_other (by have := HNB.out; omega) ht.2
                have HZB : Hid (Byts zs) := by show Byts zs; rw [hzs]; exact byts_set HBY.out ht.1
                have HZL : Hid (zs.length = nb) := by show zs.length = nb; rw [hzs, List.length_set, HNB.out]
                have ho4 : w4.ownsRow wr.heap.size 5 1 (.slice (some ⟨g, 0, none⟩) nb cy) nb (u8s zs) := by
                  rw [hw4, hzs, show u8s ((batBytes ba N L).set q vv) = (u8s (batBytes ba N L)).set q (.int .u8 vv) from by simp [u8s, List.map_set]]
                  exact (ho3b.stored q (.int .u8 vv)).1
                obtain ⟨_, _, hv4, _, _, hry, _, _⟩ := own_val ho4
                cases hv4
                clear hzs ht hq3 ho3 hbz hrz hq4
                go_wp2_with fail
                rw [← hvv, ← hw4]
                clear hvv hw4 hr3 hb3 ho3b hcq hfq ho4 hglt
                cases hp : parseB zs with
                | none =>
                  have HP := Lib.hid hp
                  clear hp
                  refine (K.parse_no _ cy nb zs _ HP.out HZL.out hry HZB.out hyc.1 hyc.2 (by omega)).mono ?_
                  rintro e w5 ⟨rfl, hq5⟩
                  clear hne
                  have hb5 := hb4.trans (hq5.mono hb4.size)
                  have hr5 := hr4.below hq5
                  have hry5 := hry.below hq5
                  clear hq5 hb4 hr4 hry
                  obtain ⟨wb, hwb⟩ : ∃ wb, wb = w5.alloc (.cells #[.int .i64 0, .int .i64 0, .slice none 0 0] 26) := ⟨_, rfl⟩
                  have HPB := Lib.hid (box_three hwb)
                  have hbb : Below w.heap.size w wb := by rw [hwb]; exact hb5.alloc hb5.size _
                  have hrb : Rd wb A2 (u8s (batBytes ba N L)) := by rw [hwb]; exact hr5.alloc _
                  go_wp2_with fail
                  rw [← hwb]
                  clear hwb hr5 hb5 hry5
                  refine (num_any _ _).mono ?_
                  rintro e w' ⟨rfl, rfl⟩
                  obtain ⟨q0, q1, q2⟩ := HPB.out _ (Below.refl _ _)
                  go_wp2_with fail
                  refine (num_any _ _).mono ?_
                  rintro e w' ⟨rfl, rfl⟩
                  go_wp2_with fail
                  refine (eqBatch_same 0 0 none none 0 0 0 [] _ rfl (Rd.nil _ _) (Rd.nil _ _) (by omega)).mono ?_
                  rintro e w6 ⟨rfl, hq6⟩
                  have hb6 := hbb.trans (hq6.mono hbb.size)
                  have hr6 := hrb.below hq6
                  go_wp2_with fail
                  go_roundw
                  case rel => exact ⟨q + 1 + nb / 40, by go_num, by omega, hb6, hr6⟩
                  case measure => simp [intOf]; omega
                | some pp =>
                  obtain ⟨pa, pN, pL⟩ := pp
                  have HP := Lib.hid hp
                  obtain ⟨hbat, hzz⟩ := parse_get HZB.out hp
                  clear hp
                  have hpl8 : pL.length ≤ 8 := (bat_all hbat).2.2.1.2
                  have HEB : Hid (eqBat pa pN pL ba N L = false) := by show eqBat pa pN pL ba N L = false; rw [← eq_bytes hbat HV.out, ← hzz]; exact decide_eq_false hne
                  have HZZ := Lib.hid hzz
                  have HBA := Lib.hid hbat
                  clear hzz hbat
                  refine (K.parse_yes _ cy nb zs pa pN pL _ HP.out HZL.out hry HZB.out hyc.1 hyc.2 (by omega)).mono ?_
                  rintro e w5 ⟨A3, e3, rfl, ho5, hq5⟩
                  clear hne
                  have hb5 := hb4.trans (hq5.mono hb4.size)
                  have hr5 := hr4.below hq5
                  have hry5 := hry.below hq5
                  clear hq5 hb4 hr4 hry
                  obtain ⟨wb, hwb⟩ : ∃ wb, wb = w5.alloc (.cells #[.int .i64 pa, .int .i64 pN, .slice A3 pL.length e3] 26) := ⟨_, rfl⟩
                  have HPB := Lib.hid (box_three hwb)
                  have hbb : Below w.heap.size w wb := by rw [hwb]; exact hb5.alloc hb5.size _
                  have hrb : Rd wb A2 (u8s (batBytes ba N L)) := by rw [hwb]; exact hr5.alloc _
                  have hryb : Rd wb (some ⟨g, 0, none⟩) (u8s zs) := by rw [hwb]; exact hry5.alloc _
                  have hob := ho5.alloc (.cells #[.int .i64 pa, .int .i64 pN, .slice A3 pL.length e3] 26)
                  rw [← hwb] at hob
                  clear ho5
                  go_wp2_with fail
                  rw [← hwb]
                  clear hwb hr5 hb5 hry5
                  refine (num_any _ _).mono ?_
                  rintro e w' ⟨rfl, rfl⟩
                  obtain ⟨q0, q1, q2⟩ := HPB.out _ (Below.refl _ _)
                  obtain ⟨_, _, hv5, hc5, hm5, hrd3, _, _⟩ := ownS_slice hob
                  cases hv5
                  go_wp2_with fail
                  refine (K.bytes_yes pa pN A3 e3 pL.length pL _ HBA.out rfl hrd3 hc5 hm5).mono ?_
                  rintro e w6 ⟨v6, rfl, ho6, hq6⟩
                  have hb6 := hbb.trans (hq6.mono hbb.size)
                  have hr6 := hrb.below hq6
                  have hry6 := hryb.below hq6
                  have hrd6 := hrd3.below hq6
                  have hx6 := hq6
                  have ho6b := own_conv (ys := u8s zs) (n' := nb) ho6 (by rw [HZZ.out]) ((u8s_length _).trans (by rw [← HZZ.out]; exact HZL.out))
                  obtain ⟨A6, d6, rfl, hd6, hm6, hr6y, _, hl6⟩ := own_val ho6b
                  clear hl6 ho6 ho6b hq6 hbb hrb hryb hrd3 q0 q1 q2
                  obtain ⟨ok, c0, c1, c2, c3⟩ := HA.out _ hb6
                  try simp only at c0 c1 c2 c3
                  obtain ⟨q0, q1, q2⟩ := HPB.out _ hx6
                  have HRT := Lib.hid ok.rT
                  have HR3 := Lib.hid hrd6
                  have HRY := Lib.hid hry6
                  have HR6 := Lib.hid hr6y
                  clear ok hrd6 hry6 hr6y
                  go_wp2_with fail
                  go_region_held3 (fun w' => w'.cell? ⟨b, off + k * 4, none⟩ = some (.int .i64 ba) ∧ w'.cell? ⟨b, off + k * 4 + 1, none⟩ = some (.int .i64 N) ∧ w'.cell? ⟨b, off + k * 4 + 2, none⟩ = some (.slice TA nT cT) ∧ w'.cell? ⟨w5.heap.size, 0, none⟩ = some (.int .i64 pa) ∧ w'.cell? ⟨w5.heap.size, 1, none⟩ = some (.int .i64 pN) ∧ w'.cell? ⟨w5.heap.size, 2, none⟩ = some (.slice A3 pL.length e3))
                    (first | assumption | go_keep)
                    (first
                      | (go_at_call 10; refine (num_any _ _).mono ?_; rintro e w' ⟨rfl, rfl⟩)
                      | (go_at_call 19; refine (eqBytes_same A6 _ d6 cy nb zs _ HZL.out (by first | exact HR6.out | exact HR6.out.drew | exact HR6.out.drewN _ | exact HR6.out.drew.drewN _ | exact (HR6.out.drewN _).drew) (by first | exact HRY.out | exact HRY.out.drew | exact HRY.out.drewN _ | exact HRY.out.drew.drewN _ | exact (HRY.out.drewN _).drew) (by omega)).mono ?_; rintro e w' ⟨rfl, dx, rfl⟩)
                      | (go_at_call 16; refine (eqBatch_is false pa pN ba N A3 TA e3 cT pL.length nT pL L _ HEB.out rfl HNT.out (by first | exact HR3.out | exact HR3.out.drew | exact HR3.out.drewN _ | exact HR3.out.drew.drewN _ | exact (HR3.out.drewN _).drew) (by first | exact HRT.out | exact HRT.out.drew | exact HRT.out.drewN _ | exact HRT.out.drew.drewN _ | exact (HRT.out.drewN _).drew) (by omega) (by omega)).mono ?_; rintro e w7 ⟨rfl, hq7⟩; have hb7 : Below w.heap.size w w7 := (by first | exact hb6.trans (hq7.mono hb6.size) | exact hb6.drew.trans (hq7.mono hb6.size) | exact (below_n hb6 _).trans (hq7.mono hb6.size) | exact (below_n hb6.drew _).trans (hq7.mono hb6.size)); have hx7 : Below wb.heap.size wb w7 := (by first | exact hx6.trans (hq7.mono hx6.size) | exact hx6.drew.trans (hq7.mono hx6.size) | exact (below_n hx6 _).trans (hq7.mono hx6.size) | exact (below_n hx6.drew _).trans (hq7.mono hx6.size)); have hr7 : Rd w7 A2 (u8s (batBytes ba N L)) := (by first | exact hr6.below hq7 | exact hr6.drew.below hq7 | exact (hr6.drewN _).below hq7 | exact (hr6.drew.drewN _).below hq7); have hS7 := And.intro (HA.out _ hb7).2.1 (And.intro (HA.out _ hb7).2.2.1 (And.intro (HA.out _ hb7).2.2.2.1 (HPB.out _ hx7)))))
                  go_wp2_with fail
                  go_roundw
                  case rel => exact ⟨q + 1 + nb / 40, by go_num, by omega, hb7, hr7⟩
                  case measure => simp [intOf]; omega
              · have iq : ¬ ((q : Int) < (nb : Int)) := by omega
                go_wp2_with fail
                go_roundw
                case rel => exact ⟨k + 1, by go_num, by omega, by omega, hbz⟩
                case measure => simp [intOf]; omega
      · have i1 : (k : Int) < (len : Int) := by omega
        have i2 : ¬ ((k : Int) < 8) := by omega
        go_wp2_with fail
        refine (wakes_any K _).mono ?_
        rintro e w' ⟨rfl, hbw⟩
        go_wp2_with fail
        go_ret
        exact ⟨rfl, hb.trans (hbw.mono hb.size)⟩
    · have i1 : ¬ ((k : Int) < (len : Int)) := by omega
      go_wp2_with fail
      refine (wakes_any K _).mono ?_
      rintro e w' ⟨rfl, hbw⟩
      go_wp2_with fail
      go_ret
      exact ⟨rfl, hb.trans (hbw.mono hb.size)⟩

end Go.Proofs.Ytkkamcdilpcehaa
