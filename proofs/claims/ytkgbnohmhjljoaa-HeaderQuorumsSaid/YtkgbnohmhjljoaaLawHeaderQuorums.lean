/-
  The walk of 'HeaderQuorums', out of what it asks of package header.
-/
import Derived.Test.YtkgbnohmhjljoaaHAsk
import Derived.Test.YtkgbnohmhjljoaaHPage
import Derived.Test.YtkgbnohmhjljoaaCalm
import Derived.Test.YtkgbnohmhjljoaaMemStep
namespace Go.Proofs.Ytkgbnohmhjljoaa
open Go.RowKit

/-- the numbers from one on -/
def seqL : Nat → List Int
  | 0 => []
  | j + 1 => seqL j ++ [(j : Int) + 1]
theorem seqL_length : ∀ j, (seqL j).length = j
  | 0 => rfl
  | j + 1 => by rw [seqL, List.length_append, seqL_length j]; rfl
theorem seqL_at : ∀ {j i : Nat}, i < j → (seqL j)[i]? = some ((i : Int) + 1)
  | 0, _, h => absurd h (by omega)
  | j + 1, i, h => by
    rw [seqL]
    by_cases hi : i < j
    · rw [List.getElem?_append_left (by rw [seqL_length]; exact hi)]
      exact seqL_at hi
    · have e : i = j := by omega
      subst e
      rw [List.getElem?_append_right (by rw [seqL_length]; omega), seqL_length]
      simp
theorem seqL_none {j i : Nat} (h : j ≤ i) : (seqL j)[i]? = none := List.getElem?_eq_none (by rw [seqL_length]; exact h)
theorem seqL_ris (j : Nat) : risB (seqL j) = true := risB_iff.2 fun i x y hx hy => by
  by_cases h : i + 1 < j
  · rw [seqL_at h] at hy
    rw [seqL_at (by omega)] at hx
    cases hx
    cases hy
    omega
  · rw [seqL_none (by omega)] at hy
    cases hy
theorem seqL_mem {j : Nat} {x : Int} (h : x ∈ seqL j) : 1 ≤ x ∧ x ≤ j := by
  obtain ⟨i, hi⟩ := List.getElem?_of_mem h
  by_cases hij : i < j
  · rw [seqL_at hij] at hi
    cases hi
    omega
  · rw [seqL_none (by omega)] at hi
    cases hi
theorem seqL_bet {j : Nat} {hi : Int} (h : (j : Int) ≤ hi) : betB 1 hi (seqL j) = true := betB_iff.2 fun x hx => by
  have := seqL_mem hx
  omega
theorem seqL_not {j : Nat} {hi : Int} (h : hi < (j : Int)) (h1 : 1 ≤ hi) : betB 1 hi (seqL j) = false := by
  rw [Bool.eq_false_iff]
  intro hb
  have h2 := betB_iff.1 hb (j : Int) (by
    have := seqL_at (j := j) (i := j - 1) (by omega)
    have h3 := List.mem_of_getElem? this
    rw [show (((j - 1 : Nat) : Int) + 1) = (j : Int) from by omega] at h3
    exact h3)
  omega
theorem seqL_digs {j : Nat} {most : Int} (h : (j : Int) ≤ most) (h1 : j ≤ 65536) : digsB (seqL j) most = true := digsB_iff.2 ⟨by rw [seqL_length]; exact h, fun x hx => by have := seqL_mem hx; omega, seqL_ris j⟩
theorem digs_nilQ : digsB [] 8 = true := by decide
theorem hdr_seq {m k Q : Nat} (h0 : 1 ≤ m) (h1 : m ≤ 16) (h3 : m % 3 = 1) (hQ : 2 * (m / 3) + 1 = Q) (hk : k ≤ 17) : hdrB m 2 [] (seqL k) m = decide (Q ≤ k ∧ k ≤ m) := by
  have hmay : mayB m = true := by unfold mayB; rw [decide_eq_true_eq]; omega
  have hq : quoN m = Q := by unfold quoN; omega
  unfold hdrB
  rw [decide_eq_decide, seqL_length, hq, if_neg (by decide)]
  constructor
  · rintro ⟨_, _, _, _, h5, h6⟩
    have := (digsB_iff.1 h5).1
    rw [seqL_length] at this
    omega
  · rintro ⟨h5, h6⟩
    exact ⟨hmay, by omega, by omega, digs_nilQ, seqL_digs (by omega) (by omega), by omega⟩
theorem hdr_one {m : Nat} (h0 : 1 ≤ m) (h1 : m ≤ 16) (h3 : m % 3 = 1) : hdrB 1 1 [] [] m = true := by
  have hmay : mayB m = true := by unfold mayB; rw [decide_eq_true_eq]; omega
  unfold hdrB
  rw [decide_eq_true_eq, if_pos rfl]
  exact ⟨hmay, by omega, by omega, digs_nilQ, digsB_iff.2 ⟨by simp, fun x hx => by simp at hx, rfl⟩, rfl⟩
theorem cert_seq {m k Q : Nat} (h0 : 1 ≤ m) (h1 : m ≤ 16) (h3 : m % 3 = 1) (hQ : 2 * (m / 3) + 1 = Q) : certB 1 1 [] [] 1 (seqL k) m = decide (Q ≤ k ∧ k ≤ m) := by
  have hq : quoN m = Q := by unfold quoN; omega
  unfold certB
  rw [decide_eq_decide, seqL_length, hq]
  constructor
  · rintro ⟨_, _, _, h5, h6⟩
    by_cases h : k ≤ m
    · omega
    · rw [seqL_not (by omega) (by omega)] at h5
      cases h5
  · rintro ⟨h5, h6⟩
    exact ⟨hdr_one h0 h1 h3, by omega, seqL_ris k, seqL_bet (by omega), by omega⟩
theorem hdr_strange {m k : Nat} : hdrB ((m : Int) + 1) 2 [] (seqL k) m = false := by
  unfold hdrB
  rw [decide_eq_false_iff_not]
  rintro ⟨_, h, _⟩
  omega
theorem hdr_first {m : Nat} (h0 : 1 ≤ m) : hdrB 1 1 [] (seqL m) m = false := by
  unfold hdrB
  rw [decide_eq_false_iff_not, if_pos rfl, seqL_length]
  rintro ⟨_, _, _, _, _, h⟩
  omega

set_option maxRecDepth 100000 in
set_option maxHeartbeats 40000000 in
theorem headerQuorums_walk (K : HContracts) (a : Option Addr) (len cap : Nat) (w : World) (ha : HAsks w a len cap) :
    Calls Try.prog 8 #[.slice a len cap] w fun e w' => e = .returned (.bool true) ∧ Below w.heap.size w w' := by
  obtain ⟨hl, hm, _⟩ := ha
  unfold maxLen at hm
  have hl0 : (0 : Int) ≤ (len : Int) := by omega
  go_enter Try.func8, Try.ntmps8
  go_wp2_with fail
  go_loopw [3] (fun v wr => ∃ m : Nat, v = .int .i64 m ∧ 1 ≤ m ∧ m ≤ 19 ∧ Hid (m % 3 = 1) ∧ Below w.heap.size w wr) (fun v _ => 19 - (intOf v).toNat)
  case atStart => exact ⟨1, rfl, by omega, by omega, rfl, Below.refl _ _⟩
  case round =>
    obtain ⟨m, rfl, h1, h2, h3, hb⟩ := hrel
    by_cases hlt : m ≤ 16
    · have j0 : (m : Int) ≤ 16 := by omega
      have j1 : (1 : Int) ≤ (m : Int) := by omega
      obtain ⟨Q, hQ⟩ : ∃ Q, 2 * (m / 3) + 1 = Q := ⟨_, rfl⟩
      have hQi : 2 * ((m : Int) / 3) + 1 = (Q : Int) := by omega
      have hQ1 : 1 ≤ Q := by omega
      have hQ17 : Q ≤ 16 := by omega
      have HQI := Lib.hid hQi
      have HH : Hid (∀ k, k ≤ 17 → hdrB m 2 [] (seqL k) m = decide (Q ≤ k ∧ k ≤ m)) := fun k hk => hdr_seq h1 hlt h3.out hQ hk
      have HC : Hid (∀ k, k ≤ 17 → certB 1 1 [] [] 1 (seqL k) m = decide (Q ≤ k ∧ k ≤ m)) := fun k _ => cert_seq h1 hlt h3.out hQ
      have HF : Hid (hdrB 1 1 [] (seqL m) m = false) := hdr_first h1
      clear hQ hQi
      go_wp2_with fail
      rw [HQI.out]
      obtain ⟨wo, hwo⟩ : ∃ wo : World, wo = wr := ⟨_, rfl⟩
      rw [← hwo] at hb ⊢
      clear hwo wr
      go_loopw [5] (fun v wr => ∃ k : Nat, v = .int .i64 k ∧ k ≤ m + 2 ∧ Below w.heap.size w wr) (fun v _ => m + 2 - (intOf v).toNat)
      case atStart => exact ⟨0, rfl, by omega, hb⟩
      case round =>
        obtain ⟨k, rfl, hkm, hbk⟩ := hrel
        clear hb
        by_cases hk : k ≤ m + 1
        · have k0 : (0 : Int) ≤ (k : Int) := by omega
          have k1 : (k : Int) ≤ (m : Int) + 1 := by omega
          go_wp2_with fail
          obtain ⟨wv, hwv⟩ : ∃ wv : World, wv = wr := ⟨_, rfl⟩
          rw [← hwv] at hbk ⊢
          clear hwv wr
          go_loopw [6, 7] (fun v i wz => ∃ j : Nat, i = .int .i64 ((j : Int) + 1) ∧ j ≤ k ∧ wz.ownsRow w.heap.size 3 1 v j (i64s (seqL j)) ∧ Below w.heap.size w wz) (fun _ i _ => k + 1 - (intOf i).toNat)
          case atStart => exact ⟨0, rfl, by omega, World.ownsRow_nil _ _ _ _, hbk⟩
          case round =>
            obtain ⟨j, rfl, hjk, hown, hbj⟩ := hrel
            by_cases hj : j < k
            · have i0 : (0 : Int) ≤ (j : Int) := by omega
              have i1 : (j : Int) + 1 ≤ (k : Int) := by omega
              go_wp2_with (at_builtin; refine wpList_app_one _ rfl _ _ 23 rfl w.heap.size 3 (.int .i64 0) 8 Try.underlying23 info_i64 rfl (by decide) _ j _ rfl (hown.alloc _) wr.heap.size (.int .i64 ((j : Int) + 1)) rfl (cell_new _ _ _) rfl (by omega) (by have := hbj.size; simp; omega) ?_)
              intro v' w1 hown1 hb1
              have hown2 := own_conv (ys := i64s (seqL (j + 1))) (n' := j + 1) hown1 (by rw [seqL, i64s_append]; rfl) rfl
              clear hown1 hown
              go_wp2
              go_roundw
              case rel => exact ⟨j + 1, by go_num, by omega, hown2, (hbj.alloc hbj.size _).trans hb1⟩
              case measure => simp [intOf]; omega
            · have i1 : ¬ ((j : Int) + 1 ≤ (k : Int)) := by omega
              have e : j = k := by omega
              subst e
              obtain ⟨AP, cP, rfl, hPc, hPm, hrP, _, hlP⟩ := own_val hown
              clear hlP hown hbk
              go_wp2_with fail
              obtain ⟨wp, hwp⟩ : ∃ wp : World, wp = wr := ⟨_, rfl⟩
              rw [← hwp] at hbj hrP ⊢
              clear hwp wr
              go_loopw [8, 9] (fun v i wz => ∃ q : Nat, i = .int .i64 ((q : Int) + 1) ∧ q ≤ m ∧ wz.ownsRow wp.heap.size 3 1 v q (i64s (seqL q)) ∧ Below wp.heap.size wp wz) (fun _ i _ => m + 1 - (intOf i).toNat)
              case atStart => exact ⟨0, rfl, by omega, World.ownsRow_nil _ _ _ _, Below.refl _ _⟩
              case round =>
                obtain ⟨q, rfl, hqm, hown, hbq⟩ := hrel
                by_cases hq : q < m
                · have i0 : (0 : Int) ≤ (q : Int) := by omega
                  have i1 : (q : Int) + 1 ≤ (m : Int) := by omega
                  go_wp2_with (at_builtin; refine wpList_app_one _ rfl _ _ 23 rfl wp.heap.size 3 (.int .i64 0) 8 Try.underlying23 info_i64 rfl (by decide) _ q _ rfl (hown.alloc _) wr.heap.size (.int .i64 ((q : Int) + 1)) rfl (cell_new _ _ _) rfl (by omega) (by have := hbq.size; simp; omega) ?_)
                  intro v' w1 hown1 hb1
                  have hown2 := own_conv (ys := i64s (seqL (q + 1))) (n' := q + 1) hown1 (by rw [seqL, i64s_append]; rfl) rfl
                  clear hown1 hown
                  go_wp2
                  go_roundw
                  case rel => exact ⟨q + 1, by go_num, by omega, hown2, (hbq.alloc hbq.size _).trans hb1⟩
                  case measure => simp [intOf]; omega
                · have i1 : ¬ ((q : Int) + 1 ≤ (m : Int)) := by omega
                  have e : q = m := by omega
                  subst e
                  obtain ⟨AL, cL, rfl, hLc, hLm, hrL, _, hlL⟩ := own_val hown
                  clear hlL hown
                  have hb1 : Below w.heap.size w wr := hbj.trans (hbq.mono hbj.size)
                  have hrP1 := hrP.below hbq
                  have hI : ∀ n, n ≤ 17 → I64s (seqL n) := fun n hn x hx => by have := seqL_mem hx; unfold I64; omega
                  have HNP : Hid (∀ wX, Below wr.heap.size wr wX → NumsIn wX AP cP j (seqL j)) := fun wX h => ⟨seqL_length _, hrP1.below h, hPc, hPm, hI _ (by omega)⟩
                  have HNL : Hid (∀ wX, Below wr.heap.size wr wX → NumsIn wX AL cL q (seqL q)) := fun wX h => ⟨seqL_length _, hrL.below h, hLc, hLm, hI _ (by omega)⟩
                  have HNO : Hid (∀ wX, NumsIn wX none 0 0 []) := fun wX => ⟨rfl, Rd.nil _ _, Nat.le_refl _, by simp [maxLen], fun x hx => by simp at hx⟩
                  have hI64 : I64 (q : Int) := by unfold I64; omega
                  have HI64 := Lib.hid hI64
                  clear hrP hrP1 hrL hbq hbj hPc hPm hLc hLm hI hI64
                  obtain ⟨wh, hwh⟩ : ∃ wx, wx = wr.alloc (.cells #[.int .i64 (q : Int), .int .i64 2, .slice none 0 0, .slice AP j cP] 25) := ⟨_, rfl⟩
                  have HBX := Lib.hid (hbox_new hwh)
                  have hxh : Below wr.heap.size wr wh := by rw [hwh]; exact (Below.refl _ _).alloc (Nat.le_refl _) _
                  have hsz : wr.heap.size < wh.heap.size := by rw [hwh]; simp
                  have HFR : Hid (wh.frozen? ⟨wr.heap.size, 0, none⟩ = false) := by show wh.frozen? ⟨wr.heap.size, 0, none⟩ = false; rw [hwh]; exact World.frozen?_alloc_at _ _ _ _ rfl
                  by_cases hA : Q ≤ j
                  · have i2 : (Q : Int) ≤ (j : Int) := by omega
                    by_cases hB : j ≤ q
                    · have hbo : decide (Q ≤ j ∧ j ≤ q) = true := by simp; omega
                      have HV := Lib.hid ((HH.out j (by omega)).trans hbo)
                      have HW := Lib.hid ((HC.out j (by omega)).trans hbo)
                      clear hbo
                      have i3 : (j : Int) ≤ (q : Int) := by omega
                      obtain ⟨d0, d1, d2, d3⟩ := hbox_new (w := wr) (rfl : wr.alloc (.cells #[.int .i64 (q : Int), .int .i64 2, .slice none 0 0, .slice AP j cP] 25) = _) _ (Below.refl _ _)
                      go_wp2_with fail
                      rw [← hwh]
                      clear d0 d1 d2 d3 hwh
                      refine (K.check_yes q 2 none 0 0 [] AP cP j (seqL j) q _ HV.out ⟨HNO.out _, HNP.out _ hxh, by omega, by omega⟩ HI64.out).mono ?_
                      rintro e w2 ⟨rfl, hq2⟩
                      have hx2 : Below wr.heap.size wr w2 := hxh.trans (hq2.mono hxh.size)
                      go_wp2_with fail
                      refine (hnum_any _ _).mono ?_
                      rintro e w' ⟨rfl, rfl⟩
                      obtain ⟨wc, hwc⟩ : ∃ wx, wx = w2.alloc (.cells #[.int .i64 1, .int .i64 1, .slice none 0 0, .slice none 0 0, .int .i64 1, .slice AP j cP] 27) := ⟨_, rfl⟩
                      have hxc : Below wr.heap.size wr wc := by rw [hwc]; exact hx2.alloc hx2.size _
                      have hqc : Below wh.heap.size wh wc := by rw [hwc]; exact hq2.alloc hq2.size _
                      obtain ⟨d0, d1, d2, d3, d4, d5⟩ := cbox_new (w := w2) (rfl : w2.alloc (.cells #[.int .i64 1, .int .i64 1, .slice none 0 0, .slice none 0 0, .int .i64 1, .slice AP j cP] 27) = _) _ (Below.refl _ _)
                      go_wp2_with fail
                      rw [← hwc]
                      clear d0 d1 d2 d3 d4 d5 hwc hx2 hq2
                      refine (K.cert_yes 1 1 none 0 0 [] none 0 0 [] 1 AP cP j (seqL j) q _ HW.out ⟨HNO.out _, HNO.out _, by omega, by omega⟩ (HNP.out _ hxc) (by omega) HI64.out).mono ?_
                      rintro e w3 ⟨rfl, hq3⟩
                      have hx3 : Below wr.heap.size wr w3 := hxc.trans (hq3.mono hxc.size)
                      have hq3h : Below wh.heap.size wh w3 := hqc.trans (hq3.mono hqc.size)
                      clear hq3 hxc hqc
                      go_wp2_with fail
                      refine (hnum_any _ _).mono ?_
                      rintro e w' ⟨rfl, rfl⟩
                      obtain ⟨q0, q1, q2, q3⟩ := HBX.out _ hq3h
                      have hfr : w3.frozen? ⟨wr.heap.size, 0, none⟩ = false := (hq3h.frozen (p := ⟨wr.heap.size, 0, none⟩) hsz).trans HFR.out
                      have hx5 : Below wr.heap.size wr (w3.setCell ⟨wr.heap.size, 0, none⟩ (.int .i64 ((q : Int) + 1))) := hx3.setCell (Nat.le_refl _) _
                      go_wp2_with fail
                      refine (K.check_no ((q : Int) + 1) 2 none 0 0 [] AP cP j (seqL j) q _ hdr_strange ⟨HNO.out _, HNP.out _ hx5, by omega, by omega⟩ HI64.out).mono ?_
                      rintro e w6 ⟨rfl, hq6⟩
                      have hx6 : Below wr.heap.size wr w6 := hx5.trans (hq6.mono hx5.size)
                      clear hq6 hx5 hx3 hq3h q0 q1 q2 q3 hfr
                      go_wp2_with fail
                      refine (hnum_any _ _).mono ?_
                      rintro e w' ⟨rfl, rfl⟩
                      go_wp2_with fail
                      refine (K.check_no 1 1 none 0 0 [] AL cL q (seqL q) q _ HF.out ⟨HNO.out _, HNL.out _ hx6, by omega, by omega⟩ HI64.out).mono ?_
                      rintro e w7 ⟨rfl, hq7⟩
                      have hx7 : Below wr.heap.size wr w7 := hx6.trans (hq7.mono hx6.size)
                      clear hq7 hx6
                      go_wp2_with fail
                      refine (hnum_any _ _).mono ?_
                      rintro e w' ⟨rfl, rfl⟩
                      go_wp2_with fail
                      go_roundw
                      case rel => exact ⟨j + 1, by go_num, by omega, hb1.trans (hx7.mono hb1.size)⟩
                      case measure => simp [intOf]; omega
                    · have hbo : decide (Q ≤ j ∧ j ≤ q) = false := by simp; omega
                      have HV := Lib.hid ((HH.out j (by omega)).trans hbo)
                      have HW := Lib.hid ((HC.out j (by omega)).trans hbo)
                      clear hbo
                      have i3 : ¬ ((j : Int) ≤ (q : Int)) := by omega
                      obtain ⟨d0, d1, d2, d3⟩ := hbox_new (w := wr) (rfl : wr.alloc (.cells #[.int .i64 (q : Int), .int .i64 2, .slice none 0 0, .slice AP j cP] 25) = _) _ (Below.refl _ _)
                      go_wp2_with fail
                      rw [← hwh]
                      clear d0 d1 d2 d3 hwh
                      refine (K.check_no q 2 none 0 0 [] AP cP j (seqL j) q _ HV.out ⟨HNO.out _, HNP.out _ hxh, by omega, by omega⟩ HI64.out).mono ?_
                      rintro e w2 ⟨rfl, hq2⟩
                      have hx2 : Below wr.heap.size wr w2 := hxh.trans (hq2.mono hxh.size)
                      go_wp2_with fail
                      refine (hnum_any _ _).mono ?_
                      rintro e w' ⟨rfl, rfl⟩
                      obtain ⟨wc, hwc⟩ : ∃ wx, wx = w2.alloc (.cells #[.int .i64 1, .int .i64 1, .slice none 0 0, .slice none 0 0, .int .i64 1, .slice AP j cP] 27) := ⟨_, rfl⟩
                      have hxc : Below wr.heap.size wr wc := by rw [hwc]; exact hx2.alloc hx2.size _
                      have hqc : Below wh.heap.size wh wc := by rw [hwc]; exact hq2.alloc hq2.size _
                      obtain ⟨d0, d1, d2, d3, d4, d5⟩ := cbox_new (w := w2) (rfl : w2.alloc (.cells #[.int .i64 1, .int .i64 1, .slice none 0 0, .slice none 0 0, .int .i64 1, .slice AP j cP] 27) = _) _ (Below.refl _ _)
                      go_wp2_with fail
                      rw [← hwc]
                      clear d0 d1 d2 d3 d4 d5 hwc hx2 hq2
                      refine (K.cert_no 1 1 none 0 0 [] none 0 0 [] 1 AP cP j (seqL j) q _ HW.out ⟨HNO.out _, HNO.out _, by omega, by omega⟩ (HNP.out _ hxc) (by omega) HI64.out).mono ?_
                      rintro e w3 ⟨rfl, hq3⟩
                      have hx3 : Below wr.heap.size wr w3 := hxc.trans (hq3.mono hxc.size)
                      have hq3h : Below wh.heap.size wh w3 := hqc.trans (hq3.mono hqc.size)
                      clear hq3 hxc hqc
                      go_wp2_with fail
                      refine (hnum_any _ _).mono ?_
                      rintro e w' ⟨rfl, rfl⟩
                      obtain ⟨q0, q1, q2, q3⟩ := HBX.out _ hq3h
                      have hfr : w3.frozen? ⟨wr.heap.size, 0, none⟩ = false := (hq3h.frozen (p := ⟨wr.heap.size, 0, none⟩) hsz).trans HFR.out
                      have hx5 : Below wr.heap.size wr (w3.setCell ⟨wr.heap.size, 0, none⟩ (.int .i64 ((q : Int) + 1))) := hx3.setCell (Nat.le_refl _) _
                      go_wp2_with fail
                      refine (K.check_no ((q : Int) + 1) 2 none 0 0 [] AP cP j (seqL j) q _ hdr_strange ⟨HNO.out _, HNP.out _ hx5, by omega, by omega⟩ HI64.out).mono ?_
                      rintro e w6 ⟨rfl, hq6⟩
                      have hx6 : Below wr.heap.size wr w6 := hx5.trans (hq6.mono hx5.size)
                      clear hq6 hx5 hx3 hq3h q0 q1 q2 q3 hfr
                      go_wp2_with fail
                      refine (hnum_any _ _).mono ?_
                      rintro e w' ⟨rfl, rfl⟩
                      go_wp2_with fail
                      refine (K.check_no 1 1 none 0 0 [] AL cL q (seqL q) q _ HF.out ⟨HNO.out _, HNL.out _ hx6, by omega, by omega⟩ HI64.out).mono ?_
                      rintro e w7 ⟨rfl, hq7⟩
                      have hx7 : Below wr.heap.size wr w7 := hx6.trans (hq7.mono hx6.size)
                      clear hq7 hx6
                      go_wp2_with fail
                      refine (hnum_any _ _).mono ?_
                      rintro e w' ⟨rfl, rfl⟩
                      go_wp2_with fail
                      go_roundw
                      case rel => exact ⟨j + 1, by go_num, by omega, hb1.trans (hx7.mono hb1.size)⟩
                      case measure => simp [intOf]; omega
                  · have hbo : decide (Q ≤ j ∧ j ≤ q) = false := by simp; omega
                    have HV := Lib.hid ((HH.out j (by omega)).trans hbo)
                    have HW := Lib.hid ((HC.out j (by omega)).trans hbo)
                    clear hbo
                    have i2 : ¬ ((Q : Int) ≤ (j : Int)) := by omega
                    obtain ⟨d0, d1, d2, d3⟩ := hbox_new (w := wr) (rfl : wr.alloc (.cells #[.int .i64 (q : Int), .int .i64 2, .slice none 0 0, .slice AP j cP] 25) = _) _ (Below.refl _ _)
                    go_wp2_with fail
                    rw [← hwh]
                    clear d0 d1 d2 d3 hwh
                    refine (K.check_no q 2 none 0 0 [] AP cP j (seqL j) q _ HV.out ⟨HNO.out _, HNP.out _ hxh, by omega, by omega⟩ HI64.out).mono ?_
                    rintro e w2 ⟨rfl, hq2⟩
                    have hx2 : Below wr.heap.size wr w2 := hxh.trans (hq2.mono hxh.size)
                    go_wp2_with fail
                    refine (hnum_any _ _).mono ?_
                    rintro e w' ⟨rfl, rfl⟩
                    obtain ⟨wc, hwc⟩ : ∃ wx, wx = w2.alloc (.cells #[.int .i64 1, .int .i64 1, .slice none 0 0, .slice none 0 0, .int .i64 1, .slice AP j cP] 27) := ⟨_, rfl⟩
                    have hxc : Below wr.heap.size wr wc := by rw [hwc]; exact hx2.alloc hx2.size _
                    have hqc : Below wh.heap.size wh wc := by rw [hwc]; exact hq2.alloc hq2.size _
                    obtain ⟨d0, d1, d2, d3, d4, d5⟩ := cbox_new (w := w2) (rfl : w2.alloc (.cells #[.int .i64 1, .int .i64 1, .slice none 0 0, .slice none 0 0, .int .i64 1, .slice AP j cP] 27) = _) _ (Below.refl _ _)
                    go_wp2_with fail
                    rw [← hwc]
                    clear d0 d1 d2 d3 d4 d5 hwc hx2 hq2
                    refine (K.cert_no 1 1 none 0 0 [] none 0 0 [] 1 AP cP j (seqL j) q _ HW.out ⟨HNO.out _, HNO.out _, by omega, by omega⟩ (HNP.out _ hxc) (by omega) HI64.out).mono ?_
                    rintro e w3 ⟨rfl, hq3⟩
                    have hx3 : Below wr.heap.size wr w3 := hxc.trans (hq3.mono hxc.size)
                    have hq3h : Below wh.heap.size wh w3 := hqc.trans (hq3.mono hqc.size)
                    clear hq3 hxc hqc
                    go_wp2_with fail
                    refine (hnum_any _ _).mono ?_
                    rintro e w' ⟨rfl, rfl⟩
                    obtain ⟨q0, q1, q2, q3⟩ := HBX.out _ hq3h
                    have hfr : w3.frozen? ⟨wr.heap.size, 0, none⟩ = false := (hq3h.frozen (p := ⟨wr.heap.size, 0, none⟩) hsz).trans HFR.out
                    have hx5 : Below wr.heap.size wr (w3.setCell ⟨wr.heap.size, 0, none⟩ (.int .i64 ((q : Int) + 1))) := hx3.setCell (Nat.le_refl _) _
                    go_wp2_with fail
                    refine (K.check_no ((q : Int) + 1) 2 none 0 0 [] AP cP j (seqL j) q _ hdr_strange ⟨HNO.out _, HNP.out _ hx5, by omega, by omega⟩ HI64.out).mono ?_
                    rintro e w6 ⟨rfl, hq6⟩
                    have hx6 : Below wr.heap.size wr w6 := hx5.trans (hq6.mono hx5.size)
                    clear hq6 hx5 hx3 hq3h q0 q1 q2 q3 hfr
                    go_wp2_with fail
                    refine (hnum_any _ _).mono ?_
                    rintro e w' ⟨rfl, rfl⟩
                    go_wp2_with fail
                    refine (K.check_no 1 1 none 0 0 [] AL cL q (seqL q) q _ HF.out ⟨HNO.out _, HNL.out _ hx6, by omega, by omega⟩ HI64.out).mono ?_
                    rintro e w7 ⟨rfl, hq7⟩
                    have hx7 : Below wr.heap.size wr w7 := hx6.trans (hq7.mono hx6.size)
                    clear hq7 hx6
                    go_wp2_with fail
                    refine (hnum_any _ _).mono ?_
                    rintro e w' ⟨rfl, rfl⟩
                    go_wp2_with fail
                    go_roundw
                    case rel => exact ⟨j + 1, by go_num, by omega, hb1.trans (hx7.mono hb1.size)⟩
                    case measure => simp [intOf]; omega
        · have k1 : ¬ ((k : Int) ≤ (m : Int) + 1) := by omega
          go_wp2_with fail
          go_roundw
          case rel => exact ⟨m + 3, by go_num, by omega, by omega, by show (m + 3) % 3 = 1; have := h3.out; omega, hbk⟩
          case measure => simp [intOf]; omega
    · have j0 : ¬ ((m : Int) ≤ 16) := by omega
      go_wp2_with fail
      refine (hwakes_any K _).mono ?_
      rintro e w2 ⟨rfl, hbw⟩
      go_wp2_with fail
      go_ret
      exact ⟨rfl, hb.trans (hbw.mono hb.size)⟩

end Go.Proofs.Ytkgbnohmhjljoaa
