/-
  A way has room for so many messages: the walk of 'NetFull'.
-/
import Derived.Test.YtbffaaljommoeaaNLive
namespace Go.Proofs.Ytbffaaljommoeaa
open Go.RowKit

/-- the messages that are put in first -/
def upN (k : Nat) : List (List Int) := (List.range k).map fun i => [((i % 256 : Nat) : Int)]
theorem upN_length (k : Nat) : (upN k).length = k := by simp [upN]
theorem upN_next (k : Nat) : upN (k + 1) = upN k ++ [[((k % 256 : Nat) : Int)]] := by simp [upN, List.range_succ]
theorem upN_at {k j : Nat} (h : j < k) : (upN k)[j]? = some [((j % 256 : Nat) : Int)] := by simp [upN, h]
theorem put_self (L : PN) (k : Nat) (l : List (List Int)) : L.put k l k = l := by simp [PN.put]
theorem put_other (L : PN) {k j : Nat} (l : List (List Int)) (h : j ≠ k) : L.put k l j = L j := by simp [PN.put, h]
theorem put_put (L : PN) (k : Nat) (a b : List (List Int)) : (L.put k a).put k b = L.put k b := by
  funext j
  simp only [PN.put]
  split <;> rfl

def fullL : PN := nNone.put 35 (upN 1024)
def full2 : PN := fullL.put 50 [[]]
def full3 : PN := full2.put 35 (upN 1023)
def full4 : PN := full3.put 35 (upN 1023 ++ [[0]])
theorem both34 : bothN 3 4 = true := rfl
theorem both43 : bothN 4 3 = true := rfl
theorem way34 : wayN 3 4 = 35 := rfl
theorem way43 : wayN 4 3 = 50 := rfl
theorem full_step {k : Nat} (h : k < 1024) : nPut (nNone.put 35 (upN k)) 3 4 [((k % 256 : Nat) : Int)] = (nNone.put 35 (upN (k + 1)), 0) := by
  rw [nPut, if_neg (by rw [both34]; decide), way34, put_self, upN_length, if_neg (by omega), put_put, upN_next]
theorem full_put : nPut fullL 3 4 [] = (fullL, 8) := by
  rw [nPut, if_neg (by rw [both34]; decide), way34, fullL, put_self, upN_length, if_pos rfl]
theorem full_double : nDouble fullL 3 4 5 = (fullL, 8) := by
  rw [nDouble, if_neg ?_, way34, fullL, put_self, upN_length, if_pos rfl]
  rw [Bool.not_eq_false, hasK_iff, at_yes both34, way34, fullL, put_self, upN_length]
  omega
theorem full_count : (fullL.at_ 3 4).length = 1024 := by rw [at_yes both34, way34, fullL, put_self, upN_length]
theorem full_other : nPut fullL 4 3 [] = (full2, 0) := by
  rw [nPut, if_neg (by rw [both43]; decide), way43, fullL, put_other _ _ (by decide)]
  rw [if_neg (by simp [nNone])]
  rfl
theorem full2_35 : full2 (wayN 3 4) = upN 1024 := by rw [way34, full2, put_other _ _ (by decide), fullL, put_self]
theorem del_last : delN (upN 1024) 1023 = upN 1023 := by
  rw [delN, List.drop_of_length_le (by rw [upN_length]; exact Nat.le_refl _), List.append_nil, upN_next 1023, List.take_append_of_le_length (by rw [upN_length]; exact Nat.le_refl _), List.take_of_length_le (by rw [upN_length]; exact Nat.le_refl _)]
theorem full_take : full2.put (wayN 3 4) (delN (full2 (wayN 3 4)) 1023) = full3 := by rw [full2_35, del_last]; rfl
theorem full3_35 : full3.at_ 3 4 = upN 1023 := by rw [at_yes both34, way34, full3, put_self]
theorem full_none : hasK full3 3 4 1023 = false := by
  cases h : hasK full3 3 4 1023 with
  | false => rfl
  | true =>
    rw [hasK_iff, full3_35, upN_length] at h
    omega
theorem full_again : nDouble full3 3 4 0 = (full4, 0) := by
  rw [nDouble, if_neg ?_, way34, msgN, full3_35, show full3 35 = upN 1023 by rw [full3, put_self], upN_length, if_neg (by decide), show (0 : Int).toNat = 0 from rfl, upN_at (by decide)]
  · rfl
  rw [Bool.not_eq_false, hasK_iff, full3_35, upN_length]
  omega
theorem full_form1 : nPut full4 0 1 [] = (full4, 1) := by rw [nPut, if_pos (show bothN 0 1 = false from rfl)]
theorem full_form2 : nPut full4 1 17 [] = (full4, 1) := by rw [nPut, if_pos (show bothN 1 17 = false from rfl)]
theorem full_end1 : ((nClear full4 4).at_ 3 4).length = 0 := by rw [clr_at, if_pos rfl]; rfl
theorem full_end2 : ((nClear full4 4).at_ 4 3).length = 1 := by
  rw [clr_at, if_neg (by decide), at_yes both43, way43, full4, put_other _ _ (by decide), full3, put_other _ _ (by decide), full2, put_self]
  rfl

set_option maxRecDepth 100000 in
set_option maxHeartbeats 8000000 in
theorem netFull_is (A : Option Addr) (n c : Nat) (w : World) : Calls Try.prog 5 #[.slice A n c] w (Tells w.heap.size w (.bool true)) := by
  have hn0 : (0 : Int) ≤ (n : Int) := by omega
  go_enter Try.func5, Try.ntmps5
  go_wp2_with fail
  refine (live_new _).mono ?_
  rintro e w1 ⟨g, rfl, hl, hb⟩
  have HL := Lib.hid hl
  clear hl
  go_wp2_with fail
  go_loopw [4] (fun i wr => ∃ k : Nat, i = .int .i64 k ∧ k ≤ 1024 ∧ Hid (LiveN w.heap.size g (nNone.put 35 (upN k)) wr) ∧ Below w.heap.size w wr) (fun i _ => 1024 - (intOf i).toNat)
  case atStart => exact ⟨0, rfl, by omega, by
    have : nNone.put 35 (upN 0) = nNone := by funext j; simp only [PN.put]; split <;> rfl
    rw [this]
    exact HL.out, hb⟩
  case round =>
    obtain ⟨k, rfl, hk, HI, hbr⟩ := hrel
    by_cases hlt : k < 1024
    · have i1 : (k : Int) < 1024 := by omega
      have e1 : IntKind.u8.wrap (k : Int) = ((k % 256 : Nat) : Int) := by rw [IntKind.wrap_u8]; omega
      obtain ⟨x, hx⟩ : ∃ x : Int, ((k % 256 : Nat) : Int) = x := ⟨_, rfl⟩
      have hxb : Byt x := by unfold Byt; omega
      obtain ⟨w2, hw2⟩ : ∃ w2, w2 = wr.alloc (.cells #[.int .u8 x] 5) := ⟨_, rfl⟩
      have hb2 : Below wr.heap.size wr w2 := by rw [hw2]; exact (Below.refl _ _).alloc (Nat.le_refl _) _
      have hr2 : Rd w2 (some ⟨wr.heap.size, 0, none⟩) (u8s [x]) := by rw [hw2]; exact rd_new wr (u8s [x]) _
      have hbw2 := hbr.trans (hb2.mono hbr.size)
      have hst : nPut (nNone.put 35 (upN k)) 3 4 [x] = (nNone.put 35 (upN (k + 1)), 0) := by rw [← hx]; exact full_step hlt
      have HC := Lib.hid (live_put (HI.out.below hb2) 3 4 (some ⟨wr.heap.size, 0, none⟩) 1 1 [x] (by omega) (by omega) rfl hr2 (Byts.cons hxb Byts.nil) (by omega) hst)
      have HW := Lib.hid hw2
      rw [hx] at e1
      clear hw2 hr2 hst hxb hx hb2
      go_wp2_with fail
      rw [← HW.out]
      refine HC.out.mono ?_
      rintro e w3 ⟨rfl, hl3, hb3⟩
      have HL3 := Lib.hid hl3
      clear hl3
      go_wp2_with fail
      refine (num12_any _ _).mono ?_
      rintro e w' ⟨rfl, rfl⟩
      go_wp2_with fail
      go_roundw
      case rel => exact ⟨k + 1, by go_num, by omega, HL3.out, hbw2.trans hb3⟩
      case measure => simp [intOf]; omega
    · have i1 : ¬ ((k : Int) < 1024) := by omega
      obtain rfl : k = 1024 := by omega
      clear HL hb hlt hk
      have hI : LiveN w.heap.size g fullL wr := HI.out
      clear HI
      have H1 := Lib.hid (live_put hI 3 4 none 0 0 [] (by omega) (by omega) rfl (Rd.nil _ _) Byts.nil (by omega) full_put)
      clear hI
      go_wp2_with fail
      refine H1.out.mono ?_
      rintro e w1 ⟨rfl, hl1, hb1⟩
      have hb01 := hbr.trans hb1
      have H2 := Lib.hid (live_double hl1 3 4 5 (by omega) (by omega) full_double)
      clear hl1 H1 hb1 hbr
      go_wp2_with fail
      refine (num12_any _ _).mono ?_
      rintro e w' ⟨rfl, rfl⟩
      go_wp2_with fail
      refine H2.out.mono ?_
      rintro e w2 ⟨rfl, hl2, hb2⟩
      have hb02 := hb01.trans hb2
      have H3 := Lib.hid (live_count hl2 3 4 (by omega) (by omega) full_count)
      have H4 := Lib.hid (live_put hl2 4 3 none 0 0 [] (by omega) (by omega) rfl (Rd.nil _ _) Byts.nil (by omega) full_other)
      clear hl2 H2 hb2 hb01
      go_wp2_with fail
      refine (num12_any _ _).mono ?_
      rintro e w' ⟨rfl, rfl⟩
      go_wp2_with fail
      refine H3.out.mono ?_
      rintro e w' ⟨rfl, rfl⟩
      go_wp2_with fail
      refine H4.out.mono ?_
      rintro e w4 ⟨rfl, hl4, hb4⟩
      have hb04 := hb02.trans hb4
      have H5 := Lib.hid (live_take hl4 1023 1 [255] 3 4 (by omega) (by omega) both34 (by rw [full2_35]; exact upN_at (by decide)) rfl full_take)
      clear hl4 H3 H4 hb4 hb02
      go_wp2_with fail
      refine (num12_any _ _).mono ?_
      rintro e w' ⟨rfl, rfl⟩
      go_wp2_with fail
      refine H5.out.mono ?_
      rintro e w5 ⟨g5, c5, rfl, hwr5, hg5, hl5, hb5⟩
      have hb05 := hb04.trans hb5
      have H6 := Lib.hid (live_none hl5 3 4 1023 (by omega) (by omega) full_none)
      have HL5 := Lib.hid hl5
      have HWR := Lib.hid hwr5
      clear hl5 H5 hb5 hb04 hwr5
      go_wp2_with fail
      refine H6.out.mono ?_
      rintro e w' ⟨rfl, rfl⟩
      go_wp2_with fail
      refine (num12_any _ _).mono ?_
      rintro e w' ⟨rfl, rfl⟩
      obtain ⟨w6, hw6⟩ : ∃ w6, w6 = w5.alloc (.cells #[.int .u8 255] 5) := ⟨_, rfl⟩
      have hb6 : Below w5.heap.size w5 w6 := by rw [hw6]; exact (Below.refl _ _).alloc (Nat.le_refl _) _
      have hr6 : Rd w6 (some ⟨w5.heap.size, 0, none⟩) (u8s [255]) := by rw [hw6]; exact rd_new w5 (u8s [255]) _
      have hb06 := hb05.trans (hb6.mono hb05.size)
      have H7 := Lib.hid (eqBytes_any (some ⟨g5, 0, none⟩) (some ⟨w5.heap.size, 0, none⟩) c5 1 1 1 [255] [255] w6 rfl rfl (HWR.out.rd.below hb6) hr6 (by omega) (by omega))
      have HL6 := Lib.hid (HL5.out.below hb6)
      have HW6 := Lib.hid hw6
      clear hw6 hr6 hb6 hb05 H6
      go_wp2_with fail
      rw [← HW6.out]
      refine H7.out.mono ?_
      rintro e w7 ⟨rfl, d, rfl⟩
      have hb07 : Below w.heap.size w (w6.drewN d) := below_n hb06 d
      have hl7 : LiveN w.heap.size g full3 (w6.drewN d) := HL6.out.below (below_n (Below.refl _ _) d)
      have H8 := Lib.hid (live_double hl7 3 4 0 (by omega) (by omega) full_again)
      clear hl7 H7 hb06
      go_wp2_with fail
      refine (num12_any _ _).mono ?_
      rintro e w' ⟨rfl, rfl⟩
      go_wp2_with fail
      refine H8.out.mono ?_
      rintro e w8 ⟨rfl, hl8, hb8⟩
      have hb08 := hb07.trans hb8
      have H9 := Lib.hid (live_put hl8 0 1 none 0 0 [] (by omega) (by omega) rfl (Rd.nil _ _) Byts.nil (by omega) full_form1)
      clear hl8 hb8 hb07 H8
      go_wp2_with fail
      refine (num12_any _ _).mono ?_
      rintro e w' ⟨rfl, rfl⟩
      go_wp2_with fail
      refine H9.out.mono ?_
      rintro e w9 ⟨rfl, hl9, hb9⟩
      have hb09 := hb08.trans hb9
      have H10 := Lib.hid (live_put hl9 1 17 none 0 0 [] (by omega) (by omega) rfl (Rd.nil _ _) Byts.nil (by omega) full_form2)
      clear hl9 hb9 hb08 H9
      go_wp2_with fail
      refine (num12_any _ _).mono ?_
      rintro e w' ⟨rfl, rfl⟩
      go_wp2_with fail
      refine H10.out.mono ?_
      rintro e w10 ⟨rfl, hl10, hb10⟩
      have hb010 := hb09.trans hb10
      have H11 := Lib.hid (live_clear hl10 4 (by omega) rfl)
      clear hl10 hb10 hb09 H10
      go_wp2_with fail
      refine (num12_any _ _).mono ?_
      rintro e w' ⟨rfl, rfl⟩
      go_wp2_with fail
      refine H11.out.mono ?_
      rintro e w11 ⟨rfl, hl11, hb11⟩
      have hb011 := hb010.trans hb11
      have H12 := Lib.hid (live_count hl11 3 4 (by omega) (by omega) full_end1)
      have H13 := Lib.hid (live_count hl11 4 3 (by omega) (by omega) full_end2)
      have z11 := hl11.le
      clear hl11 hb11 hb010 H11
      go_wp2_with fail
      refine H12.out.mono ?_
      rintro e w' ⟨rfl, rfl⟩
      go_wp2_with fail
      refine H13.out.mono ?_
      rintro e w' ⟨rfl, rfl⟩
      go_wp2_with fail
      refine (wakes12_any _).mono ?_
      rintro e w12 ⟨rfl, hb12⟩
      have hb012 := hb011.trans (hb12.mono z11)
      go_wp2_with fail
      go_ret
      exact ⟨rfl, hb012⟩

end Go.Proofs.Ytbffaaljommoeaa
