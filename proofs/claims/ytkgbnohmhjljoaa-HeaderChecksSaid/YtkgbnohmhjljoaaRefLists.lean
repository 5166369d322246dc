/-
  The walks of the page's own answers on lists.
-/
import Derived.Test.YtkgbnohmhjljoaaRef
import Derived.Test.YtkgbnohmhjljoaaGets
namespace Go.Proofs.Ytkgbnohmhjljoaa
open Go.RowKit

set_option maxRecDepth 100000 in
set_option maxHeartbeats 1000000 in
theorem rnums_yes (A : Option Addr) (c n : Nat) (L : List Nat) (w : World) (hz : L.length = n) (hr : Rd w A (i64s (nats L))) (hn : n ≤ 1048576) (h63 : ∀ m ∈ L, m < 9223372036854775808) (hfit : (putNums L).length ≤ 1048576) :
    Calls Try.prog 44 #[.slice A n c] w (Made2 w.heap.size 5 w (u8s (putNums L)) (.bool true)) := by
  rw [putNums, hz] at hfit ⊢
  simp only [List.length_append] at hfit
  have HZ := Lib.hid hz
  have H63 := Lib.hid h63
  clear hz h63
  go_enter Try.func44, Try.ntmps44
  go_wp2_with fail
  refine (rnum_any n _ (by omega)).mono ?_
  rintro e w1 ⟨v, rfl, hown, hb1⟩
  go_wp2_with fail
  go_loopw [4, 5] (fun v i wr => ∃ k K : Nat, i = .int .i64 k ∧ k ≤ n ∧ wr.ownsRow w.heap.size 5 1 v K (u8s (vnum n ++ preN L k)) ∧ Below w.heap.size w wr) (fun _ i _ => n - (intOf i).toNat)
  case atStart => exact ⟨0, _, rfl, by omega, by rw [preN_zero, List.append_nil]; exact hown, hb1⟩
  case round =>
    obtain ⟨k, K, rfl, hk, ho, hb⟩ := hrel
    clear hown hb1
    have hKl := ho.1
    by_cases hlt : k < n
    · obtain ⟨b, off, rfl, hbl, hcell⟩ := (hr.below hb).open_ (by rw [i64s_length, nats_length, HZ.out]; omega)
      have hc1 := hcell k _ (i64s_at (by rw [nats_length, HZ.out]; exact hlt))
      rw [nats_at (by rw [HZ.out]; exact hlt)] at hc1
      obtain ⟨m, hs⟩ : ∃ m, m = L[k]?.getD 0 := ⟨_, rfl⟩
      rw [← hs] at hc1
      have hsome : L[k]? = some m := by rw [hs]; exact getD_some (by rw [HZ.out]; exact hlt)
      have hm63 : m < 9223372036854775808 := by rw [hs]; exact H63.out _ (getD_mem (by rw [HZ.out]; exact hlt))
      have hst := vnums_step hsome
      have hst1 := congrArg List.length hst
      have hle := vnums_le L (k + 1)
      simp only [List.length_append] at hst1
      rw [u8s_length, List.length_append] at hKl
      have hK2 : K + (vnum m).length ≤ 1048576 := by omega
      have HS := Lib.hid hst
      have i0 : (0 : Int) ≤ (k : Int) := by omega
      have i1 : (k : Int) < (n : Int) := by omega
      have i2 : ¬ ((m : Int) < 0) := by omega
      clear hcell hst hst1 hle hs hsome hKl
      go_wp2_with fail
      refine (rnum_any m _ hm63).mono ?_
      rintro e w2 ⟨v2, rfl, ho2, hb2⟩
      obtain ⟨A2, c2, rfl, _, _, hr2, _, hl2⟩ := own_val ho2
      have ho' := own_below ho hb2
      have hl3 : (u8s (vnum m)).length = (vnum m).length := u8s_length _
      rw [hl3] at hl2 ⊢
      have HL2 := Lib.hid hl2
      have HL3 := Lib.hid hl3
      clear hl2 hl3 ho2 ho
      go_wp2_with (at_builtin; refine wpList_app_list _ rfl _ _ 28 rfl w.heap.size 5 (.int .u8 0) 1 Try.underlying28 info_u8 rfl (by decide) _ K _ rfl ho' A2 (vnum m).length c2 (u8s (vnum m)) rfl HL3.out.symm hr2 (u8s_one _) (by omega) (by have := hb.size; have := hb2.size; omega) ?_)
      intro v4 w4 ho4 hb4
      have ho5 : w4.ownsRow w.heap.size 5 1 v4 (K + (vnum m).length) (u8s (vnum n ++ preN L (k + 1))) := own_conv ho4 (by rw [HS.out]; simp only [u8s_append, List.append_assoc]) rfl
      have hb5 := (hb.trans (hb2.mono hb.size)).trans hb4
      clear ho4 ho' hb2 hb4
      go_wp2_with fail
      go_roundw
      case rel => exact ⟨k + 1, _, by go_num, by omega, ho5, hb5⟩
      case measure => simp [intOf]; omega
    · obtain rfl : k = n := by omega
      rw [preN_all HZ.out] at ho
      obtain ⟨A2, c2, rfl, _, _, _, _, hl2⟩ := own_val ho
      rw [u8s_length, List.length_append] at hl2
      have hK2 : K ≤ 1048576 := by omega
      have hK3 : (K : Int) ≤ 1048576 := by omega
      have i1 : ¬ ((k : Int) < (k : Int)) := by omega
      clear hl2
      go_wp2_with fail
      go_ret2
      exact ⟨_, rfl, own_cast ho (by have := ho.1; omega), hb⟩

set_option maxRecDepth 100000 in
set_option maxHeartbeats 1000000 in
theorem rnums_no (A : Option Addr) (c n q : Nat) (l : List Int) (w : World) (hz : l.length = n) (hr : Rd w A (i64s l)) (hn : n ≤ 1048576) (hw : ∀ m ∈ l, m ≤ 9223372036854775807) (hq : Neg l q) :
    Calls Try.prog 44 #[.slice A n c] w fun e w' => e = .returned (.tuple #[.slice none 0 0, .bool false]) ∧ Below w.heap.size w w' := by
  obtain ⟨q1, q2, q3⟩ := hq
  rw [hz] at q1
  have HZ := Lib.hid hz
  have HW := Lib.hid hw
  have H3 := Lib.hid q3
  clear hz hw q3
  have hlen := vnum_len_le n (by omega)
  go_enter Try.func44, Try.ntmps44
  go_wp2_with fail
  refine (rnum_any n _ (by omega)).mono ?_
  rintro e w1 ⟨v, rfl, hown, hb1⟩
  go_wp2_with fail
  go_loopw [4, 5] (fun v i wr => ∃ (k K : Nat) (X : List Value), i = .int .i64 k ∧ k ≤ q ∧ wr.ownsRow w.heap.size 5 1 v K X ∧ K ≤ 9 + 9 * k ∧ Below w.heap.size w wr) (fun _ i _ => n - (intOf i).toNat)
  case atStart => exact ⟨0, _, _, rfl, by omega, hown, by rw [u8s_length]; omega, hb1⟩
  case round =>
    obtain ⟨k, K, X, rfl, hk, ho, hK, hb⟩ := hrel
    clear hown hb1
    have hlt : k < n := by omega
    obtain ⟨b, off, rfl, hbl, hcell⟩ := (hr.below hb).open_ (by rw [i64s_length, HZ.out]; omega)
    have hc1 := hcell k _ (i64s_at (by rw [HZ.out]; exact hlt))
    have hle := HW.out _ (getD_mem (d := 0) (i := k) (by rw [HZ.out]; exact hlt))
    clear hcell
    have i0 : (0 : Int) ≤ (k : Int) := by omega
    have i1 : (k : Int) < (n : Int) := by omega
    by_cases hkq : k < q
    · have h0 := H3.out k hkq
      obtain ⟨m, hm⟩ : ∃ m : Nat, l[k]?.getD 0 = (m : Int) := ⟨(l[k]?.getD 0).toNat, by omega⟩
      rw [hm] at hc1 hle
      have hm63 : m < 9223372036854775808 := by omega
      have hml := vnum_len_le m hm63
      have i2 : ¬ ((m : Int) < 0) := by omega
      clear hm h0 hle
      go_wp2_with fail
      refine (rnum_any m _ hm63).mono ?_
      rintro e w2 ⟨v2, rfl, ho2, hb2⟩
      obtain ⟨A2, c2, rfl, _, _, hr2, _, hl2⟩ := own_val ho2
      have ho' := own_below ho hb2
      have hl3 : (u8s (vnum m)).length = (vnum m).length := u8s_length _
      rw [hl3] at hl2 ⊢
      have HL2 := Lib.hid hl2
      have HL3 := Lib.hid hl3
      clear hl2 hl3 ho2 ho
      go_wp2_with (at_builtin; refine wpList_app_list _ rfl _ _ 28 rfl w.heap.size 5 (.int .u8 0) 1 Try.underlying28 info_u8 rfl (by decide) _ K _ rfl ho' A2 (vnum m).length c2 (u8s (vnum m)) rfl HL3.out.symm hr2 (u8s_one _) (by omega) (by have := hb.size; have := hb2.size; omega) ?_)
      intro v4 w4 ho4 hb4
      have hb5 := (hb.trans (hb2.mono hb.size)).trans hb4
      clear ho' hb2 hb4
      go_wp2_with fail
      go_roundw
      case rel => exact ⟨k + 1, _, _, by go_num, by omega, ho4, by omega, hb5⟩
      case measure => simp [intOf]; omega
    · obtain rfl : k = q := by omega
      go_wp2_with fail
      go_ret2
      exact ⟨rfl, hb⟩

end Go.Proofs.Ytkgbnohmhjljoaa
