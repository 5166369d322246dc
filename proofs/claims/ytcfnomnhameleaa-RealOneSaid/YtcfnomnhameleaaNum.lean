/-
  The walks of package wire on one number: its size, its bytes, what it is read as.
-/
import Derived.Test.YtcfnomnhameleaaHelp
import Derived.Test.YtcfnomnhameleaaZA
import Derived.Test.YtcfnomnhameleaaShelf
namespace Go.Proofs.Ytcfnomnhameleaa
open Go.RowKit

/-! ### how long a number's bytes are -/
theorem bitLen_lt (x k : Nat) (h : x < 2 ^ k) : Lib.bitLen x ≤ k := by
  rcases Nat.lt_or_ge 64 k with hk | hk
  · have := Lib.bitLenAux_le 64 x k h
    exact this
  · exact Lib.bitLen_le x k hk h
theorem bitLen_ge (x k : Nat) (hx : x < 2 ^ 64) (h : 2 ^ k ≤ x) : k + 1 ≤ Lib.bitLen x := by
  rw [Lib.bitLen_shift k x h hx]
  have : x / 2 ^ k ≠ 0 := by
    have := (Nat.le_div_iff_mul_le (Nat.pow_pos (n := k) (by decide : 0 < 2))).2 (by simpa using h : 1 * 2 ^ k ≤ x)
    omega
  have h2 := Lib.bitLen_half (x / 2 ^ k) this (Nat.lt_of_le_of_lt (Nat.div_le_self _ _) hx)
  omega

theorem pow_seven (k : Nat) : (128 : Nat) ^ k = 2 ^ (7 * k) := by rw [Nat.pow_mul]

theorem size_eq (n : Nat) (h : n < 9223372036854775808) : ((max 1 ((Lib.bitLen n + 6) / 7) : Nat)) = (vnum n).length := by
  rcases Nat.lt_or_ge n 128 with hl | hl
  · rw [vnum_lt hl]
    have := bitLen_lt n 7 (by omega)
    simp; omega
  · have hp := vnum_pos n
    have hL := vnum_len_le n h
    -- the length L: 128^(L-1) ≤ n < 128^L
    have key : ∀ (j m : Nat), m < 128 ^ (j + 1) → 0 < m → 128 ^ ((vnum m).length - 1) ≤ m ∧ m < 128 ^ (vnum m).length := by
      intro j
      induction j with
      | zero => intro m hm h0; rw [vnum_lt (by simpa using hm)]; simp at hm ⊢; omega
      | succ j ih =>
        intro m hm h0
        rcases Nat.lt_or_ge m 128 with hs | hs
        · rw [vnum_lt hs]; simp; omega
        · rw [vnum_ge hs]
          obtain ⟨a, b⟩ := ih (m / 128) (by rw [pow_up] at hm; exact Nat.div_lt_of_lt_mul hm) (by omega)
          have hq := vnum_pos (m / 128)
          simp only [List.length_cons, Nat.add_sub_cancel]
          constructor
          · rw [show (vnum (m / 128)).length = ((vnum (m / 128)).length - 1) + 1 by omega, pow_up]
            have := Nat.mul_le_mul_left 128 a
            omega
          · rw [pow_up]
            have := Nat.mul_le_mul_left 128 (show m / 128 + 1 ≤ 128 ^ (vnum (m / 128)).length from b)
            omega
    obtain ⟨a, b⟩ := key 8 n (by rw [two63]; exact h) (by omega)
    rw [pow_seven] at a b
    have h1 := bitLen_lt n _ b
    have h2 := bitLen_ge n _ (by omega) a
    omega

set_option maxHeartbeats 400000 in
theorem numSize_any (n : Nat) (h : n < 9223372036854775808) (w : World) :
    Calls Try.prog 103 #[.int .i64 n] w fun e w' => e = .returned (.int .i64 ((vnum n).length : Nat)) ∧ w = w' := by
  have hs := size_eq n h
  have hb := bitLen_lt n 63 (by omega)
  have HS := Lib.hid hs
  clear hs
  go_enter Try.func103, Try.ntmps103
  go_wp2_with fail
  refine (Try.bits_Len (n : Int) _ (by omega) (by omega)).mono ?_
  rintro e w' ⟨rfl, rfl⟩
  rw [Int.toNat_natCast]
  go_wp2_with fail
  go_ret
  exact ⟨ret_int (by rw [← HS.out]; omega), rfl⟩

/-! ### a number's bytes -/
theorem wraps_i64 (n : Int) (h₀ : 0 ≤ n) (h₁ : n < 2 ^ 63) : IntKind.i64.wrap n = n := by rw [IntKind.wrap_i64]; omega
theorem and127 (m : Nat) (h : m < 9223372036854775808) : bits .and .i64 (m : Int) 127 = ((m % 128 : Nat) : Int) := by
  have := bits_mask .i64 63 (by decide) wraps_i64 7 (by decide) (m : Int) (by omega) (by omega)
  rw [show (2 : Int) ^ 7 - 1 = 127 by decide] at this
  rw [this]; omega
theorem bor_i64 (a b : Nat) (ha : a < 9223372036854775808) (hb : b < 9223372036854775808) : bits .or .i64 (a : Int) (b : Int) = ((a ||| b : Nat) : Int) :=
  bits_nat .i64 63 (by decide) wraps_i64 a b ha hb |>.2
theorem or128 (m : Nat) : bits .or .i64 ((m : Int) % 128) 128 = (m : Int) % 128 + 128 := by
  have h := bor_i64 (m % 128) 128 (by omega) (by omega)
  have e : m % 128 ||| 128 = 128 + m % 128 := by rw [Nat.or_comm]; exact nat_join 7 128 (m % 128) (by decide) (by omega)
  rw [e] at h
  have e1 : ((m % 128 : Nat) : Int) = (m : Int) % 128 := by omega
  rw [e1] at h
  rw [show ((128 : Nat) : Int) = 128 from rfl] at h
  rw [h]; omega

set_option maxHeartbeats 400000 in
theorem appendNum_any (B : Nat) (v : Value) (l : Nat) (xs : List Value) (n : Nat) (w : World) (hown : w.ownsRow B 5 1 v l xs) (hl : l ≤ 1073741824) (hn : n < 9223372036854775808) (hB : B ≤ w.heap.size) :
    Calls Try.prog 104 #[v, .int .i64 n] w (Made B 5 w (xs ++ u8s (vnum n))) := by
  have hlen := vnum_len_le n hn
  go_enter Try.func104, Try.ntmps104
  go_wp2
  go_loopw [0, 1] (fun v' i wr => ∃ (m : Nat) (pre : List Int), i = .int .i64 m ∧ m ≤ n ∧ vnum n = pre ++ vnum m ∧ wr.ownsRow B 5 1 v' (l + pre.length) (xs ++ u8s pre) ∧ Below B w wr) (fun _ i _ => (intOf i).toNat)
  case atStart => exact ⟨n, [], rfl, by omega, rfl, by simpa [u8s] using hown, Below.refl _ _⟩
  case round =>
    obtain ⟨m, pre, rfl, hm, hv, ho, hb⟩ := hrel
    clear hown
    have hpl : pre.length ≤ 9 := by have := congrArg List.length hv; simp at this; omega
    by_cases hlt : m < 128
    · rw [vnum_lt hlt] at hv
      have HV := Lib.hid hv
      clear hv
      have i1 : ¬ (127 < (m : Int)) := by omega
      go_wp2_with (at_builtin; refine wpList_app_one _ rfl _ _ 60 rfl B 5 (.int .u8 0) 1 Try.underlying60 info_u8 rfl (by decide) _ (l + pre.length) _ rfl (ho.alloc _) wr.heap.size (.int .u8 m) rfl (cell_new _ _ _) rfl (by omega) (by have := hb.size; simp; omega) ?_)
      intro v' w1 hown1 hb1
      go_wp2
      go_ret
      refine ⟨_, rfl, ?_, (hb.alloc (by have := hb.size; omega) _).trans hb1⟩
      have hx := ho.1
      refine own_conv hown1 ?_ ?_
      · rw [HV.out, u8s_append]; simp [u8s]
      · have := ho.1
        rw [HV.out]
        simp [u8s] at this ⊢
        omega
    · rw [vnum_ge (n := m) (by omega)] at hv
      have HV := Lib.hid hv
      clear hv
      have i1 : (127 < (m : Int)) := by omega
      have b1 := and127 m (by omega)
      have b2 := or128 m
      have b3 : ((m : Int) % 128 + 128) % 256 = (m : Int) % 128 + 128 := by omega
      have i2 : 0 ≤ (m : Int) % 128 := by omega
      have i3 : (m : Int) % 128 < 128 := by omega
      go_wp2_with (at_builtin; refine wpList_app_one _ rfl _ _ 60 rfl B 5 (.int .u8 0) 1 Try.underlying60 info_u8 rfl (by decide) _ (l + pre.length) _ rfl (ho.alloc _) wr.heap.size (.int .u8 ((m : Int) % 128 + 128)) rfl (cell_new _ _ _) rfl (by omega) (by have := hb.size; simp; omega) ?_)
      intro v' w1 hown1 hb1
      have hown2 := own_conv (n' := l + (pre ++ [((m % 128 + 128 : Nat) : Int)]).length) (ys := xs ++ u8s (pre ++ [((m % 128 + 128 : Nat) : Int)])) hown1 (by rw [u8s_append]; simp [u8s]) (by simp; omega)
      have hb2 := (hb.alloc (by have := hb.size; omega) _).trans hb1
      clear hown1 ho hb1 hb
      go_wp2
      go_roundw
      case rel => exact ⟨m / 128, pre ++ [((m % 128 + 128 : Nat) : Int)], by go_num, by omega, by rw [HV.out]; simp, hown2, hb2⟩
      case measure => simp [intOf]; omega

set_option maxHeartbeats 400000 in
theorem num_yes (n : Nat) (w : World) (hn : n < 9223372036854775808) :
    Calls Try.prog 95 #[.int .i64 n] w (Made2 w.heap.size 5 w (u8s (vnum n)) (.int .i64 0)) := by
  have hlen := vnum_len_le n hn
  go_enter Try.func95, Try.ntmps95
  go_wp2_with fail
  refine (numSize_any n hn _).mono ?_
  rintro e w' ⟨rfl, rfl⟩
  go_wp2_with (at_make; refine wpList_make_room _ rfl _ _ 60 rfl w.heap.size 5 (.int .u8 0) 1 Try.underlying60 info_u8 (by decide) (vnum n).length rfl rfl (by omega) (Nat.le_refl _) ?_)
  intro v w1 hown hb
  go_wp2_with fail
  refine (appendNum_any w.heap.size v 0 [] n w1 hown (by omega) hn (by have := hb.size; omega)).mono ?_
  rintro e w2 ⟨v2, rfl, hown2, hb2⟩
  go_wp2_with fail
  go_ret2
  exact ⟨_, rfl, hown2, hb.trans hb2⟩

set_option maxHeartbeats 400000 in
theorem num_no (n : Int) (w : World) (hn : n < 0) :
    Calls Try.prog 95 #[.int .i64 n] w fun e w' => e = .returned (.tuple #[.slice none 0 0, .int .i64 1]) ∧ w = w' := by
  go_enter Try.func95, Try.ntmps95
  go_wp2_with fail
  go_ret2
  exact ⟨rfl, rfl⟩

/-! ### what a number is read as -/
/-- what GetNum tells -/
def gnVal : Option (Nat × Nat) → Value
  | some (m, k) => .tuple #[.int .i64 (m : Int), .int .i64 (k : Int), .int .i64 0]
  | none => .tuple #[.int .i64 0, .int .i64 0, .int .i64 1]

/-- what holds at the label: nothing but that the answer is none -/
def Wrong37 (p : Prop) (w : World) (a' : Act) (w' : World) : Prop :=
  p ∧ w' = w ∧ ∃ u0 u1 u2 u3 u4 u5 u6 u7 u8 u9 u10 u11 u12 u13 u14 u15 u16 u17 u18 u19 u20 u21 u22 u23 u24 u25 u26 u27 u28 u29 u30 u31 u32 u33 u34 u35 u36 : Value, a' = { tmps := #[u0, u1, u2, u3, u4, u5, u6, u7, u8, u9, u10, u11, u12, u13, u14, u15, u16, u17, u18, u19, u20, u21, u22, u23, u24, u25, u26, u27, u28, u29, u30, u31, u32, u33, u34, u35, u36], defers := [] }

theorem byte_and127 {c : Int} (h : Byt c) : bits .and .u8 c 127 = c % 128 := bits_mask .u8 8 (by decide) wraps_u8 7 (by decide) c h.1 (by have := h.2; omega)
theorem byte_and128_lo {c : Int} (h : Byt c) (hl : c < 128) : bits .and .u8 c 128 = 0 := by
  obtain ⟨m, rfl⟩ := Int.eq_ofNat_of_zero_le h.1
  have h1 := u8_and_nat m 128 (by have := h.2; omega) (by decide)
  have h2 := nat_bit 7 m
  have h3 : m / 2 ^ 7 % 2 * 2 ^ 7 = 0 := by omega
  rw [h3] at h2
  rw [show (2 : Nat) ^ 7 = 128 from rfl] at h2
  rw [h2] at h1
  exact h1
theorem byte_and128_hi {c : Int} (h : Byt c) (hl : 128 ≤ c) : bits .and .u8 c 128 = 128 := by
  obtain ⟨m, rfl⟩ := Int.eq_ofNat_of_zero_le h.1
  have h1 := u8_and_nat m 128 (by have := h.2; omega) (by decide)
  have h2 := nat_bit 7 m
  have h3 : m / 2 ^ 7 % 2 * 2 ^ 7 = 128 := by have := h.2; omega
  rw [h3] at h2
  rw [show (2 : Nat) ^ 7 = 128 from rfl] at h2
  rw [h2] at h1
  exact h1

theorem or_shift {acc k : Nat} {c : Int} (hk : k ≤ 8) (ha : acc < 128 ^ k) (h : Byt c) :
    bits .or .i64 (acc : Int) (wrap64 (c % 128 * 2 ^ (7 * k))) = ((acc + c.toNat % 128 * 128 ^ k : Nat) : Int) := by
  obtain ⟨m, rfl⟩ := Int.eq_ofNat_of_zero_le h.1
  have hp : 128 ^ k ≤ 128 ^ 8 := Nat.pow_le_pow_right (by decide) hk
  have h8 : (128 : Nat) ^ 8 = 72057594037927936 := by decide
  have hx : m % 128 * 128 ^ k ≤ 127 * 128 ^ k := Nat.mul_le_mul_right _ (by omega)
  have e1 : ((m : Int) % 128 * 2 ^ (7 * k)) = ((m % 128 * 128 ^ k : Nat) : Int) := by
    rw [pow_seven]; simp
  rw [e1, wrap64, Int.toNat_natCast]
  have e2 : (((m % 128 * 128 ^ k : Nat) : Int) + 9223372036854775808) % 18446744073709551616 - 9223372036854775808 = ((m % 128 * 128 ^ k : Nat) : Int) := by omega
  rw [e2, bor_i64 _ _ (by omega) (by omega), pow_seven, Nat.or_comm, nat_join (7 * k) _ acc (Nat.mul_mod_left _ _) (by rw [← pow_seven]; exact ha), Nat.add_comm]

theorem gnVal_last {zs : List Int} {acc k : Nat} {c v : Int} (hc : c < 128) (h0 : Byt c) (hv : v = ((acc + c.toNat % 128 * 128 ^ k : Nat) : Int)) (hg : gn 0 0 zs = some (acc + c.toNat * 128 ^ k, k + 1)) :
    Ending.returned (.tuple #[.int .i64 v, .int .i64 ((k : Int) + 1), .int .i64 0]) = .returned (gnVal (gn 0 0 zs)) := by
  rw [hg, hv]
  have e : c.toNat % 128 = c.toNat := by have := h0.1; omega
  rw [e]
  simp [gnVal]

end Go.Proofs.Ytcfnomnhameleaa
