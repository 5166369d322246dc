/-
  The walks of the page's own answers on one number.
-/
import Derived.Test.YtkgbnohmhjljoaaNum
namespace Go.Proofs.Ytkgbnohmhjljoaa
open Go.RowKit

theorem vnum_len_below (j : Nat) : ∀ n, n < 128 ^ (j + 1) → (vnum n).length ≤ j + 1 := by
  induction j with
  | zero => intro n hn; rw [vnum_lt (by simpa using hn)]; simp
  | succ j ih =>
    intro n hn
    rcases Nat.lt_or_ge n 128 with h | h
    · rw [vnum_lt h]; simp
    · rw [vnum_ge h]
      have := ih (n / 128) (by rw [pow_up] at hn; exact Nat.div_lt_of_lt_mul hn)
      simp; omega

theorem or128u (m : Nat) : bits .or .u8 ((m : Int) % 128) 128 = (m : Int) % 128 + 128 := by
  have h := u8_or_nat (m % 128) 128 (by omega) (by omega)
  have e : m % 128 ||| 128 = 128 + m % 128 := by rw [Nat.or_comm]; exact nat_join 7 128 (m % 128) (by decide) (by omega)
  rw [e] at h
  have e1 : ((m % 128 : Nat) : Int) = (m : Int) % 128 := by omega
  rw [e1] at h
  rw [show ((128 : Nat) : Int) = 128 from rfl] at h
  rw [h]; omega

set_option maxRecDepth 100000 in
set_option maxHeartbeats 400000 in
theorem rnum_any (n : Nat) (w : World) (hn : n < 9223372036854775808) :
    Calls Try.prog 60 #[.int .i64 n] w (Made w.heap.size 5 w (u8s (vnum n))) := by
  have hlen := vnum_len_le n hn
  go_enter Try.func60, Try.ntmps60
  go_wp2
  go_loopw [0, 3] (fun i v' wr => ∃ (m : Nat) (pre : List Int), i = .int .i64 m ∧ m ≤ n ∧ vnum n = pre ++ vnum m ∧ wr.ownsRow w.heap.size 5 1 v' pre.length (u8s pre) ∧ Below w.heap.size w wr) (fun i _ _ => (intOf i).toNat)
  case atStart => exact ⟨n, [], rfl, by omega, rfl, World.ownsRow_nil _ _ _ _, Below.refl _ _⟩
  case round =>
    obtain ⟨m, pre, rfl, hm, hv, ho, hb⟩ := hrel
    have hpl : pre.length ≤ 9 := by have := congrArg List.length hv; simp at this; omega
    by_cases hlt : m < 128
    · rw [vnum_lt hlt] at hv
      have HV := Lib.hid hv
      clear hv
      have i1 : (m : Int) < 128 := by omega
      go_wp2_with (at_builtin; refine wpList_app_one _ rfl _ _ 28 rfl w.heap.size 5 (.int .u8 0) 1 Try.underlying28 info_u8 rfl (by decide) _ pre.length _ rfl (ho.alloc _) wr.heap.size (.int .u8 m) rfl (cell_new _ _ _) rfl (by omega) (by have := hb.size; simp; omega) ?_)
      intro v' w1 hown1 hb1
      go_wp2
      go_ret
      refine ⟨_, rfl, own_conv hown1 ?_ ?_, (hb.alloc (by have := hb.size; omega) _).trans hb1⟩
      · rw [HV.out, u8s_append]; simp [u8s]
      · rw [HV.out, u8s_length]; simp
    · rw [vnum_ge (n := m) (by omega)] at hv
      have HV := Lib.hid hv
      clear hv
      have i1 : 128 ≤ (m : Int) := by omega
      have b2 := or128u m
      have b3 : ((m : Int) % 128) % 256 = (m : Int) % 128 := by omega
      have i2 : 0 ≤ (m : Int) % 128 := by omega
      have i3 : (m : Int) % 128 < 128 := by omega
      go_wp2_with (at_builtin; refine wpList_app_one _ rfl _ _ 28 rfl w.heap.size 5 (.int .u8 0) 1 Try.underlying28 info_u8 rfl (by decide) _ pre.length _ rfl (ho.alloc _) wr.heap.size (.int .u8 ((m : Int) % 128 + 128)) rfl (cell_new _ _ _) rfl (by omega) (by have := hb.size; simp; omega) ?_)
      intro v' w1 hown1 hb1
      have hown2 := own_conv (n' := (pre ++ [((m % 128 + 128 : Nat) : Int)]).length) (ys := u8s (pre ++ [((m % 128 + 128 : Nat) : Int)])) hown1 (by rw [u8s_append]; simp [u8s]) (by simp)
      have hb2 := (hb.alloc (by have := hb.size; omega) _).trans hb1
      clear hown1 ho hb1 hb
      go_wp2
      go_roundw
      case rel => exact ⟨m / 128, pre ++ [((m % 128 + 128 : Nat) : Int)], by go_num, by omega, by rw [HV.out]; simp, hown2, hb2⟩
      case measure => simp [intOf]; omega

/-- what the page's GetNum tells -/
def rgnVal : Option (Nat × Nat) → Value
  | some (m, k) => .tuple #[.int .i64 (m : Int), .int .i64 (k : Int)]
  | none => .tuple #[.int .i64 0, .int .i64 0]

theorem len_last {acc k : Nat} {c : Int} (hk : k ≤ 8) (ha : acc < 128 ^ k) (hc : c < 128) (h0 : Byt c) :
    ((vnum (acc + c.toNat % 128 * 128 ^ k)).length = k + 1) ↔ ¬ (c = 0 ∧ 0 < k) := by
  have e : c.toNat % 128 = c.toNat := by have := h0.1; omega
  rw [e]
  constructor
  · rintro h ⟨rfl, hk0⟩
    have := vnum_len_below (k - 1) acc (by rw [show k - 1 + 1 = k by omega]; exact ha)
    simp at h
    omega
  · intro h
    have hm : c.toNat * 128 ^ k + 128 ^ k ≤ 128 * 128 ^ k := by
      have := Nat.mul_le_mul_right (128 ^ k) (show c.toNat + 1 ≤ 128 by omega)
      rw [Nat.add_mul] at this
      omega
    refine vnum_len (by omega) (by rw [pow_up]; omega) ?_
    by_cases hz : c = 0
    · left
      have : ¬ 0 < k := fun hk0 => h ⟨hz, hk0⟩
      omega
    · right
      have h1 : 1 ≤ c.toNat := by have := h0.1; omega
      have := Nat.mul_le_mul_right (128 ^ k) h1
      simp
      omega

set_option maxRecDepth 100000 in
set_option maxHeartbeats 1000000 in
theorem rgetNum_any (A : Option Addr) (c n : Nat) (zs : List Int) (w : World) (hz : zs.length = n) (hr : Rd w A (u8s zs)) (hy : Byts zs) (hn : n ≤ 1073741824) :
    Calls Try.prog 62 #[.slice A n c] w fun e w' => e = .returned (rgnVal (gn 0 0 zs)) ∧ Below w.heap.size w w' := by
  have HZ := Lib.hid hz
  clear hz
  go_enter Try.func62, Try.ntmps62
  go_wp2
  go_loop [4, 5] (fun x i => ∃ k acc : Nat, i = .int .i64 k ∧ x = .int .i64 acc ∧ k ≤ n ∧ k ≤ 9 ∧ acc < 128 ^ k ∧ gn 0 0 zs = gn k acc (zs.drop k)) (fun _ i => n - (intOf i).toNat)
  case atStart => exact ⟨0, 0, rfl, rfl, by omega, by omega, by decide, rfl⟩
  case round =>
    obtain ⟨k, acc, rfl, rfl, hk, hk9, hacc, hg⟩ := hrel
    by_cases hlt : k < n
    · obtain ⟨b, off, rfl, hbl, hcell⟩ := hr.open_ (by rw [u8s_length, HZ.out]; omega)
      have hc1 := hcell k _ (u8s_at (by rw [HZ.out]; exact hlt))
      have hbyt := hy.at_ k
      have hd : zs.drop k = (zs[k]?.getD 0) :: zs.drop (k + 1) := by
        rw [List.drop_eq_getElem_cons (by rw [HZ.out]; exact hlt), List.getElem?_eq_getElem (by rw [HZ.out]; exact hlt)]; rfl
      clear hcell
      rw [hd] at hg
      have HD := Lib.hid hd
      clear hd
      have i0 : (0 : Int) ≤ (k : Int) := by omega
      have i1 : (k : Int) < (n : Int) := by omega
      by_cases h9 : k = 9
      · subst h9
        rw [gn_nine] at hg
        have HG := Lib.hid hg
        clear hg
        have i2 : decide (((9 : Nat) : Int) < 9) = false := rfl
        go_wp2
        go_ret2
        exact ⟨by rw [HG.out]; rfl, Below.refl _ _⟩
      · have i2 : (k : Int) < 9 := by omega
        have hor := or_shift (k := k) (by omega) hacc hbyt
        have hll := len_last (k := k) (acc := acc) (by omega) hacc (c := zs[k]?.getD 0)
        have c0 := hbyt.1
        have c1 := hbyt.2
        have hpk : 128 ^ (k + 1) = 128 * 128 ^ k := pow_up k
        have hx : (zs[k]?.getD 0).toNat % 128 * 128 ^ k ≤ 127 * 128 ^ k := Nat.mul_le_mul_right _ (by omega)
        have hp8 : 128 ^ k ≤ 128 ^ 8 := Nat.pow_le_pow_right (by decide) (by omega)
        rw [show (128 : Nat) ^ 8 = 72057594037927936 from by decide] at hp8
        by_cases hhi : 128 ≤ zs[k]?.getD 0
        · rw [gn_more h9 hhi] at hg
          obtain ⟨N, hN⟩ : ∃ N : Nat, N = acc + (zs[k]?.getD 0).toNat % 128 * 128 ^ k := ⟨_, rfl⟩
          rw [← hN] at hor hg hll
          have HG := Lib.hid hg
          have HP := Lib.hid hpk
          have HN := Lib.hid hN
          clear hg hpk hN hll
          go_wp2
          go_round
          case rel => exact ⟨k + 1, N, by go_num, by first | rfl | rw [hor], by omega, by omega, by rw [HP.out, HN.out]; omega, HG.out⟩
          case measure => simp [intOf]; omega
        · have hll := hll (by omega) hbyt
          obtain ⟨N, hN⟩ : ∃ N : Nat, N = acc + (zs[k]?.getD 0).toNat % 128 * 128 ^ k := ⟨_, rfl⟩
          rw [← hN] at hor hll
          have hNl : N < 9223372036854775808 := by omega
          have HN := Lib.hid hN
          have HP := Lib.hid hpk
          have hlo : zs[k]?.getD 0 < 128 := by omega
          clear hpk hN hhi
          by_cases hz : zs[k]?.getD 0 = 0 ∧ 0 < k
          · rw [gn_zero h9 hz.1 hz.2] at hg
            have HG := Lib.hid hg
            have hne : ((((vnum N).length : Nat) : Int) != (k : Int) + 1) = true := by
              have : ¬ (vnum N).length = k + 1 := fun h => (hll.1 h) hz
              simp; omega
            clear hg hll hz
            go_wp2_with fail
            refine (rnum_any N _ hNl).mono ?_
            rintro e w1 ⟨v, rfl, hown, hb⟩
            obtain ⟨A1, cc, rfl, _, _, _, _, _⟩ := own_slice hown
            rw [u8s_length]
            go_wp2
            go_ret2
            exact ⟨by rw [HG.out]; rfl, hb⟩
          · rw [gn_last h9 hlo hz] at hg
            have HG := Lib.hid hg
            have hne : ((((vnum N).length : Nat) : Int) != (k : Int) + 1) = false := by
              have : (vnum N).length = k + 1 := hll.2 hz
              simp; omega
            clear hg hll hz
            go_wp2_with fail
            refine (rnum_any N _ hNl).mono ?_
            rintro e w1 ⟨v, rfl, hown, hb⟩
            obtain ⟨A1, cc, rfl, _, _, _, _, _⟩ := own_slice hown
            rw [u8s_length]
            go_wp2
            go_ret2
            refine ⟨?_, hb⟩
            rw [HG.out]
            have e1 : (zs[k]?.getD 0).toNat % 128 = (zs[k]?.getD 0).toNat := by omega
            have e2 := HN.out
            rw [e1] at e2
            rw [← e2]
            simp [rgnVal]
    · have hnil : zs.drop k = [] := List.drop_eq_nil_of_le (by rw [HZ.out]; omega)
      rw [hnil, gn_nil] at hg
      have HG := Lib.hid hg
      clear hg hnil
      have i1 : ¬ ((k : Int) < (n : Int)) := by omega
      go_wp2
      go_ret2
      exact ⟨by rw [HG.out]; rfl, Below.refl _ _⟩

end Go.Proofs.Ytkgbnohmhjljoaa
