/-
  The walk of the statements' own set: the nodes whose bits are there.
-/
import Derived.Test.YtoiofpmhniolnaaAsk
import Derived.Laws.BitsLemmas
import Derived.Laws.Bits64
namespace Go.Proofs.Ytoiofpmhniolnaa
open Go.RowKit

/-- the nodes whose bits are there, below i -/
def bitsOf (a : Nat) : Nat → List Int
  | 0 => []
  | i + 1 => bitsOf a i ++ (if a / 2 ^ i % 2 = 1 then [(i : Int) + 1] else [])
theorem bitsOf_le (a : Nat) : ∀ i, (bitsOf a i).length ≤ i
  | 0 => Nat.le_refl _
  | i + 1 => by
    have := bitsOf_le a i
    rw [bitsOf, List.length_append]
    split <;> simp <;> omega
theorem bitsOf_lt (a : Nat) : ∀ i, ∀ x ∈ bitsOf a i, x ≤ i
  | 0, x, h => by simp [bitsOf] at h
  | i + 1, x, h => by
    rw [bitsOf] at h
    rcases List.mem_append.1 h with h | h
    · have := bitsOf_lt a i x h; omega
    · split at h
      · simp at h; omega
      · simp at h

theorem tal_bits {N : Int} {m n : Nat} (hn : N = (n : Int)) (hm : m < 2 ^ n) : ∀ i, i ≤ 16 → tal N (bitsOf m i) = (bitsOf m i).length
  | 0, _ => tal_nil N
  | i + 1, hi => by
    have ih := tal_bits hn hm i (by omega)
    rw [bitsOf]
    split
    · rename_i hbit
      have h1 : 2 ^ i ≤ m := by
        rcases Nat.lt_or_ge m (2 ^ i) with h | h
        · rw [Nat.div_eq_of_lt h] at hbit; omega
        · exact h
      have h2 : i < n := (Nat.pow_lt_pow_iff_right (by decide : 1 < 2)).1 (Nat.lt_of_le_of_lt h1 hm)
      have hs : seen N (bitsOf m i) (i + 1) = false := by
        simp only [seen, decide_eq_false_iff_not]
        rintro ⟨_, _, h3⟩
        have := bitsOf_lt m i _ h3
        omega
      have := tal_new (n := N) (x := i + 1) hs (by omega) (by omega) (by omega)
      rw [show (((i + 1 : Nat)) : Int) = (i : Int) + 1 from by omega] at this
      rw [this, ih]
      simp
    · rw [List.append_nil, ih]
theorem wraps_i64 (n : Int) (h₀ : 0 ≤ n) (h₁ : n < 2 ^ 63) : IntKind.i64.wrap n = n := by rw [IntKind.wrap_i64]; omega
theorem and_one (m : Nat) (h : m < 9223372036854775808) : bits .and .i64 (m : Int) 1 = ((m % 2 : Nat) : Int) := by
  have := bits_mask .i64 63 (by decide) wraps_i64 1 (by decide) (m : Int) (by omega) (by omega)
  simpa using this

set_option maxHeartbeats 1000000 in
theorem set_any (m : Nat) (w : World) (hm : m ≤ 65535) :
    Calls Try.prog 29 #[.int .i64 (m : Int)] w (Made w.heap.size 3 w (i64s (bitsOf m 16))) := by
  go_enter Try.func29, Try.ntmps29
  go_wp2
  go_loopw [3, 4] (fun v i wr => ∃ k : Nat, i = .int .i64 k ∧ k ≤ 16 ∧ wr.ownsRow w.heap.size 3 1 v (bitsOf m k).length (i64s (bitsOf m k)) ∧ Below w.heap.size w wr) (fun _ i _ => 16 - (intOf i).toNat)
  case atStart => exact ⟨0, rfl, by omega, World.ownsRow_nil _ _ _ _, Below.refl _ _⟩
  case round =>
    obtain ⟨k, rfl, hk, hown, hb⟩ := hrel
    by_cases hlt : k < 16
    · have i1 : (k : Int) < 16 := by omega
      have i0 : (0 : Int) ≤ (k : Int) := by omega
      have hone := and_one (m / 2 ^ k) (Nat.lt_of_le_of_lt (Nat.div_le_self _ _) (by omega))
      have hcast : (((m / 2 ^ k : Nat)) : Int) = (m : Int) / 2 ^ k := by simp
      rw [hcast] at hone
      have hle := bitsOf_le m k
      by_cases hbit : m / 2 ^ k % 2 = 1
      · have ht : (bits .and .i64 ((m : Int) / 2 ^ k) 1 == 1) = true := by rw [hone, hbit]; rfl
        have hup : bitsOf m (k + 1) = bitsOf m k ++ [(k : Int) + 1] := by rw [bitsOf, if_pos hbit]
        have HUP := Lib.hid hup
        clear hup hbit hone hcast
        go_wp2_with (at_builtin; refine wpList_app_one _ rfl _ _ 23 rfl w.heap.size 3 (.int .i64 0) 8 Try.underlying23 info_i64 rfl (by decide) _ (bitsOf m k).length _ rfl (hown.alloc _) wr.heap.size (.int .i64 ((k : Int) + 1)) rfl (cell_new _ _ _) rfl (by omega) (by have := hb.size; simp; omega) ?_)
        intro v' w1 hown1 hb1
        have hown2 := own_conv (ys := i64s (bitsOf m (k + 1))) (n' := (bitsOf m (k + 1)).length) hown1 (by rw [HUP.out, i64s_append]; rfl) (by rw [HUP.out]; simp)
        clear hown1 hown
        go_wp2
        go_roundw
        case rel => exact ⟨k + 1, by go_num, by omega, hown2, (hb.alloc hb.size _).trans hb1⟩
        case measure => simp [intOf]; omega
      · have ht : (bits .and .i64 ((m : Int) / 2 ^ k) 1 == 1) = false := by
          rw [hone]; simp; omega
        have hup : bitsOf m (k + 1) = bitsOf m k := by rw [bitsOf, if_neg hbit]; simp
        have HUP := Lib.hid hup
        clear hup hbit hone hcast
        go_wp2
        go_roundw
        case rel => exact ⟨k + 1, by go_num, by omega, by rw [HUP.out]; exact hown, hb⟩
        case measure => simp [intOf]; omega
    · have i1 : ¬ ((k : Int) < 16) := by omega
      obtain rfl : k = 16 := by omega
      go_wp2
      go_ret
      exact ⟨_, rfl, own_cast hown (i64s_length _).symm, hb⟩

end Go.Proofs.Ytoiofpmhniolnaa
