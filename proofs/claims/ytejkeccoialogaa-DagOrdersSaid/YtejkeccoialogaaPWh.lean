/-
  IEEE doubles that are whole numbers: what they are read as, compared with, cut to, summed to. Plain; of no program.
  Conditions: whole numbers below 2^53.
-/
import Derived.Laws.FloatArith
import Derived.Test.YtejkeccoialogaaRows
import Derived.WalkKit
import Derived.WalkSpells
import Derived.WalkLawsBesides
import Derived.Lib.Hide
import Derived.Laws.Cover2
import Derived.Laws.Cover3
import Derived.Laws.ComplexArith
namespace Go.Proofs.Ytejkeccoialogaa.Pl
namespace Fl
open Ieee

theorem log2_mul_pow (m k : Nat) (h : m ≠ 0) : (m * 2 ^ k).log2 = m.log2 + k := by
  induction k with
  | zero => simp
  | succ k ih =>
    have e : m * 2 ^ (k + 1) = 2 * (m * 2 ^ k) := by rw [Nat.pow_succ, ← Nat.mul_assoc, Nat.mul_comm]
    have hz : m * 2 ^ k ≠ 0 := Nat.mul_ne_zero h (Nat.pos_iff_ne_zero.1 (Nat.two_pow_pos k))
    rw [e, Nat.log2_two_mul hz, ih]; omega

theorem pow_add' (a b : Nat) : (2 : Nat) ^ (a + b) = 2 ^ a * 2 ^ b := Nat.pow_add 2 a b

/-- a whole number cut at a place beyond which nothing stands -/
theorem cut_even (neg : Bool) (q drop : Nat) (h : q ≠ 0) : Toward.even.cut neg (q * 2 ^ drop) drop = q := by
  unfold Toward.cut
  have hl : min drop ((q * 2 ^ drop).log2 + 2) = drop := by rw [log2_mul_pow q drop h]; omega
  have hp : 0 < 2 ^ drop := Nat.two_pow_pos drop
  simp only [hl, Nat.one_shiftLeft, Nat.mul_mod_left, Nat.mul_zero]
  rw [Nat.mul_div_cancel _ hp]
  have h1 : ¬ (2 ^ drop < 0) := by omega
  have h2 : (2 ^ drop == 0) = false := by rw [beq_eq_false_iff_ne]; omega
  simp [h2]

theorem cut_zero (neg : Bool) (n drop : Nat) : Toward.zero.cut neg n drop = n / 2 ^ drop := by
  unfold Toward.cut
  simp only [Nat.one_shiftLeft, Bool.toNat_false, Nat.add_zero]
  by_cases h : drop ≤ n.log2 + 2
  · rw [Nat.min_eq_left h]
  · rw [Nat.min_eq_right (by omega)]
    have h1 : n < 2 ^ (n.log2 + 1) := Nat.lt_log2_self
    have h2 : 2 ^ (n.log2 + 1) ≤ 2 ^ (n.log2 + 2) := Nat.pow_le_pow_right (by omega) (by omega)
    have h3 : 2 ^ (n.log2 + 2) ≤ 2 ^ drop := Nat.pow_le_pow_right (by omega) (by omega)
    rw [Nat.div_eq_of_lt (by omega), Nat.div_eq_of_lt (by omega)]

/-- the number at a place not above its own, as a whole number -/
def valAt (s : Bool) (m : Nat) (i b : Int) : Int := signed s m (i - b).toNat

theorem signed_eq (s : Bool) (m k : Nat) : signed s m k = (if s then -1 else 1) * ((m : Int) * 2 ^ k) := by
  unfold signed
  rw [Nat.shiftLeft_eq]
  cases s <;> simp

theorem valAt_scale (s : Bool) (m : Nat) (i b c : Int) (h1 : c ≤ b) (h2 : b ≤ i) : valAt s m i c = valAt s m i b * 2 ^ (b - c).toNat := by
  unfold valAt
  rw [signed_eq, signed_eq]
  have e : (i - c).toNat = (i - b).toNat + (b - c).toNat := by omega
  rw [e, Int.pow_add, Int.mul_assoc, Int.mul_assoc]

theorem pow_pos (k : Nat) : (0 : Int) < 2 ^ k := Int.pow_pos (by omega)

theorem cancel {a b : Int} (k : Nat) (h : a * 2 ^ k = b * 2 ^ k) : a = b :=
  Int.eq_of_mul_eq_mul_right (by have := pow_pos k; omega) h

theorem int_scale (n b c : Int) (h1 : c ≤ b) (h2 : b ≤ 0) : n * 2 ^ (-c).toNat = n * 2 ^ (-b).toNat * 2 ^ (b - c).toNat := by
  have e : (-c).toNat = (-b).toNat + (b - c).toNat := by omega
  rw [e, Int.pow_add, Int.mul_assoc]

/-- the datum is just this whole number -/
def Is (d : Datum) (n : Int) : Prop := ∃ s m i, d = .number s m i ∧ ∃ b, b ≤ i ∧ b ≤ 0 ∧ valAt s m i b = n * 2 ^ (-b).toNat

theorem is_at {s m i n} (h : Is (.number s m i) n) (b : Int) (hb : b ≤ i) (h0 : b ≤ 0) : valAt s m i b = n * 2 ^ (-b).toNat := by
  obtain ⟨s', m', i', e, b0, k1, k2, k3⟩ := h
  cases e
  have hc1 : min b b0 ≤ b := by omega
  have hc2 : min b b0 ≤ b0 := by omega
  refine cancel (b - min b b0).toNat ?_
  rw [← valAt_scale s m i b _ hc1 hb, ← int_scale n b _ hc1 h0, valAt_scale s m i b0 _ hc2 k1, int_scale n b0 _ hc2 k2, k3]

theorem compare_mul (x y : Int) (k : Nat) : compare (x * 2 ^ k) (y * 2 ^ k) = compare x y := by
  have hp := pow_pos k
  rcases Int.lt_trichotomy x y with h | h | h
  · rw [Int.compare_eq_lt.2 h, Int.compare_eq_lt.2 (Int.mul_lt_mul_of_pos_right h hp)]
  · subst h; simp
  · rw [Int.compare_eq_gt.2 h, Int.compare_eq_gt.2 (Int.mul_lt_mul_of_pos_right h hp)]

theorem order_is (s : Bool) (m : Nat) (i : Int) (e : Datum) (n b : Int) (h : Is e n) (hb : b ≤ i) (h0 : b ≤ 0) :
    (Datum.number s m i).order e = some (compare (valAt s m i b) (n * 2 ^ (-b).toNat)) := by
  obtain ⟨t, k, j, rfl, hr⟩ := h
  have h : Is (.number t k j) n := ⟨t, k, j, rfl, hr⟩
  show some (compare (valAt s m i (min i j)) (valAt t k j (min i j))) = _
  have c0 : min b (min i j) ≤ b := by omega
  have c1 : min b (min i j) ≤ min i j := by omega
  have a1 := valAt_scale s m i (min i j) _ c1 (by omega)
  have a2 := valAt_scale t k j (min i j) _ c1 (by omega)
  have a3 := valAt_scale s m i b _ c0 hb
  have a4 := is_at h (min b (min i j)) (by omega) (by omega)
  have a5 := int_scale n b _ c0 h0
  rw [← compare_mul (valAt s m i (min i j)) _ (min i j - min b (min i j)).toNat, ← a1, ← a2, a4, a5, a3, compare_mul]

theorem order_both {d e : Datum} {a n : Int} (h : Is d a) (h' : Is e n) : d.order e = some (compare a n) := by
  obtain ⟨s, m, i, rfl, b, k1, k2, k3⟩ := h
  rw [order_is s m i e n b h' k1 k2, k3, compare_mul]

abbrev D : Format := FloatKind.f64.format

theorem nat_scale (m k c : Nat) : m * 2 ^ (k + c) = m * 2 ^ k * 2 ^ c := by rw [pow_add', Nat.mul_assoc]

theorem nat_cancel {a b : Nat} (k : Nat) (h : a * 2 ^ k = b * 2 ^ k) : a = b :=
  Nat.eq_of_mul_eq_mul_right (Nat.two_pow_pos k) h

/-- what is kept of a whole number that fits -/
theorem nearest_exact (s : Bool) (mag : Nat) (place c : Int) (N : Nat) (hN : N ≠ 0) (hb : N < 9007199254740992) (hc : c ≤ place) (h0 : c ≤ 0)
    (h : mag * 2 ^ (place - c).toNat = N * 2 ^ (-c).toNat) : D.nearest s mag place = D.word s ((N.log2 + 1022) * 4503599627370496 + N * 2 ^ (52 - N.log2)) := by
  have hm : mag ≠ 0 := by
    intro e; subst e
    have h1 : 0 < N * 2 ^ (-c).toNat := Nat.mul_pos (by omega) (Nat.two_pow_pos _)
    omega
  have hL : N.log2 ≤ 52 := by
    have : N.log2 < 53 := (Nat.log2_lt hN).2 (by simpa using hb)
    omega
  have hlog : (mag.log2 : Int) + place = N.log2 := by
    have e := congrArg Nat.log2 h
    rw [log2_mul_pow _ _ hm, log2_mul_pow _ _ hN] at e
    omega
  have hlast : max (place + mag.log2 - (D.fractionBits : Int)) D.leastPlace = (N.log2 : Int) - 52 := by
    have e1 : (D.fractionBits : Int) = 52 := rfl
    have e2 : D.leastPlace = -1074 := rfl
    rw [e1, e2]; omega
  have hkept : Toward.even.cut s (mag <<< (place - ((N.log2 : Int) - 52)).toNat) (((N.log2 : Int) - 52) - place).toNat = N * 2 ^ (52 - N.log2) := by
    rw [Nat.shiftLeft_eq]
    by_cases hp : (N.log2 : Int) - 52 ≤ place
    · have e0 : (((N.log2 : Int) - 52) - place).toNat = 0 := by omega
      have e3 : mag * 2 ^ (place - ((N.log2 : Int) - 52)).toNat = N * 2 ^ (52 - N.log2) := by
        by_cases hcl : c ≤ (N.log2 : Int) - 52
        · refine nat_cancel (((N.log2 : Int) - 52) - c).toNat ?_
          rw [← nat_scale, ← nat_scale]
          have q1 : (place - ((N.log2 : Int) - 52)).toNat + (((N.log2 : Int) - 52) - c).toNat = (place - c).toNat := by omega
          have q2 : 52 - N.log2 + (((N.log2 : Int) - 52) - c).toNat = (-c).toNat := by omega
          rw [q1, q2, h]
        · have q1 : (place - ((N.log2 : Int) - 52)).toNat = (place - c).toNat + (c - ((N.log2 : Int) - 52)).toNat := by omega
          have q2 : 52 - N.log2 = (-c).toNat + (c - ((N.log2 : Int) - 52)).toNat := by omega
          rw [q1, q2, nat_scale, nat_scale, h]
      rw [e0, e3]
      have := cut_even s (N * 2 ^ (52 - N.log2)) 0 (Nat.mul_ne_zero hN (Nat.pos_iff_ne_zero.1 (Nat.two_pow_pos _)))
      simpa using this
    · have e0 : (place - ((N.log2 : Int) - 52)).toNat = 0 := by omega
      have e3 : mag = N * 2 ^ (52 - N.log2) * 2 ^ (((N.log2 : Int) - 52) - place).toNat := by
        refine nat_cancel (place - c).toNat ?_
        rw [h, ← nat_scale, ← nat_scale]
        have q : 52 - N.log2 + ((((N.log2 : Int) - 52) - place).toNat + (place - c).toNat) = (-c).toNat := by omega
        rw [q]
      rw [e0, e3, Nat.pow_zero, Nat.mul_one]
      exact cut_even s _ _ (Nat.mul_ne_zero hN (Nat.pos_iff_ne_zero.1 (Nat.two_pow_pos _)))
  have hlt : N * 2 ^ (52 - N.log2) < 9007199254740992 := by
    have h1 : N < 2 ^ (N.log2 + 1) := Nat.lt_log2_self
    have h2 : N * 2 ^ (52 - N.log2) < 2 ^ (N.log2 + 1) * 2 ^ (52 - N.log2) := Nat.mul_lt_mul_of_pos_right h1 (Nat.two_pow_pos _)
    rw [← pow_add'] at h2
    have e : N.log2 + 1 + (52 - N.log2) = 53 := by omega
    rw [e] at h2; simpa using h2
  unfold Format.nearest
  simp only [hm, if_false, hlast, hkept]
  have e1 : D.leastPlace = -1074 := rfl
  have e2 : D.binade = 4503599627370496 := by decide
  have e3 : D.infRung = 9218868437227405312 := by decide
  rw [e1, e2, e3]
  have e4 : ((N.log2 : Int) - 52 - -1074).toNat = N.log2 + 1022 := by omega
  rw [e4, Nat.min_eq_left (by omega)]

theorem read_word (s : Bool) (R : Nat) (h1 : 4503599627370496 ≤ R) (h2 : R < 9218868437227405312) :
    D.read (D.word s R) = .number s (4503599627370496 + R % 4503599627370496) (-1074 + (R / 4503599627370496 - 1 : Nat)) := by
  have e1 : D.leastPlace = -1074 := rfl
  have e2 : D.binade = 4503599627370496 := by decide
  have e3 : D.infRung = 9218868437227405312 := by decide
  have e4 : D.signWeight = 9223372036854775808 := by decide
  unfold Format.read Format.word
  simp only [e1, e2, e3, e4]
  have g1 : ¬ (R < 4503599627370496) := by omega
  cases s
  · have q1 : R / 9223372036854775808 % 2 = 0 := by omega
    have q2 : R % 9223372036854775808 = R := by omega
    simp only [Bool.false_eq_true, if_false, q1, q2, g1, h2, if_true]
    rfl
  · have q1 : (9223372036854775808 + R) / 9223372036854775808 % 2 = 1 := by omega
    have q2 : (9223372036854775808 + R) % 9223372036854775808 = R := by omega
    simp only [if_true, q1, q2, g1, h2, if_false]
    rfl

theorem read_exact (s : Bool) (N : Nat) (hN : N ≠ 0) (hb : N < 9007199254740992) :
    D.read (D.word s ((N.log2 + 1022) * 4503599627370496 + N * 2 ^ (52 - N.log2))) = .number s (N * 2 ^ (52 - N.log2)) ((N.log2 : Int) - 52) := by
  have hL : N.log2 ≤ 52 := by
    have : N.log2 < 53 := (Nat.log2_lt hN).2 (by simpa using hb)
    omega
  have hlt : N * 2 ^ (52 - N.log2) < 9007199254740992 := by
    have h1 : N < 2 ^ (N.log2 + 1) := Nat.lt_log2_self
    have h2 : N * 2 ^ (52 - N.log2) < 2 ^ (N.log2 + 1) * 2 ^ (52 - N.log2) := Nat.mul_lt_mul_of_pos_right h1 (Nat.two_pow_pos _)
    rw [← pow_add'] at h2
    have e : N.log2 + 1 + (52 - N.log2) = 53 := by omega
    rw [e] at h2; simpa using h2
  have hge : 4503599627370496 ≤ N * 2 ^ (52 - N.log2) := by
    have h1 : 2 ^ N.log2 ≤ N := Nat.log2_self_le hN
    have h2 : 2 ^ N.log2 * 2 ^ (52 - N.log2) ≤ N * 2 ^ (52 - N.log2) := Nat.mul_le_mul_right _ h1
    rw [← pow_add'] at h2
    have e : N.log2 + (52 - N.log2) = 52 := by omega
    rw [e] at h2; simpa using h2
  generalize N * 2 ^ (52 - N.log2) = K at *
  have hR : (N.log2 + 1022) * 4503599627370496 + K < 9218868437227405312 := by omega
  rw [read_word s _ (by omega) hR]
  have q3 : ((N.log2 + 1022) * 4503599627370496 + K) % 4503599627370496 = K - 4503599627370496 := by omega
  have q4 : ((N.log2 + 1022) * 4503599627370496 + K) / 4503599627370496 = N.log2 + 1023 := by omega
  rw [q3, q4]
  have q5 : 4503599627370496 + (K - 4503599627370496) = K := by omega
  have q6 : (-1074 : Int) + ((N.log2 + 1023 - 1 : Nat) : Int) = (N.log2 : Int) - 52 := by omega
  rw [q5, q6]

theorem read_zero (s : Bool) : D.read (D.word s 0) = .number s 0 (-1074) := by cases s <;> rfl

theorem signed_zero (s : Bool) (k : Nat) : signed s 0 k = 0 := by rw [signed_eq]; simp

/-- a sum or a made number that is whole and fits is written as just that -/
theorem is_write (s : Bool) (mag : Nat) (place : Int) (n : Int) (h : Is (.number s mag place) n) (hb : n.natAbs < 9007199254740992) :
    Is (D.read (D.write (.number s mag place))) n := by
  obtain ⟨b, k1, k2, k3⟩ : ∃ b, b ≤ place ∧ b ≤ 0 ∧ valAt s mag place b = n * 2 ^ (-b).toNat := by
    obtain ⟨s', m', i', e, hr⟩ := h; cases e; exact hr
  show Is (D.read (D.nearest s mag place)) n
  have hp := pow_pos (-b).toNat
  unfold valAt at k3
  rw [signed_eq] at k3
  by_cases hn : n = 0
  · subst hn
    have hm : mag = 0 := by
      have h1 : (0 : Int) < 2 ^ (place - b).toNat := pow_pos _
      have h3 : (mag : Int) * 2 ^ (place - b).toNat = 0 := by
        cases s <;> simp at k3 ⊢ <;> omega
      rcases Int.mul_eq_zero.1 h3 with h4 | h4
      · omega
      · omega
    subst hm
    have e : D.nearest s 0 place = D.word s 0 := by unfold Format.nearest; simp
    rw [e, read_zero]
    exact ⟨s, 0, -1074, rfl, -1074, by omega, by omega, by unfold valAt; rw [signed_zero, Int.zero_mul]⟩
  · have hmag : (mag * 2 ^ (place - b).toNat : Nat) = n.natAbs * 2 ^ (-b).toNat ∧ (s = decide (n < 0)) := by
      have hx : (0 : Int) ≤ (mag : Int) * 2 ^ (place - b).toNat := Int.mul_nonneg (by omega) (by have := pow_pos (place - b).toNat; omega)
      rcases Int.lt_trichotomy n 0 with hl | hl | hl
      · have hneg : n * 2 ^ (-b).toNat < 0 := Int.mul_neg_of_neg_of_pos hl hp
        cases s
        · simp at k3; omega
        · refine ⟨?_, by simp [hl]⟩
          have e : ((n.natAbs : Nat) : Int) = -n := by omega
          have : ((mag * 2 ^ (place - b).toNat : Nat) : Int) = ((n.natAbs * 2 ^ (-b).toNat : Nat) : Int) := by
            rw [Int.natCast_mul, Int.natCast_mul, e, Int.neg_mul]
            simp at k3 ⊢
            omega
          exact Int.ofNat_inj.1 this
      · exact absurd hl hn
      · have hpos : 0 < n * 2 ^ (-b).toNat := Int.mul_pos hl hp
        cases s
        · refine ⟨?_, by simp; omega⟩
          have e : ((n.natAbs : Nat) : Int) = n := by omega
          have : ((mag * 2 ^ (place - b).toNat : Nat) : Int) = ((n.natAbs * 2 ^ (-b).toNat : Nat) : Int) := by
            rw [Int.natCast_mul, Int.natCast_mul, e]
            simp at k3 ⊢
            omega
          exact Int.ofNat_inj.1 this
        · simp at k3; omega
    obtain ⟨hmag, hs⟩ := hmag
    have hN : n.natAbs ≠ 0 := by omega
    rw [nearest_exact s mag place b n.natAbs hN hb k1 k2 hmag, read_exact s _ hN hb]
    have hL : n.natAbs.log2 ≤ 52 := by
      have : n.natAbs.log2 < 53 := (Nat.log2_lt hN).2 (by simpa using hb)
      omega
    refine ⟨s, _, _, rfl, (n.natAbs.log2 : Int) - 52, by omega, by omega, ?_⟩
    unfold valAt
    rw [signed_eq, Int.sub_self, Int.toNat_zero, Int.pow_zero, Int.mul_one, Int.natCast_mul]
    have e : (-((n.natAbs.log2 : Int) - 52)).toNat = 52 - n.natAbs.log2 := by omega
    rw [e]
    have e2 : ((2 ^ (52 - n.natAbs.log2) : Nat) : Int) = 2 ^ (52 - n.natAbs.log2) := by simp
    rw [e2, ← Int.mul_assoc]
    congr 1
    subst hs
    by_cases hl : n < 0
    · simp [hl]; omega
    · simp [hl]; omega

theorem is_sum {d e : Datum} {a n : Int} (h : Is d a) (h' : Is e n) (hb : (a + n).natAbs < 9007199254740992) :
    ∃ r, (d.sum e).map D.write = some r ∧ Is (D.read r) (a + n) := by
  obtain ⟨s, m, i, rfl, hr⟩ := h
  have h : Is (.number s m i) a := ⟨s, m, i, rfl, hr⟩
  obtain ⟨t, k, j, rfl, hr'⟩ := h'
  have h' : Is (.number t k j) n := ⟨t, k, j, rfl, hr'⟩
  refine ⟨_, rfl, ?_⟩
  generalize hT : signed s m (i - min i j).toNat + signed t k (j - min i j).toNat = T
  generalize hS : (if T = 0 then s && t else decide (T < 0)) = S
  refine is_write S T.natAbs (min i j) (a + n) ?_ hb
  have c1 : min (min i j) 0 ≤ min i j := by omega
  refine ⟨S, T.natAbs, min i j, rfl, min (min i j) 0, c1, by omega, ?_⟩
  have a1 := valAt_scale s m i (min i j) _ c1 (by omega)
  have a2 := valAt_scale t k j (min i j) _ c1 (by omega)
  rw [is_at h (min (min i j) 0) (by omega) (by omega)] at a1
  rw [is_at h' (min (min i j) 0) (by omega) (by omega)] at a2
  rw [Int.add_mul, a1, a2, ← Int.add_mul]
  unfold valAt
  rw [hT, signed_eq, ← Int.mul_assoc]
  congr 1
  subst hS
  by_cases h0 : T = 0
  · subst h0; simp
  · rw [if_neg h0]
    by_cases hl : T < 0
    · simp [hl]; omega
    · simp [hl]; omega

theorem is_opposite {d : Datum} {a : Int} (h : Is d a) : Is d.opposite (-a) := by
  obtain ⟨s, m, i, rfl, b, k1, k2, k3⟩ := h
  refine ⟨!s, m, i, rfl, b, k1, k2, ?_⟩
  unfold valAt at *
  rw [signed_eq] at *
  rw [Int.neg_mul, ← k3]
  cases s <;> simp

/-- what a whole number is made into -/
abbrev F (n : Int) : Nat := floatOfInt .f64 n

theorem is_F (n : Int) (hb : n.natAbs < 9007199254740992) : Is (D.read (F n)) n := by
  refine is_write (decide (n < 0)) n.natAbs 0 n ⟨_, _, _, rfl, 0, by omega, by omega, ?_⟩ hb
  unfold valAt
  rw [signed_eq]
  by_cases hl : n < 0
  · simp [hl]; omega
  · simp [hl]; omega

theorem add_is {x y : Nat} {a n : Int} (h : Is (D.read x) a) (h' : Is (D.read y) n) (hb : (a + n).natAbs < 9007199254740992) :
    ∃ r, floatBits .add .f64 x y = some r ∧ Is (D.read r) (a + n) := is_sum h h' hb

theorem sub_is {x y : Nat} {a n : Int} (h : Is (D.read x) a) (h' : Is (D.read y) n) (hb : (a - n).natAbs < 9007199254740992) :
    ∃ r, floatBits .sub .f64 x y = some r ∧ Is (D.read r) (a - n) := is_sum h (is_opposite h') hb

/-- cut towards zero, as a quotient -/
theorem toInt_eq (s : Bool) (m : Nat) (i b : Int) (hb : b ≤ i) (h0 : b ≤ 0) :
    (Datum.number s m i).toInt .zero = some ((valAt s m i b).tdiv (2 ^ (-b).toNat)) := by
  show some (signed s (Toward.zero.cut s (m <<< i.toNat) (-i).toNat) 0) = _
  rw [cut_zero, Nat.shiftLeft_eq]
  unfold valAt
  rw [signed_eq, signed_eq, Int.pow_zero, Int.mul_one]
  have e : m * 2 ^ i.toNat / 2 ^ (-i).toNat = m * 2 ^ (i - b).toNat / 2 ^ (-b).toNat := by
    by_cases hi : 0 ≤ i
    · have e1 : (-i).toNat = 0 := by omega
      have e2 : (i - b).toNat = i.toNat + (-b).toNat := by omega
      rw [e1, e2, nat_scale, Nat.mul_div_cancel _ (Nat.two_pow_pos _)]
      simp
    · have e1 : i.toNat = 0 := by omega
      have e2 : (-b).toNat = (-i).toNat + (i - b).toNat := by omega
      rw [e1, e2, pow_add', Nat.mul_div_mul_right _ _ (Nat.two_pow_pos _)]
      simp
  rw [e]
  have e3 : ((m * 2 ^ (i - b).toNat / 2 ^ (-b).toNat : Nat) : Int) = ((m : Int) * 2 ^ (i - b).toNat).tdiv (2 ^ (-b).toNat) := by
    rw [Int.natCast_ediv, Int.natCast_mul]
    simp only [Int.natCast_pow]
    rw [Int.tdiv_eq_ediv_of_nonneg]
    · rfl
    · exact Int.mul_nonneg (by omega) (by have := pow_pos (i - b).toNat; omega)
  rw [e3]
  cases s
  · simp
  · simp [Int.neg_tdiv]

theorem tdiv_le (X B hi : Int) (hB : 0 < B) (h : X ≤ hi * B) : X.tdiv B ≤ hi := by
  by_cases hx : 0 ≤ X
  · rw [Int.tdiv_eq_ediv_of_nonneg hx]
    have := Int.ediv_le_ediv hB h
    rwa [Int.mul_ediv_cancel _ (by omega)] at this
  · have e : X.tdiv B = -((-X).tdiv B) := by rw [Int.neg_tdiv]; omega
    rw [e, Int.tdiv_eq_ediv_of_nonneg (by omega)]
    have h1 : -hi * B ≤ -X := by rw [Int.neg_mul]; omega
    by_cases hh : 0 ≤ -hi
    · have := Int.ediv_le_ediv hB h1
      rw [Int.mul_ediv_cancel _ (by omega)] at this
      omega
    · have : 0 ≤ (-X) / B := Int.ediv_nonneg (by omega) (by omega)
      omega

theorem le_tdiv (X B lo : Int) (hB : 0 < B) (h : lo * B ≤ X) : lo ≤ X.tdiv B := by
  have h1 : (-X) ≤ (-lo) * B := by rw [Int.neg_mul]; omega
  have h2 := tdiv_le (-X) B (-lo) hB h1
  rw [Int.neg_tdiv] at h2
  omega

def ord (x y : Nat) : Option Ordering := FloatKind.f64.format.order x y
/-- at least, at most, equal: as the walk spells it -/
def geB (x : Nat) (n : Int) : Bool := FloatKind.f64.format.order x (F n) == some .gt || FloatKind.f64.format.order x (F n) == some .eq
def leB (x : Nat) (n : Int) : Bool := FloatKind.f64.format.order x (F n) == some .lt || FloatKind.f64.format.order x (F n) == some .eq
def eqB (n : Int) (x : Nat) : Bool := FloatKind.f64.format.order (F n) x == some .eq

/-- what stands between two whole numbers -/
theorem between {x : Nat} {lo hi : Int} (h1 : geB x lo = true) (h2 : leB x hi = true) (b1 : lo.natAbs < 9007199254740992) (b2 : hi.natAbs < 9007199254740992) :
    ∃ s m i, D.read x = .number s m i ∧ lo * 2 ^ (-(min i 0)).toNat ≤ valAt s m i (min i 0) ∧ valAt s m i (min i 0) ≤ hi * 2 ^ (-(min i 0)).toNat := by
  unfold geB at h1
  unfold leB at h2
  have i1 := is_F lo b1
  have i2 := is_F hi b2
  unfold Format.order at h1 h2
  obtain ⟨s1, m1, p1, e1, _⟩ := id i1
  obtain ⟨s2, m2, p2, e2, _⟩ := id i2
  generalize hd : D.read x = d at *
  cases d with
  | nan s t => simp [Datum.order] at h1
  | infinity s =>
    rw [e1] at h1; rw [e2] at h2
    cases s <;> simp [Datum.order] at h1 h2
  | number s m i =>
    rw [order_is s m i _ lo (min i 0) i1 (by omega) (by omega)] at h1
    rw [order_is s m i _ hi (min i 0) i2 (by omega) (by omega)] at h2
    refine ⟨s, m, i, rfl, ?_, ?_⟩
    · simp at h1
      rcases h1 with h1 | h1
      · rw [Int.compare_eq_gt] at h1; omega
      · omega
    · simp at h2
      rcases h2 with h2 | h2
      · rw [Int.compare_eq_lt] at h2; omega
      · omega

def fint (x : Nat) : Int := (floatToIntVal .f64 x .i64).getD 0

theorem int_between {x : Nat} {lo hi : Int} (h1 : geB x lo = true) (h2 : leB x hi = true) (b1 : lo.natAbs < 9007199254740992) (b2 : hi.natAbs < 9007199254740992) :
    floatToIntVal .f64 x .i64 = some (fint x) ∧ lo ≤ fint x ∧ fint x ≤ hi := by
  obtain ⟨s, m, i, e, k1, k2⟩ := between h1 h2 b1 b2
  have hB := pow_pos (-(min i 0)).toNat
  have g1 := le_tdiv _ _ _ hB k1
  have g2 := tdiv_le _ _ _ hB k2
  have ht := toInt_eq s m i (min i 0) (by omega) (by omega)
  generalize (valAt s m i (min i 0)).tdiv (2 ^ (-(min i 0)).toNat) = n at *
  have hv : floatToIntVal .f64 x .i64 = some n := by
    unfold floatToIntVal FloatKind.decode
    rw [e, ht]
    simp only
    rw [if_pos]
    have m1 : IntKind.i64.min = -9223372036854775808 := rfl
    have m2 : IntKind.i64.max = 9223372036854775807 := rfl
    rw [m1, m2]; omega
  unfold fint
  rw [hv]
  exact ⟨rfl, g1, g2⟩

theorem fint_is {x : Nat} {n : Int} (h : Is (D.read x) n) (hb : n.natAbs < 9007199254740992) : fint x = n := by
  obtain ⟨s, m, i, e, b, k1, k2, k3⟩ := h
  have ht := toInt_eq s m i b k1 k2
  rw [k3, Int.mul_tdiv_cancel _ (by have := pow_pos (-b).toNat; omega)] at ht
  unfold fint floatToIntVal FloatKind.decode
  rw [e, ht]
  simp only
  have m1 : IntKind.i64.min = -9223372036854775808 := rfl
  have m2 : IntKind.i64.max = 9223372036854775807 := rfl
  rw [if_pos (by rw [m1, m2]; omega)]
  rfl

theorem geB_is {x : Nat} {n lo : Int} (h : Is (D.read x) n) (b1 : lo.natAbs < 9007199254740992) : geB x lo = decide (lo ≤ n) := by
  unfold geB Format.order
  rw [order_both h (is_F lo b1)]
  rcases Int.lt_trichotomy n lo with hl | hl | hl
  · rw [Int.compare_eq_lt.2 hl]; simp; omega
  · subst hl; simp
  · rw [Int.compare_eq_gt.2 hl]; simp; omega

theorem leB_is {x : Nat} {n hi : Int} (h : Is (D.read x) n) (b1 : hi.natAbs < 9007199254740992) : leB x hi = decide (n ≤ hi) := by
  unfold leB Format.order
  rw [order_both h (is_F hi b1)]
  rcases Int.lt_trichotomy n hi with hl | hl | hl
  · rw [Int.compare_eq_lt.2 hl]; simp; omega
  · subst hl; simp
  · rw [Int.compare_eq_gt.2 hl]; simp; omega

theorem eqB_is {x : Nat} {n k : Int} (h : Is (D.read x) n) (b1 : k.natAbs < 9007199254740992) : eqB k x = decide (k = n) := by
  unfold eqB Format.order
  rw [order_both (is_F k b1) h]
  rcases Int.lt_trichotomy k n with hl | hl | hl
  · rw [Int.compare_eq_lt.2 hl]; simp; omega
  · subst hl; simp
  · rw [Int.compare_eq_gt.2 hl]; simp; omega

theorem is_eqB {x : Nat} {k : Int} (h : eqB k x = true) (b1 : k.natAbs < 9007199254740992) : Is (D.read x) k := by
  unfold eqB Format.order at h
  have i1 := is_F k b1
  obtain ⟨s1, m1, p1, e1, hr⟩ := id i1
  generalize hd : D.read x = d at *
  rw [e1] at h
  cases d with
  | nan s t => simp [Datum.order] at h
  | infinity s => cases s <;> simp [Datum.order] at h
  | number t j i =>
    simp only [Datum.order, beq_iff_eq, Option.some.injEq, Int.compare_eq_eq] at h
    rw [e1] at i1
    refine ⟨t, j, i, rfl, min (min p1 i) 0, by omega, by omega, ?_⟩
    have c1 : min (min p1 i) 0 ≤ min p1 i := by omega
    rw [valAt_scale t j i (min p1 i) _ c1 (by omega)]
    unfold valAt
    rw [← h]
    show valAt s1 m1 p1 (min p1 i) * _ = _
    rw [← valAt_scale s1 m1 p1 (min p1 i) _ c1 (by omega)]
    exact is_at i1 _ (by omega) (by omega)

/-- whole and between: what the program asks of a part -/
def isW (x : Nat) (lo hi : Int) : Bool := geB x lo && leB x hi && eqB (fint x) x

theorem isW_iff {x : Nat} {lo hi : Int} (b1 : lo.natAbs < 9007199254740992) (b2 : hi.natAbs < 9007199254740992) (h : isW x lo hi = true) :
    Is (D.read x) (fint x) ∧ lo ≤ fint x ∧ fint x ≤ hi := by
  unfold isW at h
  simp only [Bool.and_eq_true] at h
  obtain ⟨⟨h1, h2⟩, h3⟩ := h
  obtain ⟨_, g1, g2⟩ := int_between h1 h2 b1 b2
  exact ⟨is_eqB h3 (by omega), g1, g2⟩

theorem isW_is {x : Nat} {n lo hi : Int} (h : Is (D.read x) n) (hb : n.natAbs < 9007199254740992) (b1 : lo.natAbs < 9007199254740992) (b2 : hi.natAbs < 9007199254740992) :
    isW x lo hi = decide (lo ≤ n ∧ n ≤ hi) := by
  unfold isW
  rw [fint_is h hb, geB_is h b1, leB_is h b2, eqB_is h hb]
  simp

end Fl
end Go.Proofs.Ytejkeccoialogaa.Pl
/-
  The walks of package place and of the page's own answers: what each call returns, said by 'fint' and 'isW' of the parts.
-/
namespace Go.Proofs.Ytejkeccoialogaa.Pl
open Go.RowKit Fl

theorem int_convert (x : Nat) (h : floatToIntVal .f64 x .i64 = some (fint x)) (w : World) :
    (convert 118 3 (.float .f64 x)).run Try.prog w = .ok (.int .i64 (fint x)) w :=
  run_convert_float_int w 118 3 .f64 .i64 x (fint x) (by rw [Try.underlying118]; rfl) Try.underlying3 h

theorem isW_parts {x : Nat} {lo hi : Int} (h : isW x lo hi = true) : geB x lo = true ∧ leB x hi = true ∧ eqB (fint x) x = true := by
  unfold isW at h
  simp only [Bool.and_eq_true] at h
  exact ⟨h.1.1, h.1.2, h.2⟩

theorem neq_of_eqB {x : Nat} {n : Int} {b : Bool} (h : eqB n x = b) : (FloatKind.f64.format.order (floatOfInt .f64 n) x != some .eq) = !b := by
  unfold eqB at h
  rw [bne, h]

set_option maxHeartbeats 400000 in
theorem whole_yes (x : Nat) (lo hi : Int) (b1 : lo.natAbs < 9007199254740992) (b2 : hi.natAbs < 9007199254740992) (h : isW x lo hi = true) (w : World) :
    Calls Try.prog 118 #[.float .f64 x, .int .i64 lo, .int .i64 hi] w fun e w' => e = .returned (.tuple #[.int .i64 (fint x), .bool true]) ∧ w = w' := by
  obtain ⟨h1, h2, h3⟩ := isW_parts h
  have hcv := int_convert x (int_between h1 h2 b1 b2).1
  have h4 := neq_of_eqB h3
  clear b1 b2 h h3
  unfold geB at h1
  unfold leB at h2
  simp only [Bool.not_true] at h4
  go_enter Try.func118, Try.ntmps118
  go_wp2
  go_ret2
  exact ⟨rfl, rfl⟩

set_option maxHeartbeats 400000 in
theorem whole_no (x : Nat) (lo hi : Int) (b1 : lo.natAbs < 9007199254740992) (b2 : hi.natAbs < 9007199254740992) (h : isW x lo hi = false) (w : World) :
    Calls Try.prog 118 #[.float .f64 x, .int .i64 lo, .int .i64 hi] w fun e w' => e = .returned (.tuple #[.int .i64 0, .bool false]) ∧ w = w' := by
  by_cases h1 : geB x lo = true
  · by_cases h2 : leB x hi = true
    · have h3 : eqB (fint x) x = false := by unfold isW at h; rw [h1, h2] at h; simpa using h
      have hcv := int_convert x (int_between h1 h2 b1 b2).1
      have h4 := neq_of_eqB h3
      clear b1 b2 h h3
      unfold geB at h1
      unfold leB at h2
      simp only [Bool.not_false] at h4
      go_enter Try.func118, Try.ntmps118
      go_wp2
      go_ret2
      exact ⟨rfl, rfl⟩
    · clear b1 b2 h
      simp only [Bool.not_eq_true] at h2
      unfold geB at h1
      unfold leB at h2
      go_enter Try.func118, Try.ntmps118
      go_wp2
      go_ret2
      exact ⟨rfl, rfl⟩
  · clear b1 b2 h
    simp only [Bool.not_eq_true] at h1
    unfold geB at h1
    go_enter Try.func118, Try.ntmps118
    go_wp2
    go_ret2
    exact ⟨rfl, rfl⟩

/-- the parts of a place, of a step -/
def isP (x y : Nat) : Bool := isW x 0 1099511627776 && isW y 1 16
def isS (x y : Nat) : Bool := isW x (-1099511627776) 1099511627776 && isW y (-1099511627776) 1099511627776

theorem isP_yes {x y : Nat} (h : isP x y = true) : isW x 0 1099511627776 = true ∧ isW y 1 16 = true := by
  unfold isP at h; simpa using h
theorem isP_no {x y : Nat} (h : isP x y = false) : isW x 0 1099511627776 = false ∨ (isW x 0 1099511627776 = true ∧ isW y 1 16 = false) := by
  unfold isP at h
  cases h1 : isW x 0 1099511627776
  · exact .inl rfl
  · rw [h1] at h; exact .inr ⟨rfl, by simpa using h⟩
theorem isS_yes {x y : Nat} (h : isS x y = true) : isW x (-1099511627776) 1099511627776 = true ∧ isW y (-1099511627776) 1099511627776 = true := by
  unfold isS at h; simpa using h

set_option maxHeartbeats 400000 in
theorem parts_yes (x y : Nat) (h : isP x y = true) (w : World) :
    Calls Try.prog 115 #[.complex .f64 x y] w fun e w' => e = .returned (.tuple #[.int .i64 (fint x), .int .i64 (fint y), .int .i64 0]) ∧ w = w' := by
  obtain ⟨h1, h2⟩ := isP_yes h
  have H1 := Lib.hid h1
  have H2 := Lib.hid h2
  clear h h1 h2
  go_enter Try.func115, Try.ntmps115
  go_wp2_with fail
  refine (whole_yes x 0 1099511627776 (by decide) (by decide) H1.out _).mono ?_
  rintro e w' ⟨rfl, rfl⟩
  go_wp2_with fail
  refine (whole_yes y 1 16 (by decide) (by decide) H2.out _).mono ?_
  rintro e w' ⟨rfl, rfl⟩
  go_wp2_with fail
  go_ret3
  exact ⟨rfl, rfl⟩

set_option maxHeartbeats 400000 in
theorem parts_no (x y : Nat) (h : isP x y = false) (w : World) :
    Calls Try.prog 115 #[.complex .f64 x y] w fun e w' => e = .returned (.tuple #[.int .i64 0, .int .i64 0, .int .i64 1]) ∧ w = w' := by
  rcases isP_no h with h1 | ⟨h1, h2⟩
  · have H1 := Lib.hid h1
    clear h h1
    cases h2 : isW y 1 16
    all_goals
      have H2 := Lib.hid h2
      clear h2
      go_enter Try.func115, Try.ntmps115
      go_wp2_with fail
      refine (whole_no x 0 1099511627776 (by decide) (by decide) H1.out _).mono ?_
      rintro e w' ⟨rfl, rfl⟩
      go_wp2_with fail
      first
        | refine (whole_no y 1 16 (by decide) (by decide) H2.out _).mono ?_
        | refine (whole_yes y 1 16 (by decide) (by decide) H2.out _).mono ?_
      rintro e w' ⟨rfl, rfl⟩
      go_wp2_with fail
      go_ret3
      exact ⟨rfl, rfl⟩
  · have H1 := Lib.hid h1
    have H2 := Lib.hid h2
    clear h h1 h2
    go_enter Try.func115, Try.ntmps115
    go_wp2_with fail
    refine (whole_yes x 0 1099511627776 (by decide) (by decide) H1.out _).mono ?_
    rintro e w' ⟨rfl, rfl⟩
    go_wp2_with fail
    refine (whole_no y 1 16 (by decide) (by decide) H2.out _).mono ?_
    rintro e w' ⟨rfl, rfl⟩
    go_wp2_with fail
    go_ret3
    exact ⟨rfl, rfl⟩

set_option maxHeartbeats 400000 in
theorem isPlace_any (x y : Nat) (w : World) :
    Calls Try.prog 104 #[.complex .f64 x y] w fun e w' => e = .returned (.bool (isP x y)) ∧ w = w' := by
  cases h : isP x y
  · have H := Lib.hid h
    clear h
    go_enter Try.func104, Try.ntmps104
    go_wp2_with fail
    refine (parts_no x y H.out _).mono ?_
    rintro e w' ⟨rfl, rfl⟩
    go_wp2_with fail
    go_ret
    exact ⟨rfl, rfl⟩
  · have H := Lib.hid h
    clear h
    go_enter Try.func104, Try.ntmps104
    go_wp2_with fail
    refine (parts_yes x y H.out _).mono ?_
    rintro e w' ⟨rfl, rfl⟩
    go_wp2_with fail
    go_ret
    exact ⟨rfl, rfl⟩

theorem isW_any {x : Nat} {lo hi : Int} (b1 : lo.natAbs < 9007199254740992) (b2 : hi.natAbs < 9007199254740992) (w : World) :
    Calls Try.prog 118 #[.float .f64 x, .int .i64 lo, .int .i64 hi] w fun e w' => ∃ n : Int, e = .returned (.tuple #[.int .i64 n, .bool (isW x lo hi)]) ∧ w = w' := by
  cases h : isW x lo hi
  · exact (whole_no x lo hi b1 b2 h w).mono fun _ _ ⟨a, b⟩ => ⟨_, a, b⟩
  · exact (whole_yes x lo hi b1 b2 h w).mono fun _ _ ⟨a, b⟩ => ⟨_, a, b⟩

/-- rounds and authors that may be -/
def may (r a : Int) : Bool := decide (0 ≤ r ∧ r ≤ 1099511627776 ∧ 1 ≤ a ∧ a ≤ 16)

set_option maxHeartbeats 400000 in
theorem at_yes (r a : Int) (h : may r a = true) (w : World) :
    Calls Try.prog 83 #[.int .i64 r, .int .i64 a] w fun e w' => e = .returned (.tuple #[.complex .f64 (F r) (F a), .int .i64 0]) ∧ w = w' := by
  unfold may at h
  simp only [decide_eq_true_eq] at h
  obtain ⟨h1, h2, h3, h4⟩ := h
  go_enter Try.func83, Try.ntmps83
  go_wp2
  go_ret2
  exact ⟨rfl, rfl⟩

set_option maxHeartbeats 400000 in
theorem at_no (r a : Int) (h : may r a = false) (w : World) :
    Calls Try.prog 83 #[.int .i64 r, .int .i64 a] w fun e w' => e = .returned (.tuple #[.complex .f64 0 0, .int .i64 1]) ∧ w = w' := by
  unfold may at h
  simp only [decide_eq_false_iff_not] at h
  have h' : r < 0 ∨ (0 ≤ r ∧ 1099511627776 < r) ∨ (0 ≤ r ∧ r ≤ 1099511627776 ∧ a < 1) ∨ (0 ≤ r ∧ r ≤ 1099511627776 ∧ 1 ≤ a ∧ 16 < a) := by omega
  clear h
  rcases h' with h1 | ⟨h1, h2⟩ | ⟨h1, h2, h3⟩ | ⟨h1, h2, h3, h4⟩
  all_goals
    go_enter Try.func83, Try.ntmps83
    go_wp2
    go_ret2
    exact ⟨rfl, rfl⟩

theorem three : (FloatKind.f64.format.order (floatOfInt .f64 3) 4613937818241073152 == some .eq) = true := by decide +kernel
theorem two : (FloatKind.f64.format.order (floatOfInt .f64 2) 4611686018427387904 == some .eq) = true := by decide +kernel

/-- ahead: an earlier round, or the same and a smaller author -/
def bef (r a s b : Int) : Bool := decide (r < s) || (decide (r = s) && decide (a < b))

theorem order_ints {x u : Nat} {r s : Int} (h1 : Is (D.read x) r) (h2 : Is (D.read u) s) : FloatKind.f64.format.order x u = some (compare r s) := order_both h1 h2
theorem neq_ints {x u : Nat} {r s : Int} (h1 : Is (D.read x) r) (h2 : Is (D.read u) s) : (FloatKind.f64.format.order x u != some .eq) = decide (r ≠ s) := by
  rw [order_ints h1 h2]
  rcases Int.lt_trichotomy r s with hl | hl | hl
  · rw [Int.compare_eq_lt.2 hl, decide_eq_true (show r ≠ s by omega)]; rfl
  · subst hl; simp
  · rw [Int.compare_eq_gt.2 hl, decide_eq_true (show r ≠ s by omega)]; rfl
theorem eq_ints {x u : Nat} {r s : Int} (h1 : Is (D.read x) r) (h2 : Is (D.read u) s) : (FloatKind.f64.format.order x u == some .eq) = decide (r = s) := by
  rw [order_ints h1 h2]
  rcases Int.lt_trichotomy r s with hl | hl | hl
  · rw [Int.compare_eq_lt.2 hl]; simp; omega
  · subst hl; simp
  · rw [Int.compare_eq_gt.2 hl]; simp; omega
theorem lt_ints {x u : Nat} {r s : Int} (h1 : Is (D.read x) r) (h2 : Is (D.read u) s) : (FloatKind.f64.format.order x u == some .lt) = decide (r < s) := by
  rw [order_ints h1 h2]
  rcases Int.lt_trichotomy r s with hl | hl | hl
  · rw [Int.compare_eq_lt.2 hl]; simp; omega
  · subst hl; simp
  · rw [Int.compare_eq_gt.2 hl]; simp; omega

theorem isP_is {x y : Nat} (h : isP x y = true) : Is (D.read x) (fint x) ∧ Is (D.read y) (fint y) ∧ 0 ≤ fint x ∧ fint x ≤ 1099511627776 ∧ 1 ≤ fint y ∧ fint y ≤ 16 := by
  obtain ⟨h1, h2⟩ := isP_yes h
  obtain ⟨a, b, c⟩ := isW_iff (by decide) (by decide) h1
  obtain ⟨d, e, f⟩ := isW_iff (by decide) (by decide) h2
  exact ⟨a, d, b, c, e, f⟩
theorem isS_is {x y : Nat} (h : isS x y = true) : Is (D.read x) (fint x) ∧ Is (D.read y) (fint y) ∧ -1099511627776 ≤ fint x ∧ fint x ≤ 1099511627776 ∧ -1099511627776 ≤ fint y ∧ fint y ≤ 1099511627776 := by
  obtain ⟨h1, h2⟩ := isS_yes h
  obtain ⟨a, b, c⟩ := isW_iff (by decide) (by decide) h1
  obtain ⟨d, e, f⟩ := isW_iff (by decide) (by decide) h2
  exact ⟨a, d, b, c, e, f⟩

set_option maxHeartbeats 400000 in
theorem before_yes (x y u v : Nat) (h : isP x y = true) (h' : isP u v = true) (w : World) :
    Calls Try.prog 91 #[.complex .f64 x y, .complex .f64 u v] w fun e w' => e = .returned (.tuple #[.bool (bef (fint x) (fint y) (fint u) (fint v)), .int .i64 0]) ∧ w = w' := by
  obtain ⟨i1, i2, _⟩ := isP_is h
  obtain ⟨i3, i4, _⟩ := isP_is h'
  have q1 := neq_ints i1 i3
  have q2 := lt_ints i1 i3
  have q3 := lt_ints i2 i4
  have H : Hid (isP x y = true) := h
  have H' : Hid (isP u v = true) := h'
  clear h h' i1 i2 i3 i4
  unfold bef
  by_cases hc : fint x = fint u
  · have q1' : (FloatKind.f64.format.order x u != some .eq) = false := by rw [q1]; simp [hc]
    have Q2 := Lib.hid q2
    have Q3 := Lib.hid q3
    have C := Lib.hid hc
    clear q1 q2 q3 hc
    go_enter Try.func91, Try.ntmps91
    go_wp2_with fail
    refine (isPlace_any x y _).mono ?_
    rintro e w' ⟨rfl, rfl⟩
    rw [H]
    go_wp2_with fail
    refine (isPlace_any u v _).mono ?_
    rintro e w' ⟨rfl, rfl⟩
    rw [H']
    go_wp2_with fail
    go_ret2
    exact ⟨by simp [C.out, Q3.out], rfl⟩
  · have q1' : (FloatKind.f64.format.order x u != some .eq) = true := by rw [q1]; simp [hc]
    have Q2 := Lib.hid q2
    have Q3 := Lib.hid q3
    have C := Lib.hid hc
    clear q1 q2 q3 hc
    go_enter Try.func91, Try.ntmps91
    go_wp2_with fail
    refine (isPlace_any x y _).mono ?_
    rintro e w' ⟨rfl, rfl⟩
    rw [H]
    go_wp2_with fail
    refine (isPlace_any u v _).mono ?_
    rintro e w' ⟨rfl, rfl⟩
    rw [H']
    go_wp2_with fail
    go_ret2
    exact ⟨by simp [C.out, Q2.out], rfl⟩

set_option maxHeartbeats 400000 in
theorem before_no (x y u v : Nat) (h : (isP x y && isP u v) = false) (w : World) :
    Calls Try.prog 91 #[.complex .f64 x y, .complex .f64 u v] w fun e w' => e = .returned (.tuple #[.bool false, .int .i64 1]) ∧ w = w' := by
  cases h1 : isP x y
  · have H1 := Lib.hid h1
    clear h h1
    go_enter Try.func91, Try.ntmps91
    go_wp2_with fail
    refine (isPlace_any x y _).mono ?_
    rintro e w' ⟨rfl, rfl⟩
    rw [H1.out]
    go_wp2_with fail
    go_ret2
    exact ⟨rfl, rfl⟩
  · have h2 : isP u v = false := by rw [h1] at h; simpa using h
    have H1 := Lib.hid h1
    have H2 := Lib.hid h2
    clear h h1 h2
    go_enter Try.func91, Try.ntmps91
    go_wp2_with fail
    refine (isPlace_any x y _).mono ?_
    rintro e w' ⟨rfl, rfl⟩
    rw [H1.out]
    go_wp2_with fail
    refine (isPlace_any u v _).mono ?_
    rintro e w' ⟨rfl, rfl⟩
    rw [H2.out]
    go_wp2_with fail
    go_ret2
    exact ⟨rfl, rfl⟩

set_option maxHeartbeats 400000 in
theorem rbefore_any (r a s b : Int) (w : World) :
    Calls Try.prog 47 #[.int .i64 r, .int .i64 a, .int .i64 s, .int .i64 b] w fun e w' => e = .returned (.bool (bef r a s b)) ∧ w = w' := by
  unfold bef
  rcases Int.lt_trichotomy r s with hl | hl | hl
  · go_enter Try.func47, Try.ntmps47
    go_wp2
    go_ret
    exact ⟨by simp [hl], rfl⟩
  · subst hl
    go_enter Try.func47, Try.ntmps47
    go_wp2
    go_ret
    exact ⟨by simp, rfl⟩
  · have hn : ¬ r < s := by omega
    have he : (r == s) = false := by rw [beq_eq_false_iff_ne]; omega
    go_enter Try.func47, Try.ntmps47
    go_wp2
    go_ret
    exact ⟨by simp; omega, rfl⟩

end Go.Proofs.Ytejkeccoialogaa.Pl
/-
  The same contracts, said of the whole numbers that the parts are.
-/
namespace Go.Proofs.Ytejkeccoialogaa.Pl
open Go.RowKit Fl

theorem may_iff {r s : Int} (h : may r s = true) : 0 ≤ r ∧ r ≤ 1099511627776 ∧ 1 ≤ s ∧ s ≤ 16 := by
  unfold may at h; simpa using h
theorem may_of {r s : Int} (h : 0 ≤ r ∧ r ≤ 1099511627776 ∧ 1 ≤ s ∧ s ≤ 16) : may r s = true := by
  unfold may; simpa using h
theorem may_not {r s : Int} (h : ¬ (0 ≤ r ∧ r ≤ 1099511627776 ∧ 1 ≤ s ∧ s ≤ 16)) : may r s = false := by
  unfold may; simpa using h

theorem isP_of {p q : Nat} {m n : Int} (h1 : Is (D.read p) m) (h2 : Is (D.read q) n) (b1 : m.natAbs < 9007199254740992) (b2 : n.natAbs < 9007199254740992) :
    isP p q = may m n := by
  unfold isP may
  rw [isW_is h1 b1 (by decide) (by decide), isW_is h2 b2 (by decide) (by decide)]
  rw [Bool.eq_iff_iff]
  simp
  omega

theorem isP_true {x y : Nat} {r s : Int} (hx : Is (D.read x) r) (hy : Is (D.read y) s) (h : may r s = true) : isP x y = true := by
  obtain ⟨a, b, c, d⟩ := may_iff h
  rw [isP_of hx hy (by omega) (by omega), h]

theorem parts_is {x y : Nat} {r s : Int} (hx : Is (D.read x) r) (hy : Is (D.read y) s) (h : may r s = true) (w : World) :
    Calls Try.prog 115 #[.complex .f64 x y] w fun e w' => e = .returned (.tuple #[.int .i64 r, .int .i64 s, .int .i64 0]) ∧ w = w' := by
  obtain ⟨a, b, c, d⟩ := may_iff h
  have := parts_yes x y (isP_true hx hy h) w
  rwa [fint_is hx (by omega), fint_is hy (by omega)] at this

theorem before_is {x y u v : Nat} {r s r' s' : Int} (hx : Is (D.read x) r) (hy : Is (D.read y) s) (hu : Is (D.read u) r') (hv : Is (D.read v) s') (h : may r s = true) (h' : may r' s' = true) (w : World) :
    Calls Try.prog 91 #[.complex .f64 x y, .complex .f64 u v] w fun e w' => e = .returned (.tuple #[.bool (bef r s r' s'), .int .i64 0]) ∧ w = w' := by
  obtain ⟨a, b, c, d⟩ := may_iff h
  obtain ⟨a', b', c', d'⟩ := may_iff h'
  have := before_yes x y u v (isP_true hx hy h) (isP_true hu hv h') w
  rwa [fint_is hx (by omega), fint_is hy (by omega), fint_is hu (by omega), fint_is hv (by omega)] at this

/-- the difference of two places, as the machine makes it -/
theorem diff_is {x y u v : Nat} {r s m n : Int} (hx : Is (D.read x) r) (hy : Is (D.read y) s) (hu : Is (D.read u) m) (hv : Is (D.read v) n) (h : may r s = true) (h' : may m n = true) :
    ∃ p q, (∀ w : World, (binOp .sub 77 (.complex .f64 x y) (.complex .f64 u v)).run Try.prog w = .ok (.complex .f64 p q) w) ∧ Is (D.read p) (r - m) ∧ Is (D.read q) (s - n) := by
  obtain ⟨a, b, c, d⟩ := may_iff h
  obtain ⟨a', b', c', d'⟩ := may_iff h'
  obtain ⟨p, hp, ip⟩ := sub_is hx hu (by omega)
  obtain ⟨q, hq, iq⟩ := sub_is hy hv (by omega)
  refine ⟨p, q, fun w => run_complex_sum w .sub (.inr rfl) 77 .f64 x y u v p q ?_, ip, iq⟩
  unfold cSumBits
  rw [hp, hq]
  rfl

theorem is_zero : Is (D.read 0) 0 := ⟨false, 0, -1074, rfl, -1074, by omega, by omega, by decide +kernel⟩
theorem is_one : Is (D.read 4607182418800017408) 1 := is_eqB (k := 1) (by decide +kernel) (by decide)
theorem is_neg_one : Is (D.read 13830554455654793216) (-1) := is_eqB (k := -1) (by decide +kernel) (by decide)
theorem F_zero : F 0 = 0 := by decide +kernel

theorem order_F (n : Int) (h : n.natAbs < 9007199254740992) : FloatKind.f64.format.order (floatOfInt .f64 n) (floatOfInt .f64 n) = some .eq := by
  have := order_ints (is_F n h) (is_F n h)
  simpa using this
theorem zero_zero : FloatKind.f64.format.order 0 0 = some .eq := by decide +kernel

end Go.Proofs.Ytejkeccoialogaa.Pl
