/-
  Numbers and lists as bytes, said on plain lists: what is written, what is read, and that the two are inverse to each other.
-/
namespace Go.Proofs.Ytejkeccoialogaa

/-- a byte -/
def Byt (c : Int) : Prop := 0 ≤ c ∧ c ≤ 255
def Byts (b : List Int) : Prop := ∀ c ∈ b, Byt c

theorem Byts.nil : Byts [] := fun _ h => by simp at h
theorem Byts.cons {c : Int} {b : List Int} (h : Byt c) (k : Byts b) : Byts (c :: b) := by
  intro x hx; rcases List.mem_cons.1 hx with rfl | hx
  · exact h
  · exact k x hx
theorem Byts.append {a b : List Int} (h : Byts a) (k : Byts b) : Byts (a ++ b) := by
  intro x hx; rcases List.mem_append.1 hx with hx | hx
  · exact h x hx
  · exact k x hx
theorem Byts.drop {a : List Int} (h : Byts a) (n : Nat) : Byts (a.drop n) := fun x hx => h x (List.mem_of_mem_drop hx)
theorem Byts.take {a : List Int} (h : Byts a) (n : Nat) : Byts (a.take n) := fun x hx => h x (List.mem_of_mem_take hx)
theorem Byts.tail {c : Int} {a : List Int} (h : Byts (c :: a)) : Byts a := fun x hx => h x (List.mem_cons_of_mem _ hx)
theorem Byts.head {c : Int} {a : List Int} (h : Byts (c :: a)) : Byt c := h c (by simp)
theorem Byts.at_ {a : List Int} (h : Byts a) (i : Nat) : Byt (a[i]?.getD 0) := by
  rcases Nat.lt_or_ge i a.length with hl | hl
  · rw [List.getElem?_eq_getElem hl]; exact h _ (List.getElem_mem hl)
  · rw [List.getElem?_eq_none hl]; exact ⟨by decide, by decide⟩

/-- a number's bytes -/
def vnum (n : Nat) : List Int :=
  if n < 128 then [(n : Int)] else ((n % 128 + 128 : Nat) : Int) :: vnum (n / 128)
termination_by n
decreasing_by exact Nat.div_lt_self (by omega) (by decide)

theorem vnum_lt {n : Nat} (h : n < 128) : vnum n = [(n : Int)] := by rw [vnum, if_pos h]
theorem vnum_ge {n : Nat} (h : 128 ≤ n) : vnum n = ((n % 128 + 128 : Nat) : Int) :: vnum (n / 128) := by rw [vnum, if_neg (by omega)]

theorem vnum_byts (n : Nat) : Byts (vnum n) := by
  induction n using Nat.strongRecOn with
  | ind n ih =>
    rcases Nat.lt_or_ge n 128 with h | h
    · rw [vnum_lt h]; exact Byts.cons ⟨by omega, by omega⟩ Byts.nil
    · rw [vnum_ge h]; exact Byts.cons ⟨by omega, by omega⟩ (ih _ (Nat.div_lt_self (by omega) (by decide)))

theorem vnum_pos (n : Nat) : 0 < (vnum n).length := by
  rcases Nat.lt_or_ge n 128 with h | h
  · rw [vnum_lt h]; simp
  · rw [vnum_ge h]; simp

/-- the number with whose bytes a list begins, and how many they are: from the byte i on, with what the bytes ahead of it make -/
def gn (i acc : Nat) : List Int → Option (Nat × Nat)
  | [] => none
  | c :: r =>
    if i = 9 then none
    else if c < 128 then (if c = 0 ∧ 0 < i then none else some (acc + c.toNat * 128 ^ i, i + 1))
    else gn (i + 1) (acc + (c.toNat % 128) * 128 ^ i) r

theorem gn_nil (i acc : Nat) : gn i acc [] = none := rfl
theorem gn_nine (acc : Nat) (b : List Int) : gn 9 acc b = none := by cases b <;> simp [gn]
theorem gn_last {i acc : Nat} {c : Int} {r : List Int} (hi : i ≠ 9) (hc : c < 128) (h : ¬ (c = 0 ∧ 0 < i)) : gn i acc (c :: r) = some (acc + c.toNat * 128 ^ i, i + 1) := by
  simp [gn, hi, hc]; omega
theorem gn_zero {i acc : Nat} {c : Int} {r : List Int} (hi : i ≠ 9) (hc : c = 0) (h : 0 < i) : gn i acc (c :: r) = none := by
  simp [gn, hi, hc, h]
theorem gn_more {i acc : Nat} {c : Int} {r : List Int} (hi : i ≠ 9) (hc : 128 ≤ c) : gn i acc (c :: r) = gn (i + 1) (acc + (c.toNat % 128) * 128 ^ i) r := by
  have : ¬ c < 128 := by omega
  simp [gn, hi, this]

theorem pow_up (i : Nat) : 128 ^ (i + 1) = 128 * 128 ^ i := by rw [Nat.pow_succ, Nat.mul_comm]

/-- what is written is read, whatever stands behind -/
theorem gn_vnum (n : Nat) : ∀ (i acc : Nat) (r : List Int), i ≤ 9 → n < 128 ^ (9 - i) → (0 < i → 0 < n) →
    gn i acc (vnum n ++ r) = some (acc + n * 128 ^ i, i + (vnum n).length) := by
  induction n using Nat.strongRecOn with
  | ind n ih =>
    intro i acc r hi hn h0
    have hi9 : i ≠ 9 := by
      rintro rfl
      have := h0 (by decide)
      simp at hn
      omega
    rcases Nat.lt_or_ge n 128 with h | h
    · rw [vnum_lt h]
      show gn i acc ((n : Int) :: r) = _
      rw [gn_last hi9 (by omega) (by intro hh; have := h0 hh.2; omega)]
      simp
    · have hd : n / 128 < n := Nat.div_lt_self (by omega) (by decide)
      rw [vnum_ge h]
      show gn i acc (((n % 128 + 128 : Nat) : Int) :: (vnum (n / 128) ++ r)) = _
      rw [gn_more hi9 (by omega)]
      have e9 : 9 - i = (9 - (i + 1)) + 1 := by omega
      have hlt : n / 128 < 128 ^ (9 - (i + 1)) := by
        rw [e9, pow_up] at hn
        exact Nat.div_lt_of_lt_mul hn
      rw [ih _ hd (i + 1) _ r (by omega) hlt (fun _ => by omega)]
      have em : (((n % 128 + 128 : Nat) : Int).toNat) % 128 = n % 128 := by
        rw [Int.toNat_natCast]; omega
      have key : n % 128 * 128 ^ i + n / 128 * 128 ^ (i + 1) = n * 128 ^ i := by
        rw [pow_up, ← Nat.mul_assoc, ← Nat.add_mul]
        congr 1
        omega
      rw [em]
      simp only [List.length_cons, Option.some.injEq, Prod.mk.injEq]
      constructor
      · rw [Nat.add_assoc, key]
      · omega

/-- what is read was written -/
theorem gn_some : ∀ (b : List Int) (i acc m k : Nat), Byts b → i ≤ 9 → gn i acc b = some (m, k) →
    ∃ (n : Nat) (r : List Int), m = acc + n * 128 ^ i ∧ b = vnum n ++ r ∧ k = i + (vnum n).length ∧ n < 128 ^ (9 - i) ∧ (0 < i → 0 < n) := by
  intro b
  induction b with
  | nil => intro i acc m k _ _ h; simp [gn_nil] at h
  | cons c r ih =>
    intro i acc m k hb hi h
    have hc := hb.head
    unfold Byt at hc
    by_cases h9 : i = 9
    · subst h9; rw [gn_nine] at h; cases h
    · by_cases hc1 : c < 128
      · by_cases hz : c = 0 ∧ 0 < i
        · rw [gn_zero h9 hz.1 hz.2] at h; cases h
        · rw [gn_last h9 hc1 hz] at h
          simp only [Option.some.injEq, Prod.mk.injEq] at h
          obtain ⟨rfl, rfl⟩ := h
          have hl : c.toNat < 128 := by omega
          refine ⟨c.toNat, r, rfl, ?_, ?_, ?_, ?_⟩
          · rw [vnum_lt hl]; simp; omega
          · rw [vnum_lt hl]; rfl
          · exact Nat.lt_of_lt_of_le hl (by rw [show 9 - i = (8 - i) + 1 by omega, pow_up]; exact Nat.le_mul_of_pos_right _ (Nat.pow_pos (by decide)))
          · intro hp; omega
      · rw [gn_more h9 (by omega)] at h
        obtain ⟨n, r', rfl, rfl, rfl, hn, hp⟩ := ih (i + 1) _ m k hb.tail (by omega) h
        have hp := hp (by omega)
        have e9 : 9 - i = (9 - (i + 1)) + 1 := by omega
        have hge : 128 ≤ n * 128 + c.toNat % 128 := by omega
        refine ⟨n * 128 + c.toNat % 128, r', ?_, ?_, ?_, ?_, ?_⟩
        · rw [Nat.add_assoc]
          congr 1
          rw [pow_up, Nat.add_mul, ← Nat.mul_assoc]
          omega
        · rw [vnum_ge hge]
          have e1 : (n * 128 + c.toNat % 128) % 128 = c.toNat % 128 := by omega
          have e2 : (n * 128 + c.toNat % 128) / 128 = n := by omega
          rw [e1, e2]
          simp only [List.cons_append, List.cons.injEq, and_true]
          omega
        · rw [vnum_ge hge]
          have e2 : (n * 128 + c.toNat % 128) / 128 = n := by omega
          rw [e2]
          simp
          omega
        · rw [e9, pow_up]
          have : n + 1 ≤ 128 ^ (9 - (i + 1)) := hn
          have := Nat.mul_le_mul_left 128 this
          omega
        · intro _; omega

theorem two63 : (128 : Nat) ^ 9 = 9223372036854775808 := by decide

theorem get_put {n : Nat} (h : n < 9223372036854775808) (r : List Int) : gn 0 0 (vnum n ++ r) = some (n, (vnum n).length) := by
  have := gn_vnum n 0 0 r (by decide) (by rw [show 9 - 0 = 9 from rfl, two63]; exact h) (fun h => absurd h (by decide))
  simpa using this
theorem put_get {b : List Int} {m k : Nat} (hb : Byts b) (h : gn 0 0 b = some (m, k)) : ∃ r, b = vnum m ++ r ∧ k = (vnum m).length ∧ m < 9223372036854775808 ∧ 0 < k ∧ k ≤ b.length ∧ b.drop k = r := by
  obtain ⟨n, r, e1, e2, e3, hn, _⟩ := gn_some b 0 0 m k hb (by decide) h
  rw [show 9 - 0 = 9 from rfl, two63] at hn
  have e1 : m = n := by simpa using e1
  subst e1
  have e3 : k = (vnum m).length := by simpa using e3
  have hp := vnum_pos m
  subst e2
  refine ⟨r, rfl, e3, hn, by omega, by simp; omega, ?_⟩
  rw [e3]; simp

/-- bytes that have been read up to i, none of them the last one -/
theorem vnum_len_le (n : Nat) (h : n < 9223372036854775808) : (vnum n).length ≤ 9 := by
  have key : ∀ (j n : Nat), n < 128 ^ (j + 1) → (vnum n).length ≤ j + 1 := by
    intro j
    induction j with
    | zero => intro n hn; rw [vnum_lt (by simpa using hn)]; simp
    | succ j ih =>
      intro n hn
      rcases Nat.lt_or_ge n 128 with h | h
      · rw [vnum_lt h]; simp
      · rw [vnum_ge h]
        have := ih (n / 128) (by rw [pow_up] at hn; exact Nat.div_lt_of_lt_mul hn)
        simp; omega
  exact key 8 n (by rw [two63]; exact h)

theorem vnum_inj {m n : Nat} (hm : m < 9223372036854775808) (hn : n < 9223372036854775808) {r s : List Int} (h : vnum m ++ r = vnum n ++ s) : m = n ∧ r = s := by
  have h1 := get_put hm r
  rw [h, get_put hn s] at h1
  simp only [Option.some.injEq, Prod.mk.injEq] at h1
  obtain ⟨rfl, _⟩ := h1
  exact ⟨rfl, by simpa using h⟩

/-- how long a number's bytes are -/
theorem vnum_len {n k : Nat} (hk : 0 < k) (h1 : n < 128 ^ k) (h2 : k = 1 ∨ 128 ^ (k - 1) ≤ n) : (vnum n).length = k := by
  induction k generalizing n with
  | zero => omega
  | succ k ih =>
    rcases Nat.eq_zero_or_pos k with rfl | hk0
    · rw [vnum_lt (by simpa using h1)]; rfl
    · have h2 : 128 ^ k ≤ n := by rcases h2 with h | h; · omega
                                  · simpa using h
      have e : 128 ^ k = 128 * 128 ^ (k - 1) := by rw [← pow_up]; congr 1; omega
      have hp : 0 < 128 ^ (k - 1) := Nat.pow_pos (by decide)
      have hge : 128 ≤ n := by have := Nat.le_mul_of_pos_right 128 hp; omega
      rw [vnum_ge hge]
      have := ih (n := n / 128) hk0 (by rw [pow_up] at h1; exact Nat.div_lt_of_lt_mul h1) (by
        right
        rw [e] at h2
        exact (Nat.le_div_iff_mul_le (by decide)).2 (by rw [Nat.mul_comm]; exact h2))
      simp [this]

/-! ### Lists -/
/-- numbers' bytes, behind their count -/
def vnums (l : List Nat) : List Int := l.flatMap vnum
/-- texts' bytes, behind their count -/
def vputs (l : List (List Int)) : List Int := l.flatMap fun s => vnum s.length ++ s

def rdNums : Nat → List Int → Option (List Nat × List Int)
  | 0, b => some ([], b)
  | c + 1, b => (gn 0 0 b).bind fun p => (rdNums c (b.drop p.2)).map fun q => (p.1 :: q.1, q.2)
def rdPuts : Nat → List Int → Option (List (List Int) × List Int)
  | 0, b => some ([], b)
  | c + 1, b => (gn 0 0 b).bind fun p => if (b.drop p.2).length < p.1 then none else
      (rdPuts c ((b.drop p.2).drop p.1)).map fun q => ((b.drop p.2).take p.1 :: q.1, q.2)

theorem rdNums_none {c : Nat} {b : List Int} (h : gn 0 0 b = none) : rdNums (c + 1) b = none := by simp [rdNums, h]
theorem rdNums_some {c m k : Nat} {b : List Int} (h : gn 0 0 b = some (m, k)) : rdNums (c + 1) b = (rdNums c (b.drop k)).map fun q => (m :: q.1, q.2) := by simp [rdNums, h]
theorem rdPuts_none {c : Nat} {b : List Int} (h : gn 0 0 b = none) : rdPuts (c + 1) b = none := by simp [rdPuts, h]
theorem rdPuts_long {c m k : Nat} {b : List Int} (h : gn 0 0 b = some (m, k)) (hl : b.length - k < m) : rdPuts (c + 1) b = none := by
  simp [rdPuts, h]; intro hh; omega
theorem rdPuts_some {c m k : Nat} {b : List Int} (h : gn 0 0 b = some (m, k)) (hl : m ≤ b.length - k) : rdPuts (c + 1) b = (rdPuts c (b.drop (k + m))).map fun q => ((b.drop k).take m :: q.1, q.2) := by
  have : ¬ (b.length - k < m) := by omega
  simp [rdPuts, h, this, List.drop_drop]

theorem rdNums_put (l : List Nat) : ∀ (r : List Int), (∀ n ∈ l, n < 9223372036854775808) → rdNums l.length (vnums l ++ r) = some (l, r) := by
  induction l with
  | nil => intro r _; rfl
  | cons n l ih =>
    intro r h
    have e : vnums (n :: l) ++ r = vnum n ++ (vnums l ++ r) := by simp [vnums]
    rw [e, List.length_cons, rdNums_some (get_put (h n (by simp)) _)]
    have : (vnum n ++ (vnums l ++ r)).drop (vnum n).length = vnums l ++ r := by simp
    rw [this, ih r (fun m hm => h m (by simp [hm]))]
    rfl
theorem rdPuts_put (l : List (List Int)) : ∀ (r : List Int), (∀ s ∈ l, s.length < 9223372036854775808) → rdPuts l.length (vputs l ++ r) = some (l, r) := by
  induction l with
  | nil => intro r _; rfl
  | cons s l ih =>
    intro r h
    have e : vputs (s :: l) ++ r = vnum s.length ++ (s ++ (vputs l ++ r)) := by simp [vputs]
    rw [e, List.length_cons, rdPuts_some (get_put (h s (by simp)) _) (by simp)]
    have e1 : (vnum s.length ++ (s ++ (vputs l ++ r))).drop ((vnum s.length).length + s.length) = vputs l ++ r := by rw [← List.drop_drop]; simp
    have e2 : ((vnum s.length ++ (s ++ (vputs l ++ r))).drop (vnum s.length).length).take s.length = s := by simp
    rw [e1, e2, ih r (fun m hm => h m (by simp [hm]))]
    rfl

theorem rdNums_get : ∀ (c : Nat) (b : List Int) (l : List Nat) (r : List Int), Byts b → rdNums c b = some (l, r) → b = vnums l ++ r ∧ l.length = c ∧ c ≤ b.length ∧ (∀ n ∈ l, n < 9223372036854775808) := by
  intro c
  induction c with
  | zero => intro b l r _ h; simp [rdNums] at h; obtain ⟨rfl, rfl⟩ := h; simp [vnums]
  | succ c ih =>
    intro b l r hb h
    cases hg : gn 0 0 b with
    | none => rw [rdNums_none hg] at h; cases h
    | some p =>
      obtain ⟨m, k⟩ := p
      rw [rdNums_some hg] at h
      cases hr : rdNums c (b.drop k) with
      | none => rw [hr] at h; cases h
      | some q =>
        obtain ⟨l', r'⟩ := q
        rw [hr] at h
        simp at h
        obtain ⟨rfl, rfl⟩ := h
        obtain ⟨r0, e0, e1, hm, hk, hkl, e2⟩ := put_get hb hg
        obtain ⟨e3, e4, e5, e6⟩ := ih _ _ _ (hb.drop k) hr
        refine ⟨?_, by simp [e4], by simp at e5; omega, ?_⟩
        · rw [e2] at e3
          rw [e0, e3]
          simp [vnums]
        · intro n hn
          rcases List.mem_cons.1 hn with rfl | hn
          · exact hm
          · exact e6 n hn
theorem rdPuts_get : ∀ (c : Nat) (b : List Int) (l : List (List Int)) (r : List Int), Byts b → rdPuts c b = some (l, r) → b = vputs l ++ r ∧ l.length = c ∧ c ≤ b.length ∧ (∀ s ∈ l, s.length < 9223372036854775808 ∧ Byts s) := by
  intro c
  induction c with
  | zero => intro b l r _ h; simp [rdPuts] at h; obtain ⟨rfl, rfl⟩ := h; simp [vputs]
  | succ c ih =>
    intro b l r hb h
    cases hg : gn 0 0 b with
    | none => rw [rdPuts_none hg] at h; cases h
    | some p =>
      obtain ⟨m, k⟩ := p
      obtain ⟨r0, e0, e1, hm, hk, hkl, e2⟩ := put_get hb hg
      rcases Nat.lt_or_ge (b.length - k) m with hlong | hfit
      · rw [rdPuts_long hg hlong] at h; cases h
      rw [rdPuts_some hg hfit] at h
      cases hr : rdPuts c (b.drop (k + m)) with
      | none => rw [hr] at h; cases h
      | some q =>
        obtain ⟨l', r'⟩ := q
        rw [hr] at h
        simp at h
        obtain ⟨rfl, rfl⟩ := h
        obtain ⟨e3, e4, e5, e6⟩ := ih _ _ _ (hb.drop _) hr
        have hlen : ((b.drop k).take m).length = m := by simp; omega
        refine ⟨?_, by simp [e4], by simp at e5; omega, ?_⟩
        · have e7 : b.drop k = (b.drop k).take m ++ b.drop (k + m) := by rw [← List.drop_drop, List.take_append_drop]
          have e8 : b = vnum m ++ b.drop k := by rw [e2]; exact e0
          conv => lhs; rw [e8, e7, e3]
          simp only [vputs, List.flatMap_cons, hlen, List.append_assoc]
        · intro s hs
          rcases List.mem_cons.1 hs with rfl | hs
          · exact ⟨by omega, (hb.drop k).take m⟩
          · exact e6 s hs

/-- what a list's bytes are read as: numbers -/
def getNums (b : List Int) : Option (List Nat) :=
  (gn 0 0 b).bind fun p => (rdNums p.1 (b.drop p.2)).bind fun q => if q.2 = [] then some q.1 else none
def getPuts (b : List Int) : Option (List (List Int)) :=
  (gn 0 0 b).bind fun p => (rdPuts p.1 (b.drop p.2)).bind fun q => if q.2 = [] then some q.1 else none
def putNums (l : List Nat) : List Int := vnum l.length ++ vnums l
def putPuts (l : List (List Int)) : List Int := vnum l.length ++ vputs l

/-- whether, and with what behind, bytes begin with those of a list -/
def begNums (b : List Int) : Option (List Nat × List Int) := (gn 0 0 b).bind fun p => rdNums p.1 (b.drop p.2)
def begPuts (b : List Int) : Option (List (List Int) × List Int) := (gn 0 0 b).bind fun p => rdPuts p.1 (b.drop p.2)

theorem getNums_eq (b : List Int) : getNums b = (begNums b).bind fun q => if q.2 = [] then some q.1 else none := by
  unfold getNums begNums; cases gn 0 0 b <;> rfl
theorem getPuts_eq (b : List Int) : getPuts b = (begPuts b).bind fun q => if q.2 = [] then some q.1 else none := by
  unfold getPuts begPuts; cases gn 0 0 b <;> rfl

theorem begNums_put {l : List Nat} (h : ∀ n ∈ l, n < 9223372036854775808) (hl : l.length < 9223372036854775808) (r : List Int) : begNums (putNums l ++ r) = some (l, r) := by
  unfold begNums putNums
  rw [List.append_assoc, get_put hl]
  simp [rdNums_put l r h]
theorem begPuts_put {l : List (List Int)} (h : ∀ s ∈ l, s.length < 9223372036854775808) (hl : l.length < 9223372036854775808) (r : List Int) : begPuts (putPuts l ++ r) = some (l, r) := by
  unfold begPuts putPuts
  rw [List.append_assoc, get_put hl]
  simp [rdPuts_put l r h]
theorem begNums_get {b : List Int} {l : List Nat} {r : List Int} (hb : Byts b) (h : begNums b = some (l, r)) : b = putNums l ++ r := by
  unfold begNums at h
  cases hg : gn 0 0 b with
  | none => rw [hg] at h; cases h
  | some p =>
    obtain ⟨m, k⟩ := p
    rw [hg] at h
    obtain ⟨r0, e0, e1, hm, hk, hkl, e2⟩ := put_get hb hg
    obtain ⟨e3, e4, _, _⟩ := rdNums_get m _ l r (hb.drop k) h
    unfold putNums
    rw [e4, List.append_assoc, ← e3, e2]
    exact e0
theorem begPuts_get {b : List Int} {l : List (List Int)} {r : List Int} (hb : Byts b) (h : begPuts b = some (l, r)) : b = putPuts l ++ r := by
  unfold begPuts at h
  cases hg : gn 0 0 b with
  | none => rw [hg] at h; cases h
  | some p =>
    obtain ⟨m, k⟩ := p
    rw [hg] at h
    obtain ⟨r0, e0, e1, hm, hk, hkl, e2⟩ := put_get hb hg
    obtain ⟨e3, e4, _, _⟩ := rdPuts_get m _ l r (hb.drop k) h
    unfold putPuts
    rw [e4, List.append_assoc, ← e3, e2]
    exact e0

theorem getNums_put {l : List Nat} (h : ∀ n ∈ l, n < 9223372036854775808) (hl : l.length < 9223372036854775808) : getNums (putNums l) = some l := by
  have := begNums_put h hl []
  rw [List.append_nil] at this
  rw [getNums_eq, this]; rfl
theorem getPuts_put {l : List (List Int)} (h : ∀ s ∈ l, s.length < 9223372036854775808) (hl : l.length < 9223372036854775808) : getPuts (putPuts l) = some l := by
  have := begPuts_put h hl []
  rw [List.append_nil] at this
  rw [getPuts_eq, this]; rfl
theorem getNums_get {b : List Int} {l : List Nat} (hb : Byts b) (h : getNums b = some l) : b = putNums l := by
  rw [getNums_eq] at h
  cases hg : begNums b with
  | none => rw [hg] at h; cases h
  | some q =>
    obtain ⟨l', r⟩ := q
    rw [hg] at h
    simp at h
    obtain ⟨rfl, rfl⟩ := h
    have := begNums_get hb hg
    simpa using this
theorem getPuts_get {b : List Int} {l : List (List Int)} (hb : Byts b) (h : getPuts b = some l) : b = putPuts l := by
  rw [getPuts_eq] at h
  cases hg : begPuts b with
  | none => rw [hg] at h; cases h
  | some q =>
    obtain ⟨l', r⟩ := q
    rw [hg] at h
    simp at h
    obtain ⟨rfl, rfl⟩ := h
    have := begPuts_get hb hg
    simpa using this

/-- with something behind, or cut short, it is none -/
theorem getNums_more {l : List Nat} (h : ∀ n ∈ l, n < 9223372036854775808) (hl : l.length < 9223372036854775808) {r : List Int} (hr : r ≠ []) : getNums (putNums l ++ r) = none := by
  rw [getNums_eq, begNums_put h hl]; simp [hr]
theorem getPuts_more {l : List (List Int)} (h : ∀ s ∈ l, s.length < 9223372036854775808) (hl : l.length < 9223372036854775808) {r : List Int} (hr : r ≠ []) : getPuts (putPuts l ++ r) = none := by
  rw [getPuts_eq, begPuts_put h hl]; simp [hr]

theorem rd_drop_some {α : Type} {l : List α} {k : Nat} (h : k < l.length) : l.drop k ≠ [] := by
  intro e
  have : (l.drop k).length = 0 := by rw [e]; rfl
  simp at this; omega

theorem vnums_byts (l : List Nat) : Byts (vnums l) := by
  induction l with
  | nil => exact Byts.nil
  | cons n l ih => simp only [vnums, List.flatMap_cons]; exact (vnum_byts n).append ih
theorem vputs_byts (l : List (List Int)) (h : ∀ s ∈ l, Byts s) : Byts (vputs l) := by
  induction l with
  | nil => exact Byts.nil
  | cons s l ih =>
    simp only [vputs, List.flatMap_cons]
    exact ((vnum_byts _).append (h s (by simp))).append (ih fun t ht => h t (by simp [ht]))
theorem putNums_byts (l : List Nat) : Byts (putNums l) := (vnum_byts _).append (vnums_byts l)
theorem putPuts_byts (l : List (List Int)) (h : ∀ s ∈ l, Byts s) : Byts (putPuts l) := (vnum_byts _).append (vputs_byts l h)

theorem rdNums_wf {c : Nat} {b : List Int} {l : List Nat} {r : List Int} (hb : Byts b) (h : rdNums c b = some (l, r)) : (∀ n ∈ l, n < 9223372036854775808) ∧ l.length = c :=
  ⟨(rdNums_get c b l r hb h).2.2.2, (rdNums_get c b l r hb h).2.1⟩

theorem getNums_short {l : List Nat} (h : ∀ n ∈ l, n < 9223372036854775808) (hl : l.length < 9223372036854775808) {k : Nat} (hk : k < (putNums l).length) : getNums ((putNums l).take k) = none := by
  cases hg : getNums ((putNums l).take k) with
  | none => rfl
  | some l' =>
    exfalso
    have hb := (putNums_byts l).take k
    have e := getNums_get hb hg
    have e2 := begNums_put h hl []
    rw [List.append_nil, ← List.take_append_drop k (putNums l), e] at e2
    rw [getNums_eq] at hg
    cases hq : begNums ((putNums l).take k) with
    | none => rw [hq] at hg; cases hg
    | some q =>
      obtain ⟨l1, r1⟩ := q
      rw [hq] at hg
      simp at hg
      obtain ⟨rfl, rfl⟩ := hg
      have hl1 : (∀ n ∈ l1, n < 9223372036854775808) ∧ l1.length < 9223372036854775808 := by
        unfold begNums at hq
        cases hgn : gn 0 0 ((putNums l).take k) with
        | none => rw [hgn] at hq; cases hq
        | some p =>
          obtain ⟨m, j⟩ := p
          rw [hgn] at hq
          obtain ⟨_, _, _, hm, _⟩ := put_get hb hgn
          have := rdNums_wf (hb.drop j) hq
          exact ⟨this.1, by omega⟩
      rw [begNums_put hl1.1 hl1.2] at e2
      simp only [Option.some.injEq, Prod.mk.injEq] at e2
      exact rd_drop_some hk e2.2

theorem getPuts_short {l : List (List Int)} (hs : ∀ s ∈ l, Byts s) (h : ∀ s ∈ l, s.length < 9223372036854775808) (hl : l.length < 9223372036854775808) {k : Nat} (hk : k < (putPuts l).length) : getPuts ((putPuts l).take k) = none := by
  cases hg : getPuts ((putPuts l).take k) with
  | none => rfl
  | some l' =>
    exfalso
    have hb := (putPuts_byts l hs).take k
    have e := getPuts_get hb hg
    have e2 := begPuts_put h hl []
    rw [List.append_nil, ← List.take_append_drop k (putPuts l), e] at e2
    rw [getPuts_eq] at hg
    cases hq : begPuts ((putPuts l).take k) with
    | none => rw [hq] at hg; cases hg
    | some q =>
      obtain ⟨l1, r1⟩ := q
      rw [hq] at hg
      simp at hg
      obtain ⟨rfl, rfl⟩ := hg
      have hl1 : (∀ s ∈ l1, s.length < 9223372036854775808) ∧ l1.length < 9223372036854775808 := by
        unfold begPuts at hq
        cases hgn : gn 0 0 ((putPuts l).take k) with
        | none => rw [hgn] at hq; cases hq
        | some p =>
          obtain ⟨m, j⟩ := p
          rw [hgn] at hq
          obtain ⟨_, _, _, hm, _⟩ := put_get hb hgn
          have := rdPuts_get m _ l1 [] (hb.drop j) hq
          exact ⟨fun s h => (this.2.2.2 s h).1, by omega⟩
      rw [begPuts_put hl1.1 hl1.2] at e2
      simp only [Option.some.injEq, Prod.mk.injEq] at e2
      exact rd_drop_some hk e2.2

end Go.Proofs.Ytejkeccoialogaa
