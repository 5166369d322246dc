/-
  A disk said on plain data: names in order, where one stands, and what each call does.
-/
import Derived.Lib.Bytealg
import Derived.Test.YtaccmjgnggepjaaCodec
import Derived.Test.YtaccmjgnggepjaaMem
namespace Go.Proofs.Ytaccmjgnggepjaa

/-! ### names -/
theorem bl_irrefl : ∀ a : List UInt8, Op.bytesLess a a = false
  | [] => rfl
  | x :: a => by simp [Op.bytesLess, bl_irrefl a, UInt8.lt_irrefl]
theorem bl_trans : ∀ {a b c : List UInt8}, Op.bytesLess a b = true → Op.bytesLess b c = true → Op.bytesLess a c = true
  | [], _, [], _, h => by cases ‹List UInt8› <;> simp [Op.bytesLess] at h
  | [], _, _ :: _, _, _ => rfl
  | _ :: _, [], _, h, _ => by simp [Op.bytesLess] at h
  | _ :: _, _ :: _, [], _, h => by simp [Op.bytesLess] at h
  | x :: a, y :: b, z :: c, h, k => by
    simp only [Op.bytesLess, Bool.or_eq_true, Bool.and_eq_true, decide_eq_true_eq, beq_iff_eq] at h k ⊢
    rcases h with h | ⟨rfl, h⟩
    · rcases k with k | ⟨rfl, k⟩
      · exact .inl (UInt8.lt_trans h k)
      · exact .inl h
    · rcases k with k | ⟨rfl, k⟩
      · exact .inl k
      · exact .inr ⟨rfl, bl_trans h k⟩
theorem bl_total : ∀ {a b : List UInt8}, Op.bytesLess a b = false → Op.bytesLess b a = false → a = b
  | [], [], _, _ => rfl
  | [], _ :: _, h, _ => by simp [Op.bytesLess] at h
  | _ :: _, [], _, h => by simp [Op.bytesLess] at h
  | x :: a, y :: b, h, k => by
    simp only [Op.bytesLess, Bool.or_eq_false_iff, decide_eq_false_iff_not, Bool.and_eq_false_imp, beq_iff_eq] at h k
    have hxy : x = y := UInt8.le_antisymm (UInt8.not_lt.1 k.1) (UInt8.not_lt.1 h.1)
    subst hxy
    rw [bl_total (h.2 rfl) (k.2 rfl)]
theorem cb_cases : ∀ a b : List UInt8, (Op.bytesLess a b = true ∧ Lib.compareBytes a b = -1) ∨ (a = b ∧ Lib.compareBytes a b = 0) ∨ (Op.bytesLess b a = true ∧ Lib.compareBytes a b = 1)
  | [], [] => .inr (.inl ⟨rfl, rfl⟩)
  | [], _ :: _ => .inl ⟨rfl, rfl⟩
  | _ :: _, [] => .inr (.inr ⟨rfl, rfl⟩)
  | x :: a, y :: b => by
    by_cases h : x < y
    · exact .inl ⟨by simp [Op.bytesLess, h], by simp [Lib.compareBytes, h]⟩
    · by_cases h' : y < x
      · exact .inr (.inr ⟨by simp [Op.bytesLess, h'], by simp [Lib.compareBytes, h, h']⟩)
      · have hxy : x = y := UInt8.le_antisymm (UInt8.not_lt.1 h') (UInt8.not_lt.1 h)
        subst hxy
        rcases cb_cases a b with ⟨h1, h2⟩ | ⟨h1, h2⟩ | ⟨h1, h2⟩
        · exact .inl ⟨by simp [Op.bytesLess, h1], by simp [Lib.compareBytes, h, h2]⟩
        · exact .inr (.inl ⟨by rw [h1], by simp [Lib.compareBytes, h, h2]⟩)
        · exact .inr (.inr ⟨by simp [Op.bytesLess, h1], by simp [Lib.compareBytes, h, h2]⟩)

theorem cb_self : ∀ a : List UInt8, Lib.compareBytes a a = 0
  | [] => rfl
  | x :: a => by simp [Lib.compareBytes, UInt8.lt_irrefl, cb_self a]

/-- ahead of -/
def ltN (a b : ByteArray) : Bool := Op.bytesLess a.toList b.toList
theorem ba_inj {a b : ByteArray} (h : a.toList = b.toList) : a = b := by
  rw [Lib.toList_data, Lib.toList_data] at h
  cases a; cases b
  exact congrArg ByteArray.mk (Array.toList_inj.1 h)
theorem ltN_irrefl (a : ByteArray) : ltN a a = false := bl_irrefl _
theorem ltN_trans {a b c : ByteArray} (h : ltN a b = true) (k : ltN b c = true) : ltN a c = true := bl_trans h k
theorem ltN_total {a b : ByteArray} (h : ltN a b = false) (k : ltN b a = false) : a = b := ba_inj (bl_total h k)
theorem ltN_asymm {a b : ByteArray} (h : ltN a b = true) : ltN b a = false := by
  cases hb : ltN b a with
  | false => rfl
  | true => have := ltN_trans h hb; rw [ltN_irrefl] at this; cases this
theorem ltN_mix {a b c : ByteArray} (h : ltN b a = false) (k : ltN b c = true) : ltN a c = true := by
  cases hab : ltN a b with
  | true => exact ltN_trans hab k
  | false => rw [ltN_total hab h]; exact k
/-- what strings.Compare says -/
def cmpN (a b : ByteArray) : Int := Lib.compareBytes a.data.toList b.data.toList
theorem cmpN_lt (a b : ByteArray) : decide (cmpN a b < 0) = ltN a b := by
  unfold cmpN ltN
  rw [Lib.toList_data, Lib.toList_data]
  rcases cb_cases a.data.toList b.data.toList with ⟨h1, h2⟩ | ⟨h1, h2⟩ | ⟨h1, h2⟩
  · rw [h1, h2]; rfl
  · rw [h1, cb_self, bl_irrefl]; rfl
  · rw [h2]
    have h3 : ltN b a = true := by unfold ltN; rw [Lib.toList_data, Lib.toList_data]; exact h1
    have h4 := ltN_asymm h3
    unfold ltN at h4
    rw [Lib.toList_data, Lib.toList_data] at h4
    rw [h4]; rfl
theorem cmpN_eq (a b : ByteArray) : (cmpN a b = 0) ↔ a = b := by
  unfold cmpN
  constructor
  · intro h
    rcases cb_cases a.data.toList b.data.toList with ⟨_, h2⟩ | ⟨h1, _⟩ | ⟨_, h2⟩
    · omega
    · exact ba_inj (by rw [Lib.toList_data, Lib.toList_data]; exact h1)
    · omega
  · intro h
    subst h
    exact cb_self _
theorem cmpN_range (a b : ByteArray) : -1 ≤ cmpN a b ∧ cmpN a b ≤ 1 := by
  unfold cmpN
  rcases cb_cases a.data.toList b.data.toList with ⟨_, h2⟩ | ⟨_, h2⟩ | ⟨_, h2⟩ <;> omega

/-- may it stand in a name? -/
def okC (c : Int) : Bool := (decide (97 ≤ c) && decide (c ≤ 122)) || ((decide (48 ≤ c) && decide (c ≤ 57)) || (decide (c = 46) || decide (c = 45)))
def okName (s : ByteArray) : Bool := decide (1 ≤ s.size) && (decide (s.size ≤ 32) && (byt s).all okC)
theorem okName_size {s : ByteArray} (h : okName s = true) : 1 ≤ s.size ∧ s.size ≤ 32 := by
  simp only [okName, Bool.and_eq_true, decide_eq_true_eq] at h
  exact ⟨h.1, h.2.1⟩

/-! ### places -/
/-- rising -/
def RiseN (l : List ByteArray) : Prop := l.Pairwise fun a b => ltN a b = true
/-- how many stand ahead of s -/
def posN : List ByteArray → ByteArray → Nat
  | [], _ => 0
  | a :: l, s => if ltN a s then posN l s + 1 else 0
theorem posN_le : ∀ (l : List ByteArray) (s : ByteArray), posN l s ≤ l.length
  | [], _ => Nat.le_refl _
  | a :: l, s => by
    unfold posN
    split
    · have := posN_le l s; simp; omega
    · simp
theorem posN_ahead : ∀ {l : List ByteArray} {s : ByteArray} {j : Nat} {a : ByteArray}, j < posN l s → l[j]? = some a → ltN a s = true
  | [], _, _, _, h, _ => by simp [posN] at h
  | b :: l, s, j, a, h, hj => by
    unfold posN at h
    split at h
    · rename_i hb
      cases j with
      | zero => simp at hj; subst hj; exact hb
      | succ j => exact posN_ahead (l := l) (s := s) (j := j) (by omega) (by simpa using hj)
    · omega
theorem posN_at : ∀ {l : List ByteArray} {s a : ByteArray}, l[posN l s]? = some a → ltN a s = false
  | [], _, _, h => by simp at h
  | b :: l, s, a, h => by
    unfold posN at h
    split at h
    · exact posN_at (l := l) (by simpa using h)
    · rename_i hb
      simp at h
      subst h
      simpa using hb
theorem rise_at {l : List ByteArray} (h : RiseN l) {i j : Nat} {a b : ByteArray} (hij : i < j) (ha : l[i]? = some a) (hb : l[j]? = some b) : ltN a b = true := by
  rw [RiseN, List.pairwise_iff_getElem] at h
  obtain ⟨hi, rfl⟩ := List.getElem?_eq_some_iff.1 ha
  obtain ⟨hj, rfl⟩ := List.getElem?_eq_some_iff.1 hb
  exact h i j hi hj hij
theorem posN_behind {l : List ByteArray} (h : RiseN l) {s : ByteArray} {j : Nat} {a : ByteArray} (hj : posN l s ≤ j) (ha : l[j]? = some a) : ltN a s = false := by
  have hlt : posN l s < l.length := by
    have hi : j < l.length := (List.getElem?_eq_some_iff.1 ha).1
    omega
  have hp : l[posN l s]? = some l[posN l s] := List.getElem?_eq_getElem hlt
  have h0 := posN_at hp
  rcases Nat.lt_or_ge (posN l s) j with hc | hc
  · have h1 := rise_at h hc hp ha
    cases hs : ltN a s with
    | false => rfl
    | true => rw [ltN_trans h1 hs] at h0; cases h0
  · have : j = posN l s := by omega
    subst this
    rw [hp] at ha
    cases ha
    exact h0
theorem posN_unique {l : List ByteArray} {s : ByteArray} {i : Nat} (hi : i ≤ l.length) (ha : ∀ j a, j < i → l[j]? = some a → ltN a s = true) (hb : ∀ a, l[i]? = some a → ltN a s = false) : i = posN l s := by
  rcases Nat.lt_trichotomy i (posN l s) with h | h | h
  · have hlt : i < l.length := Nat.lt_of_lt_of_le h (posN_le l s)
    have := posN_ahead h (List.getElem?_eq_getElem hlt)
    rw [hb _ (List.getElem?_eq_getElem hlt)] at this
    cases this
  · exact h
  · have hlt : posN l s < l.length := by omega
    have := ha _ _ h (List.getElem?_eq_getElem hlt)
    rw [posN_at (List.getElem?_eq_getElem hlt)] at this
    cases this
/-- is it there? -/
def hasN (l : List ByteArray) (s : ByteArray) : Bool := decide (l[posN l s]? = some s)
theorem hasN_at {l : List ByteArray} {s : ByteArray} (h : hasN l s = true) : l[posN l s]? = some s := by simpa [hasN] using h
theorem hasN_pos {l : List ByteArray} {s : ByteArray} (h : hasN l s = true) : posN l s < l.length := (List.getElem?_eq_some_iff.1 (hasN_at h)).1
theorem hasN_of {l : List ByteArray} (h : RiseN l) {s : ByteArray} {j : Nat} (hj : l[j]? = some s) : hasN l s = true ∧ posN l s = j := by
  have e : j = posN l s := posN_unique (Nat.le_of_lt (List.getElem?_eq_some_iff.1 hj).1) (fun k a hk ha => rise_at h hk ha hj) (fun a ha => by rw [hj] at ha; cases ha; exact ltN_irrefl _)
  exact ⟨by simp only [hasN, decide_eq_true_eq]; rw [← e]; exact hj, e.symm⟩
theorem hasN_no {l : List ByteArray} (h : RiseN l) {s : ByteArray} (hn : hasN l s = false) : ∀ (j : Nat) (a : ByteArray), l[j]? = some a → a ≠ s := fun j a ha e => by
  subst e
  rw [(hasN_of h ha).1] at hn
  cases hn
theorem hasN_next {l : List ByteArray} (h : RiseN l) {s : ByteArray} (hn : hasN l s = false) {j : Nat} {a : ByteArray} (hj : posN l s ≤ j) (ha : l[j]? = some a) : ltN s a = true := by
  have h1 := posN_behind h hj ha
  cases hs : ltN s a with
  | true => rfl
  | false => exact absurd (ltN_total h1 hs) (hasN_no h hn j a ha)
theorem rise_nil : RiseN [] := List.Pairwise.nil
theorem rise_take {l : List ByteArray} (h : RiseN l) (k : Nat) : RiseN (l.take k) := h.sublist (List.take_sublist k l)
theorem rise_erase {l : List ByteArray} (h : RiseN l) (k : Nat) : RiseN (l.take k ++ l.drop (k + 1)) := by
  rw [← List.eraseIdx_eq_take_drop_succ]
  exact h.sublist (List.eraseIdx_sublist l k)
theorem rise_ins {l : List ByteArray} (h : RiseN l) {s : ByteArray} (hn : hasN l s = false) : RiseN (l.take (posN l s) ++ s :: l.drop (posN l s)) := by
  rw [RiseN, List.pairwise_append]
  refine ⟨rise_take h _, ?_, ?_⟩
  · rw [List.pairwise_cons]
    refine ⟨fun b hb => ?_, h.sublist (List.drop_sublist _ l)⟩
    obtain ⟨j, hj⟩ := List.mem_iff_getElem?.1 hb
    rw [List.getElem?_drop] at hj
    exact hasN_next h hn (by omega) hj
  · intro a ha b hb
    obtain ⟨i, hi⟩ := List.mem_iff_getElem?.1 ha
    rw [List.getElem?_take] at hi
    split at hi
    · rename_i hlt
      have has := posN_ahead hlt hi
      rcases List.mem_cons.1 hb with rfl | hb
      · exact has
      · obtain ⟨j, hj⟩ := List.mem_iff_getElem?.1 hb
        rw [List.getElem?_drop] at hj
        exact ltN_trans has (hasN_next h hn (by omega) hj)
    · cases hi

end Go.Proofs.Ytaccmjgnggepjaa
