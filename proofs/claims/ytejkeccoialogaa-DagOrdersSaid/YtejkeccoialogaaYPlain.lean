/-
  A graph of certificates as plain data, and what the page says of it. Of no program.
-/
import Derived.Test.YtejkeccoialogaaHead
namespace Go.Proofs.Ytejkeccoialogaa
open Go.RowKit

/-- a certificate -/
structure CrtD where
  a : Int
  r : Int
  B : List Int
  P : List Int
  d : Int
  S : List Int
deriving DecidableEq
def zeroC6 : CrtD := ⟨0, 0, [], [], 0, []⟩
def CrtD.ok (N : Int) (x : CrtD) : Bool := certB x.a x.r x.B x.P x.d x.S N
/-- ahead: an earlier round, or the same and a smaller author -/
def aheadB (r a s b : Int) : Bool := decide (r < s) || (decide (r = s) && decide (a < b))
theorem aheadB_iff {r a s b : Int} : aheadB r a s b = true ↔ r < s ∨ (r = s ∧ a < b) := by simp [aheadB]
theorem aheadB_no {r a s b : Int} : aheadB r a s b = false ↔ ¬ (r < s ∨ (r = s ∧ a < b)) := by rw [← aheadB_iff]; simp

/-! ### the first that is not so -/
def cutF (f : CrtD → Bool) : List CrtD → Nat
  | [] => 0
  | y :: l => if f y then cutF f l + 1 else 0
section
variable {f : CrtD → Bool}
theorem cutF_le : ∀ (l : List CrtD), cutF f l ≤ l.length
  | [] => Nat.le_refl _
  | y :: l => by
    have := cutF_le l
    rw [cutF]
    split <;> simp <;> omega
theorem cutF_below : ∀ {l : List CrtD} {j : Nat} {y : CrtD}, j < cutF f l → l[j]? = some y → f y = true
  | [], _, _, h, _ => by simp [cutF] at h
  | z :: l, j, y, h, hj => by
    rw [cutF] at h
    cases hz : f z with
    | true =>
      rw [if_pos hz] at h
      cases j with
      | zero => simp at hj; rw [← hj]; exact hz
      | succ j => exact cutF_below (l := l) (j := j) (by omega) (by simpa using hj)
    | false => rw [hz] at h; simp at h
theorem cutF_at : ∀ {l : List CrtD} {y : CrtD}, l[cutF f l]? = some y → f y = false
  | [], _, h => by simp at h
  | z :: l, y, h => by
    rw [cutF] at h
    cases hz : f z with
    | true =>
      rw [if_pos hz] at h
      exact cutF_at (l := l) (by simpa using h)
    | false =>
      rw [hz] at h
      simp at h
      rw [← h]; exact hz
theorem cutF_unique {l : List CrtD} {p : Nat} (hp : p ≤ l.length) (h1 : ∀ k a, k < p → l[k]? = some a → f a = true) (h2 : ∀ a, l[p]? = some a → f a = false) : p = cutF f l := by
  rcases Nat.lt_trichotomy p (cutF f l) with h | h | h
  · have hl := cutF_le (f := f) l
    obtain ⟨y, hy⟩ : ∃ y, l[p]? = some y := ⟨_, List.getElem?_eq_getElem (by omega)⟩
    have h3 := cutF_below h hy
    rw [h2 y hy] at h3
    cases h3
  · exact h
  · obtain ⟨y, hy⟩ : ∃ y, l[cutF f l]? = some y := ⟨_, List.getElem?_eq_getElem (by omega)⟩
    have h3 := cutF_at hy
    rw [h1 _ y h hy] at h3
    cases h3
end
/-- what is so of a later one is so of each earlier one -/
def MonF (f : CrtD → Bool) (l : List CrtD) : Prop := ∀ (i j : Nat) (x y : CrtD), i < j → l[i]? = some x → l[j]? = some y → f y = true → f x = true

/-! ### in order of their places -/
def AscC (l : List CrtD) : Prop := ∀ (i j : Nat) (x y : CrtD), i < j → l[i]? = some x → l[j]? = some y → aheadB x.r x.a y.r y.a = true
theorem ascC_of {l : List CrtD} (h : ∀ (i : Nat) (x y : CrtD), l[i]? = some x → l[i + 1]? = some y → aheadB x.r x.a y.r y.a = true) : AscC l := by
  have key : ∀ (k i : Nat) (x y : CrtD), l[i]? = some x → l[i + 1 + k]? = some y → aheadB x.r x.a y.r y.a = true := by
    intro k
    induction k with
    | zero => exact h
    | succ k ih =>
      intro i x y hx hy
      have hlt := (List.getElem?_eq_some_iff.1 hy).1
      obtain ⟨z, hz⟩ : ∃ z, l[i + 1 + k]? = some z := ⟨_, List.getElem?_eq_getElem (by omega)⟩
      have h1 := aheadB_iff.1 (ih i x z hx hz)
      have h2 := aheadB_iff.1 (h (i + 1 + k) z y hz hy)
      exact aheadB_iff.2 (by omega)
  intro i j x y hij hx hy
  exact key (j - i - 1) i x y hx (by rw [show i + 1 + (j - i - 1) = j by omega]; exact hy)
def isBef (R A : Int) (x : CrtD) : Bool := aheadB x.r x.a R A
def isLow (R : Int) (x : CrtD) : Bool := decide (x.r < R)
theorem mon_bef {l : List CrtD} (h : AscC l) (R A : Int) : MonF (isBef R A) l := fun i j x y hij hx hy hf => by
  have h1 := aheadB_iff.1 (h i j x y hij hx hy)
  have h2 := aheadB_iff.1 hf
  exact aheadB_iff.2 (by omega)
theorem mon_low {l : List CrtD} (h : AscC l) (R : Int) : MonF (isLow R) l := fun i j x y hij hx hy hf => by
  have h1 := aheadB_iff.1 (h i j x y hij hx hy)
  have h2 : y.r < R := by simpa [isLow] using hf
  have : x.r < R := by omega
  simpa [isLow] using this

/-! ### what is looked up -/
def inR (l : List CrtD) (R : Int) : List CrtD := l.filter fun y => decide (y.r = R)
def hasDg (l : List CrtD) (p : Int) : Bool := l.any fun y => decide (y.d = p)
/-- parents that are not there -/
def lacksC (L : Int) (l : List CrtD) (x : CrtD) : List Int := if x.r = L + 1 then [] else x.P.filter fun p => !hasDg (inR l (x.r - 1)) p
/-- the place of a digest -/
def findC (l : List CrtD) (p : Int) : Option CrtD := l.find? fun y => decide (y.d = p)
def lacksP (L : Int) (l : List CrtD) (x : CrtD) : List Int := if x.r - 1 ≤ L then [] else x.P.filter fun p => match findC l p with | none => true | some y => decide (y.r ≠ x.r - 1)

/-- the digests are all different -/
def DigN (l : List CrtD) : Prop := ∀ (i j : Nat) (x y : CrtD), i < j → l[i]? = some x → l[j]? = some y → x.d ≠ y.d
/-- one that may be at its place, but for its parents -/
structure RowOk (N L : Int) (l : List CrtD) (i : Nat) (x : CrtD) : Prop where
  ok : x.ok N = true
  low : L < x.r
  asc : ∀ y, 0 < i → l[i - 1]? = some y → aheadB y.r y.a x.r x.a = true
  dig : ∀ (k : Nat) (y : CrtD), k < i → l[k]? = some y → y.d ≠ x.d
/-- a graph that may be -/
structure MayG (N L : Int) (l : List CrtD) : Prop where
  n : mayB N = true
  l0 : 0 ≤ L
  l1 : L ≤ 1099511627776
  few : l.length ≤ 65536
  row : ∀ (i : Nat) (x : CrtD), l[i]? = some x → RowOk N L l i x
  par : ∀ x ∈ l, lacksC L l x = []
section
variable {N L : Int} {l : List CrtD}
theorem asc_rows (h : ∀ (i : Nat) (x : CrtD), l[i]? = some x → RowOk N L l i x) : AscC l := ascC_of fun i x y hx hy => (h (i + 1) y hy).asc x (by omega) (by simpa using hx)
theorem dig_rows (h : ∀ (i : Nat) (x : CrtD), l[i]? = some x → RowOk N L l i x) : DigN l := fun i j x y hij hx hy => (h j y hy).dig i x hij hx
theorem MayG.asc (h : MayG N L l) : AscC l := asc_rows h.row
theorem MayG.dig (h : MayG N L l) : DigN l := dig_rows h.row
theorem MayG.of_mem (h : MayG N L l) {x : CrtD} (hx : x ∈ l) : x.ok N = true ∧ L < x.r := by
  obtain ⟨i, hi⟩ := List.mem_iff_getElem?.1 hx
  exact ⟨(h.row i x hi).ok, (h.row i x hi).low⟩

theorem findC_some {p : Int} {y : CrtD} (h : findC l p = some y) : y ∈ l ∧ y.d = p := by
  unfold findC at h
  exact ⟨List.mem_of_find?_eq_some h, by simpa using List.find?_some h⟩
theorem findC_none {p : Int} : findC l p = none ↔ ∀ y ∈ l, y.d ≠ p := by
  unfold findC
  rw [List.find?_eq_none]
  simp
theorem dig_mem (h : DigN l) {x y : CrtD} (hx : x ∈ l) (hy : y ∈ l) (e : x.d = y.d) : x = y := by
  obtain ⟨i, hi⟩ := List.mem_iff_getElem?.1 hx
  obtain ⟨j, hj⟩ := List.mem_iff_getElem?.1 hy
  rcases Nat.lt_trichotomy i j with h1 | h1 | h1
  · exact absurd e (h i j x y h1 hi hj)
  · subst h1; rw [hi] at hj; exact Option.some.inj hj
  · exact absurd e.symm (h j i y x h1 hj hi)
theorem findC_mem (h : DigN l) {x : CrtD} (hx : x ∈ l) : findC l x.d = some x := by
  cases hf : findC l x.d with
  | none => exact absurd rfl (findC_none.1 hf x hx)
  | some y =>
    obtain ⟨h1, h2⟩ := findC_some hf
    rw [dig_mem h h1 hx h2]
theorem hasDg_iff {p : Int} : hasDg l p = true ↔ ∃ y ∈ l, y.d = p := by
  unfold hasDg
  rw [List.any_eq_true]
  simp
theorem mem_inR {R : Int} {y : CrtD} : y ∈ inR l R ↔ y ∈ l ∧ y.r = R := by simp [inR]
/-- the page's missing parents are these -/
theorem lacks_same (h : DigN l) {x : CrtD} (hx : L < x.r) : lacksP L l x = lacksC L l x := by
  unfold lacksP lacksC
  by_cases h1 : x.r - 1 ≤ L
  · rw [if_pos h1, if_pos (by omega)]
  · rw [if_neg h1, if_neg (by omega)]
    refine List.filter_congr fun p _ => ?_
    cases hf : findC l p with
    | none =>
      have h2 : hasDg (inR l (x.r - 1)) p = false := by
        rw [Bool.eq_false_iff]
        intro h3
        obtain ⟨y, hy, e⟩ := hasDg_iff.1 h3
        exact findC_none.1 hf y (mem_inR.1 hy).1 e
      rw [h2]
      rfl
    | some y =>
      obtain ⟨h2, h3⟩ := findC_some hf
      show decide (y.r ≠ x.r - 1) = _
      by_cases h4 : y.r = x.r - 1
      · have h5 : hasDg (inR l (x.r - 1)) p = true := hasDg_iff.2 ⟨y, mem_inR.2 ⟨h2, h4⟩, h3⟩
        rw [h5]
        simp [h4]
      · have h5 : hasDg (inR l (x.r - 1)) p = false := by
          rw [Bool.eq_false_iff]
          intro h6
          obtain ⟨z, hz, e⟩ := hasDg_iff.1 h6
          obtain ⟨h7, h8⟩ := mem_inR.1 hz
          have := dig_mem h h7 h2 (by rw [e, h3])
          rw [this] at h8
          exact h4 h8
        rw [h5]
        simp [h4]

/-! ### places as numbers -/
/-- the place of the first that is not so; -1: there is none -/
def idxF (f : CrtD → Bool) (l : List CrtD) : Int := if cutF f l < l.length then (cutF f l : Int) else -1
theorem idxF_at {f : CrtD → Bool} {i : Nat} {x : CrtD} (hx : l[i]? = some x) (hf : f x = false) (hb : ∀ (k : Nat) (y : CrtD), k < i → l[k]? = some y → f y = true) : idxF f l = i := by
  have hl := (List.getElem?_eq_some_iff.1 hx).1
  have h1 : i = cutF f l := cutF_unique (by omega) hb (fun a ha => by rw [hx] at ha; cases ha; exact hf)
  unfold idxF
  rw [← h1, if_pos hl]
theorem idxF_none {f : CrtD → Bool} (hb : ∀ (k : Nat) (y : CrtD), l[k]? = some y → f y = true) : idxF f l = -1 := by
  have h1 : l.length = cutF f l := cutF_unique (Nat.le_refl _) (fun k y _ hy => hb k y hy) (fun a ha => by rw [List.getElem?_eq_none (Nat.le_refl _)] at ha; cases ha)
  unfold idxF
  rw [← h1, if_neg (Nat.lt_irrefl _)]
/-- the first that is not so is what 'find' finds -/
theorem find_cut {f g : CrtD → Bool} (hfg : ∀ x, g x = !f x) : ∀ l : List CrtD, l.find? g = l[cutF f l]?
  | [] => rfl
  | y :: l => by
    rw [cutF, List.find?_cons, hfg]
    cases h : f y with
    | true => simp [find_cut hfg l]
    | false => simp
def neD (p : Int) (y : CrtD) : Bool := decide (y.d ≠ p)
def neA (R A : Int) (y : CrtD) : Bool := decide (¬ (y.r = R ∧ y.a = A))
def idxD (l : List CrtD) (p : Int) : Int := idxF (neD p) l
def idxA (l : List CrtD) (R A : Int) : Int := idxF (neA R A) l
theorem idxF_neg {f : CrtD → Bool} : idxF f l < 0 ↔ l[cutF f l]? = none := by
  unfold idxF
  rw [List.getElem?_eq_none_iff]
  split <;> omega
theorem idxF_pos {f : CrtD → Bool} {x : CrtD} (h : l[cutF f l]? = some x) : idxF f l = (cutF f l : Int) ∧ l[(idxF f l).toNat]? = some x := by
  have hl := (List.getElem?_eq_some_iff.1 h).1
  have : idxF f l = (cutF f l : Int) := by unfold idxF; rw [if_pos hl]
  exact ⟨this, by rw [this]; simpa using h⟩
theorem findC_cut (p : Int) : findC l p = l[cutF (neD p) l]? := find_cut (fun x => by simp [neD]) l
theorem atC_cut (R A : Int) : (l.find? fun y => decide (y.r = R ∧ y.a = A)) = l[cutF (neA R A) l]? := find_cut (fun x => by simp [neA]) l
theorem hasDg_idx (p : Int) : hasDg l p = decide (0 ≤ idxD l p) := by
  rw [Bool.eq_iff_iff, hasDg_iff, decide_eq_true_eq]
  cases h : findC l p with
  | none =>
    have h1 : idxD l p < 0 := by rw [idxD, idxF_neg, ← findC_cut]; exact h
    constructor
    · rintro ⟨y, hy, e⟩; exact absurd e (findC_none.1 h y hy)
    · intro h2; omega
  | some y =>
    have h1 : 0 ≤ idxD l p := by
      rw [findC_cut] at h
      have := (idxF_pos h).1
      rw [idxD, this]; omega
    exact ⟨fun _ => h1, fun _ => ⟨y, (findC_some h).1, (findC_some h).2⟩⟩

/-! ### a round -/
theorem filter_none {f : CrtD → Bool} {l : List CrtD} (h : ∀ x ∈ l, f x = false) : l.filter f = [] := by
  rw [List.filter_eq_nil_iff]
  intro x hx hf
  rw [h x hx] at hf
  cases hf
theorem filter_all {f : CrtD → Bool} {l : List CrtD} (h : ∀ x ∈ l, f x = true) : l.filter f = l := List.filter_eq_self.2 h
theorem mem_take_at {α : Type} {l : List α} {k : Nat} {x : α} (h : x ∈ l.take k) : ∃ i, i < k ∧ l[i]? = some x := by
  obtain ⟨i, hi⟩ := List.mem_iff_getElem?.1 h
  rw [List.getElem?_take] at hi
  split at hi
  · rename_i hik
    exact ⟨i, hik, hi⟩
  · cases hi
theorem mem_drop_at {α : Type} {l : List α} {k : Nat} {x : α} (h : x ∈ l.drop k) : ∃ i, k ≤ i ∧ l[i]? = some x := by
  obtain ⟨i, hi⟩ := List.mem_iff_getElem?.1 h
  rw [List.getElem?_drop] at hi
  exact ⟨k + i, by omega, hi⟩
/-- a row's part that is a round -/
theorem inR_part (h : AscC l) {R : Int} {t : Nat} (hc : cutF (isLow R) l ≤ t) (ht : t ≤ l.length) (h1 : ∀ k y, cutF (isLow R) l ≤ k → k < t → l[k]? = some y → y.r = R) (h2 : ∀ y, l[t]? = some y → y.r ≠ R) :
    (l.drop (cutF (isLow R) l)).take (t - cutF (isLow R) l) = inR l R := by
  obtain ⟨c, hcc⟩ : ∃ c, c = cutF (isLow R) l := ⟨_, rfl⟩
  rw [← hcc] at hc h1 ⊢
  have e : l = l.take c ++ ((l.drop c).take (t - c) ++ l.drop t) := by
    conv => lhs; rw [← List.take_append_drop c l]
    congr 1
    conv => lhs; rw [← List.take_append_drop (t - c) (l.drop c)]
    rw [List.drop_drop, show c + (t - c) = t by omega]
  have f1 : (l.take c).filter (fun y => decide (y.r = R)) = [] := filter_none fun x hx => by
    obtain ⟨i, hi, hx⟩ := mem_take_at hx
    have := cutF_below (f := isLow R) (by rw [← hcc]; exact hi) hx
    have : x.r < R := by simpa [isLow] using this
    simp; omega
  have f2 : ((l.drop c).take (t - c)).filter (fun y => decide (y.r = R)) = (l.drop c).take (t - c) := filter_all fun x hx => by
    obtain ⟨i, hi, hx⟩ := mem_take_at hx
    rw [List.getElem?_drop] at hx
    simpa using h1 (c + i) x (by omega) (by omega) hx
  have f3 : (l.drop t).filter (fun y => decide (y.r = R)) = [] := filter_none fun x hx => by
    obtain ⟨i, hi, hx⟩ := mem_drop_at hx
    have hl := (List.getElem?_eq_some_iff.1 hx).1
    obtain ⟨y, hy⟩ : ∃ y, l[t]? = some y := ⟨_, List.getElem?_eq_getElem (by omega)⟩
    have g1 := h2 y hy
    have g2 : R ≤ y.r := by
      obtain ⟨z, hz⟩ : ∃ z, l[c]? = some z := ⟨_, List.getElem?_eq_getElem (by omega)⟩
      have g3 := cutF_at (f := isLow R) (by rw [← hcc]; exact hz)
      have g3 : ¬ z.r < R := by simpa [isLow] using g3
      rcases Nat.lt_or_ge c t with g4 | g4
      · have := aheadB_iff.1 (h c t z y g4 hz hy)
        omega
      · have : c = t := by omega
        subst this
        rw [hz] at hy
        cases hy
        omega
    have g5 : y.r ≤ x.r := by
      rcases Nat.lt_or_ge t i with g4 | g4
      · have := aheadB_iff.1 (h t i y x g4 hy hx)
        omega
      · have : t = i := by omega
        subst this
        rw [hx] at hy
        cases hy
        omega
    simp; omega
  unfold inR
  conv => rhs; rw [e]
  rw [List.filter_append, List.filter_append, f1, f2, f3]
  simp
/-- what is above a round -/
def aboveR (l : List CrtD) (R : Int) : List CrtD := l.filter fun y => decide (R < y.r)
theorem above_part (h : AscC l) (R : Int) : l.drop (cutF (isLow (R + 1)) l) = aboveR l R := by
  obtain ⟨c, hcc⟩ : ∃ c, c = cutF (isLow (R + 1)) l := ⟨_, rfl⟩
  rw [← hcc]
  have f1 : (l.take c).filter (fun y => decide (R < y.r)) = [] := filter_none fun x hx => by
    obtain ⟨i, hi, hx⟩ := mem_take_at hx
    have := cutF_below (f := isLow (R + 1)) (by rw [← hcc]; exact hi) hx
    have : x.r < R + 1 := by simpa [isLow] using this
    simp; omega
  have f2 : (l.drop c).filter (fun y => decide (R < y.r)) = l.drop c := filter_all fun x hx => by
    obtain ⟨i, hi, hx⟩ := mem_drop_at hx
    have hl := (List.getElem?_eq_some_iff.1 hx).1
    obtain ⟨z, hz⟩ : ∃ z, l[c]? = some z := ⟨_, List.getElem?_eq_getElem (by omega)⟩
    have g3 := cutF_at (f := isLow (R + 1)) (by rw [← hcc]; exact hz)
    have g3 : ¬ z.r < R + 1 := by simpa [isLow] using g3
    rcases Nat.lt_or_ge c i with g4 | g4
    · have := aheadB_iff.1 (h c i z x g4 hz hx)
      simp; omega
    · have : c = i := by omega
      subst this
      rw [hz] at hx
      cases hx
      simp; omega
  unfold aboveR
  conv => rhs; rw [← List.take_append_drop c l, List.filter_append, f1, f2]
  rfl

/-! ### one more -/
def posC (l : List CrtD) (R A : Int) : Nat := cutF (isBef R A) l
def atC (l : List CrtD) (R A : Int) : Option CrtD := l.find? fun y => decide (y.r = R ∧ y.a = A)
def addC (l : List CrtD) (x : CrtD) : List CrtD := l.take (posC l x.r x.a) ++ x :: l.drop (posC l x.r x.a)
theorem atC_some {R A : Int} {y : CrtD} (h : atC l R A = some y) : y ∈ l ∧ y.r = R ∧ y.a = A := by
  unfold atC at h
  exact ⟨List.mem_of_find?_eq_some h, by simpa using List.find?_some h⟩
theorem atC_none {R A : Int} : atC l R A = none ↔ ∀ y ∈ l, ¬ (y.r = R ∧ y.a = A) := by
  unfold atC
  rw [List.find?_eq_none]
  simp
/-- in order, what has a place stands at it -/
theorem at_posC (h : AscC l) {R A : Int} {y : CrtD} (hy : y ∈ l) (e : y.r = R ∧ y.a = A) : l[posC l R A]? = some y := by
  obtain ⟨j, hj⟩ := List.mem_iff_getElem?.1 hy
  have hp : j = posC l R A := by
    refine cutF_unique (by have := (List.getElem?_eq_some_iff.1 hj).1; omega) (fun k a hk ha => ?_) (fun a ha => ?_)
    · have := h k j a y hk ha hj
      rw [e.1, e.2] at this
      exact this
    · rw [hj] at ha
      cases ha
      exact aheadB_no.2 (by omega)
  rw [← hp]
  exact hj
/-- does what has this place stand there? -/
def hasAt (l : List CrtD) (R A : Int) : Bool := match l[posC l R A]? with
  | none => false
  | some y => decide (y.r = R ∧ y.a = A)
theorem hasAt_some {R A : Int} {y : CrtD} (h : l[posC l R A]? = some y) : hasAt l R A = decide (y.r = R ∧ y.a = A) := by rw [hasAt, h]
theorem hasAt_none {R A : Int} (h : l[posC l R A]? = none) : hasAt l R A = false := by rw [hasAt, h]
theorem atC_pos (h : AscC l) (R A : Int) : atC l R A = (match l[posC l R A]? with | none => none | some y => if y.r = R ∧ y.a = A then some y else none) := by
  cases hf : atC l R A with
  | none =>
    cases hp : l[posC l R A]? with
    | none => rfl
    | some y =>
      have := atC_none.1 hf y (List.mem_of_getElem? hp)
      simp [this]
  | some y =>
    obtain ⟨h1, h2⟩ := atC_some hf
    rw [at_posC h h1 h2]
    simp [h2]
end

end Go.Proofs.Ytejkeccoialogaa
