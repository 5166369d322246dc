/-
  What a certificate of a graph reaches, as plain data. Of no program.
-/
import Derived.Test.YtfldfillcmamcaaYPar
namespace Go.Proofs.Ytfldfillcmamcaa
open Go.RowKit

/-- reaching: itself, and the parents of what is reached above the lowest round -/
inductive Rch (L : Int) (l : List CrtD) (x : CrtD) : CrtD → Prop
  | refl : Rch L l x x
  | step {c b : CrtD} : Rch L l x c → L + 1 < c.r → b ∈ l → b.d ∈ c.P → Rch L l x b
section
variable {N L : Int} {l : List CrtD} {x y z : CrtD}
theorem Rch.trans (h1 : Rch L l x y) (h2 : Rch L l y z) : Rch L l x z := by
  induction h2 with
  | refl => exact h1
  | step _ hr hm hp ih => exact .step ih hr hm hp
theorem Rch.mem (h : Rch L l x y) (hx : x ∈ l) : y ∈ l := by
  cases h with
  | refl => exact hx
  | step _ _ hm _ => exact hm
/-- a parent that is there is of the round ahead -/
theorem parent_round (h : MayG N L l) {c b : CrtD} (hc : c ∈ l) (hr : L + 1 < c.r) (hb : b ∈ l) (hp : b.d ∈ c.P) : b.r = c.r - 1 := by
  obtain ⟨y, hy, e, -⟩ := parent_in h hc (by omega) hp
  obtain ⟨h1, h2⟩ := mem_inR.1 hy
  rw [← dig_mem h.dig h1 hb e]
  exact h2
theorem Rch.lower (h : MayG N L l) (hx : x ∈ l) (hr : Rch L l x y) : y = x ∨ y.r < x.r := by
  induction hr with
  | refl => exact .inl rfl
  | step hc hl hm hp ih =>
    have := parent_round h (hc.mem hx) hl hm hp
    rcases ih with rfl | ih
    · exact .inr (by omega)
    · exact .inr (by omega)
theorem asc_at (h : MayG N L l) {i j : Nat} (hi : l[i]? = some x) (hj : l[j]? = some y) (hr : y.r < x.r) : j < i := by
  rcases Nat.lt_trichotomy i j with h1 | h1 | h1
  · have := aheadB_iff.1 (h.asc i j x y h1 hi hj)
    omega
  · subst h1
    rw [hi] at hj
    cases hj
    omega
  · exact h1
theorem dig_at (h : MayG N L l) {i j : Nat} (hi : l[i]? = some x) (hj : l[j]? = some y) (e : x.d = y.d) : i = j := by
  rcases Nat.lt_trichotomy i j with h1 | h1 | h1
  · exact absurd e (h.dig i j x y h1 hi hj)
  · exact h1
  · exact absurd e.symm (h.dig j i y x h1 hj hi)
theorem Rch.at (h : MayG N L l) {i j : Nat} (hi : l[i]? = some x) (hj : l[j]? = some y) (hr : Rch L l x y) : j ≤ i := by
  rcases hr.lower h (List.mem_of_getElem? hi) with e | e
  · subst e
    exact Nat.le_of_eq (dig_at h hj hi rfl)
  · exact Nat.le_of_lt (asc_at h hi hj e)

/-- named: asked for at first, or a parent of what is reached at k or behind -/
def NmD (L : Int) (l : List CrtD) (x : CrtD) (k : Nat) (p : Int) : Prop := p = x.d ∨ ∃ (j : Nat) (c : CrtD), k ≤ j ∧ l[j]? = some c ∧ Rch L l x c ∧ L + 1 < c.r ∧ p ∈ c.P
theorem nm_start (h : MayG N L l) {i : Nat} (hi : l[i]? = some x) {k : Nat} (hk : i < k) (p : Int) : NmD L l x k p ↔ p = x.d := by
  constructor
  · rintro (h1 | ⟨j, c, h1, h2, h3, -, -⟩)
    · exact h1
    · have := h3.at h hi h2
      omega
  · exact .inl
theorem nm_is (h : MayG N L l) (hx : x ∈ l) {k : Nat} (hk : l[k]? = some y) : NmD L l x (k + 1) y.d ↔ Rch L l x y := by
  have hy := List.mem_of_getElem? hk
  constructor
  · rintro (h1 | ⟨j, c, h1, h2, h3, h4, h5⟩)
    · rw [dig_mem h.dig hy hx h1]
      exact .refl
    · exact .step h3 h4 hy h5
  · intro hr
    cases hr with
    | refl => exact .inl rfl
    | step hc hl hm hp =>
      rename_i c
      obtain ⟨j, hj⟩ := List.mem_iff_getElem?.1 (hc.mem hx)
      have h1 := parent_round h (hc.mem hx) hl hm hp
      have h2 := asc_at h hj hk (by omega)
      exact .inr ⟨j, c, h2, hj, hc, hl, hp⟩
theorem nm_step {k : Nat} (hk : l[k]? = some y) (p : Int) : NmD L l x k p ↔ NmD L l x (k + 1) p ∨ (Rch L l x y ∧ L + 1 < y.r ∧ p ∈ y.P) := by
  constructor
  · rintro (h1 | ⟨j, c, h1, h2, h3⟩)
    · exact .inl (.inl h1)
    · rcases Nat.lt_or_ge k j with h4 | h4
      · exact .inl (.inr ⟨j, c, h4, h2, h3⟩)
      · obtain rfl : j = k := by omega
        rw [hk] at h2
        cases h2
        exact .inr h3
  · rintro ((h1 | ⟨j, c, h1, h2, h3⟩) | h1)
    · exact .inl h1
    · exact .inr ⟨j, c, by omega, h2, h3⟩
    · exact .inr ⟨k, y, Nat.le_refl _, hk, h1⟩
/-- all that is named, at last: what is reached -/
theorem nm_end (h : MayG N L l) {i : Nat} (hi : l[i]? = some x) {j : Nat} (hj : l[j]? = some y) {k : Nat} (hk : k ≤ j + 1) : NmD L l x k y.d ↔ Rch L l x y := by
  rw [← nm_is h (List.mem_of_getElem? hi) hj]
  constructor
  · rintro (h1 | ⟨m, c, h1, h2, h3, h4, h5⟩)
    · exact .inl h1
    · have h6 := parent_round h (List.mem_of_getElem? h2) h4 (List.mem_of_getElem? hj) h5
      have := asc_at h h2 hj (by omega)
      exact .inr ⟨m, c, by omega, h2, h3, h4, h5⟩
  · rintro (h1 | ⟨m, c, h1, h2, h3⟩)
    · exact .inl h1
    · exact .inr ⟨m, c, by omega, h2, h3⟩

/-! ### what is below -/
open Classical in
noncomputable def rchB (L : Int) (l : List CrtD) (x y : CrtD) : Bool := decide (Rch L l x y)
theorem rchB_iff : rchB L l x y = true ↔ Rch L l x y := by simp [rchB]
theorem rchB_no : rchB L l x y = false ↔ ¬ Rch L l x y := by simp [rchB]
noncomputable def belF (L : Int) (l : List CrtD) (x : CrtD) (low : Int) (y : CrtD) : Bool := rchB L l x y && decide (low < y.r)
noncomputable def belC (L : Int) (l : List CrtD) (x : CrtD) (low : Int) : List Int := (l.filter (belF L l x low)).map CrtD.d
/-- those at k or behind, from the last one on -/
noncomputable def dnC (f : CrtD → Bool) (l : List CrtD) (k : Nat) : List Int := (((l.drop k).filter f).map CrtD.d).reverse
theorem dnC_step {f : CrtD → Bool} {k : Nat} (hk : l[k]? = some y) : dnC f l k = dnC f l (k + 1) ++ (if f y then [y.d] else []) := by
  obtain ⟨hl, he⟩ := List.getElem?_eq_some_iff.1 hk
  unfold dnC
  rw [List.drop_eq_getElem_cons hl, he, List.filter_cons]
  split <;> simp
theorem dnC_start (h : MayG N L l) {i : Nat} (hi : l[i]? = some x) (low : Int) : dnC (belF L l x low) l (i + 1) = [] := by
  unfold dnC
  rw [filter_none]
  · rfl
  · intro z hz
    obtain ⟨j, hj, hz⟩ := mem_drop_at hz
    unfold belF
    have h1 : rchB L l x z = false := rchB_no.2 fun hr => by have := hr.at h hi hz; omega
    rw [h1]; rfl
theorem dnC_end {low : Int} {k : Nat} (hk : ∀ j y, j < k → l[j]? = some y → y.r ≤ low) : (dnC (belF L l x low) l k).reverse = belC L l x low := by
  have hf : ∀ z ∈ l.take k, belF L l x low z = false := fun z hz => by
    obtain ⟨j, hj, hz⟩ := mem_take_at hz
    have := hk j z hj hz
    unfold belF
    have h1 : decide (low < z.r) = false := by simp; omega
    rw [h1, Bool.and_false]
  unfold dnC belC
  rw [List.reverse_reverse]
  congr 1
  generalize belF L l x low = f at hf ⊢
  conv => rhs; rw [← List.take_append_drop k l, List.filter_append, filter_none hf]
  rfl
theorem bel_low (h : MayG N L l) {low : Int} (hl : low ≤ L) : belC L l x low = belC L l x L := by
  unfold belC
  congr 1
  refine List.filter_congr fun y hy => ?_
  have := (h.of_mem hy).2
  unfold belF
  have h1 : decide (low < y.r) = true := by simp; omega
  have h2 : decide (L < y.r) = true := by simp; omega
  rw [h1, h2]
theorem bel_max (h : MayG N L l) (low : Int) : belC L l x (if low < L then L else low) = belC L l x low := by
  split
  · rename_i h1
    exact (bel_low h (Int.le_of_lt h1)).symm
  · rfl
theorem mem_bel {low p : Int} : p ∈ belC L l x low ↔ ∃ y ∈ l, y.d = p ∧ Rch L l x y ∧ low < y.r := by
  unfold belC belF
  simp only [List.mem_map, List.mem_filter, Bool.and_eq_true, rchB_iff, decide_eq_true_eq]
  constructor
  · rintro ⟨y, ⟨h1, h2, h3⟩, h4⟩; exact ⟨y, h1, h4, h2, h3⟩
  · rintro ⟨y, h1, h4, h2, h3⟩; exact ⟨y, ⟨h1, h2, h3⟩, h4⟩
/-- whether it is reached: whether it is below, above the round ahead of its own -/
theorem mem_bel_dig (h : MayG N L l) (hy : y ∈ l) : y.d ∈ belC L l x (y.r - 1) ↔ Rch L l x y := by
  rw [mem_bel]
  constructor
  · rintro ⟨z, h1, h2, h3, -⟩
    rwa [← dig_mem h.dig h1 hy h2]
  · intro h1
    exact ⟨y, hy, rfl, h1, by omega⟩
end

end Go.Proofs.Ytfldfillcmamcaa
