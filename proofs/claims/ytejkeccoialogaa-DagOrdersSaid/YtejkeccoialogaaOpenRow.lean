/-
  A slice of structs that came in, laid open: each element by what opens one.
-/
import Derived.Test.YtejkeccoialogaaOpen
namespace Go.Proofs.Ytejkeccoialogaa
open Go.RowKit Go.ChangeShapes Go.WideShapes Go.Deep

/-- a list is made of what stands at each index -/
theorem list_uptoG {α : Type} {P : Nat → α → Prop} : ∀ {n : Nat}, (∀ i, i < n → ∃ a, P i a) → ∃ L : List α, L.length = n ∧ ∀ i x, L[i]? = some x → P i x
  | 0, _ => ⟨[], rfl, fun i x hx => by simp at hx⟩
  | n + 1, h => by
    obtain ⟨L, hl, hL⟩ := list_uptoG (n := n) fun i hi => h i (by omega)
    obtain ⟨x, hx⟩ := h n (by omega)
    refine ⟨L ++ [x], by simp [hl], fun i y hy => ?_⟩
    rcases Nat.lt_or_ge i n with hi | hi
    · exact hL i y (by rwa [List.getElem?_append_left (by omega)] at hy)
    · rw [List.getElem?_append_right (by omega), hl] at hy
      have h0 : i - n = 0 := by
        rcases Nat.eq_zero_or_pos (i - n) with h0 | h0
        · exact h0
        · rw [List.getElem?_eq_none (by simp; omega)] at hy; cases hy
      rw [h0] at hy
      simp at hy
      have : i = n := by omega
      subst this hy
      exact hx
section
variable {α : Type} (cells : α → List Value)
theorem flat_len {sz : Nat} (hs : ∀ x, (cells x).length = sz) (M : List α) : (M.flatMap cells).length = M.length * sz := by
  induction M with
  | nil => simp
  | cons x l ih => rw [List.flatMap_cons, List.length_append, ih, hs, List.length_cons, Nat.succ_mul]; omega
theorem flat_at {sz : Nat} (hs : ∀ x, (cells x).length = sz) : ∀ {M : List α} {i : Nat} {x : α}, M[i]? = some x → ∀ {j : Nat} {v : Value}, (cells x)[j]? = some v → (M.flatMap cells)[i * sz + j]? = some v
  | [], _, _, h, _, _, _ => by simp at h
  | y :: l, 0, x, h, j, v, hv => by
    simp at h
    subst h
    rw [List.flatMap_cons, Nat.zero_mul, Nat.zero_add, List.getElem?_append_left (List.getElem?_eq_some_iff.1 hv).1]
    exact hv
  | y :: l, i + 1, x, h, j, v, hv => by
    have ih := flat_at hs (M := l) (i := i) (by simpa using h) hv
    rw [List.flatMap_cons, List.getElem?_append_right (by rw [hs, Nat.succ_mul]; omega), hs, show (i + 1) * sz + j - sz = i * sz + j by rw [Nat.succ_mul]; omega]
    exact ih
end

theorem open_rowG {α : Type} (cells : α → List Value) (Ok : α → Prop) {sz : Nat} (hs : ∀ x, (cells x).length = sz) (hpos : 0 < sz) {H : Type} {enc : TypeId × Value → H} {P : Program} {w : World} {base : Nat} {spare : Nat → Bool} {held : Bool} {t e : TypeId} {fuel : Nat} {v : Value} {x : DataW H × List MemPlace}
    (ht : P.underlying t = some (.slice e)) (hc : P.cellsOf e = sz)
    (elem : ∀ (fuel : Nat) (cs : List Value) (y : DataW H × List MemPlace), DataW.trod enc P w base spare held fuel e cs = some y → cs.length = sz → (∀ n ∈ y.1.weights P e, n ≤ reachBytes) → ∃ a, cs = cells a ∧ Ok a)
    (h : DataW.trod enc P w base spare held fuel t [v] = some x) (hw : ∀ n ∈ x.1.weights P t, n ≤ reachBytes) :
    ∃ (A : Option Addr) (c : Nat) (M : List α), v = .slice A M.length c ∧ M.length ≤ c ∧ c ≤ maxLen ∧ Rd w A (M.flatMap cells) ∧ ∀ y ∈ M, Ok y := by
  rcases open_slice ht h with ⟨h0, _⟩ | ⟨ad, len, cap, m, n, D, Pl, h0, _, hl, hm, hmm, hz, hi⟩
  · simp only [List.cons.injEq, and_true] at h0
    subst h0
    exact ⟨none, 0, [], rfl, by simp, by simp [maxLen], Rd.nil _ _, fun y hy => by simp at hy⟩
  · simp only [List.cons.injEq, and_true] at h0
    subst h0
    have hlm : len ≤ m := by rw [hmm]; split <;> omega
    obtain ⟨M, hML, hM⟩ := list_uptoG (α := α) (P := fun i y => (∀ (j : Nat) (u : Value), (cells y)[j]? = some u → w.cell? (ad.add (i * sz + j)) = some u) ∧ Ok y) (n := len) fun i hil => by
      obtain ⟨cs, hcs, htr⟩ := hi i (by omega)
      rw [hc] at hcs
      obtain ⟨_, hcl, hat⟩ := World.cells?_some hcs
      have hwi : ∀ k ∈ (D i).weights P e, k ≤ reachBytes := fun k hk => hw k (by
        rw [hz]
        exact weights_slice ht (List.mem_map.2 ⟨i, List.mem_range.2 hil, rfl⟩) hk)
      obtain ⟨a, rfl, hok⟩ := elem _ cs _ htr hcl hwi
      exact ⟨a, fun j u hu => by
        have hj : j < sz := by rw [← hs a]; exact (List.getElem?_eq_some_iff.1 hu).1
        have := hat j hj
        rw [Addr.add_add] at this
        rw [this]
        exact hu, hok⟩
    refine ⟨some ad, cap, M, by rw [hML], by omega, hm, rd_of fun i u hu => ?_, fun y hy => ?_⟩
    · have hil : i < M.length * sz := by
        rcases Nat.lt_or_ge i (M.flatMap cells).length with h' | h'
        · rwa [flat_len cells hs] at h'
        · rw [List.getElem?_eq_none h'] at hu; cases hu
      have hq : i / sz < M.length := (Nat.div_lt_iff_lt_mul hpos).2 hil
      have hr : i % sz < sz := Nat.mod_lt _ hpos
      have hdm : i / sz * sz + i % sz = i := by rw [Nat.mul_comm]; exact Nat.div_add_mod i sz
      obtain ⟨y, hy⟩ : ∃ y, M[i / sz]? = some y := ⟨M[i / sz]'hq, by simp [hq]⟩
      obtain ⟨u2, hu2⟩ : ∃ u2, (cells y)[i % sz]? = some u2 := ⟨(cells y)[i % sz]'(by rw [hs]; exact hr), by simp [show i % sz < (cells y).length by rw [hs]; exact hr]⟩
      have e2 := flat_at cells hs hy hu2
      rw [hdm, hu] at e2
      cases e2
      have := (hM _ _ hy).1 _ _ hu2
      rwa [hdm] at this
    · obtain ⟨i, hi2⟩ := List.getElem?_of_mem hy
      exact (hM i y hi2).2

end Go.Proofs.Ytejkeccoialogaa
