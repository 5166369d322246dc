/-
  Counting, of no program: how many unlike nodes are among some numbers.
-/
import Derived.Test.YtejkeccoialogaaMem
namespace Go.Proofs.Ytejkeccoialogaa
open Go.RowKit

/-- how many of the numbers below m a test takes -/
def cnt (p : Nat → Bool) : Nat → Nat
  | 0 => 0
  | m + 1 => cnt p m + (if p m then 1 else 0)

theorem cnt_same {p q : Nat → Bool} : ∀ {m : Nat}, (∀ j, j < m → p j = q j) → cnt p m = cnt q m
  | 0, _ => rfl
  | m + 1, h => by
    rw [cnt, cnt, cnt_same (m := m) fun j hj => h j (by omega), h m (by omega)]
theorem cnt_le (p : Nat → Bool) : ∀ m : Nat, cnt p m ≤ m
  | 0 => Nat.le_refl _
  | m + 1 => by
    have := cnt_le p m
    rw [cnt]
    split <;> omega
theorem cnt_more {p q : Nat → Bool} {x : Nat} (hp : p x = false) (hq : q x = true) (h : ∀ j, j ≠ x → q j = p j) : ∀ {m : Nat}, x < m → cnt q m = cnt p m + 1
  | 0, hx => absurd hx (by omega)
  | m + 1, hx => by
    rw [cnt, cnt]
    rcases Nat.lt_or_ge x m with h' | h'
    · rw [cnt_more hp hq h h', h m (by omega)]; omega
    · obtain rfl : x = m := by omega
      rw [cnt_same (p := q) (q := p) (m := x) fun j hj => h j (by omega), hp, hq]
      simp
/-- numbers beyond n are not taken -/
theorem cnt_cut {p : Nat → Bool} {n : Nat} (h : ∀ j, n ≤ j → p j = false) : ∀ {m : Nat}, n ≤ m → cnt p m = cnt p n
  | 0, hm => by obtain rfl : n = 0 := by omega
                rfl
  | m + 1, hm => by
    rcases Nat.lt_or_ge n (m + 1) with h' | h'
    · rw [cnt, h m (by omega), cnt_cut h (m := m) (by omega)]; simp
    · obtain rfl : n = m + 1 := by omega
      rfl

/-- a node, and among these? -/
def seen (n : Int) (L : List Int) (j : Nat) : Bool := decide (1 ≤ (j : Int) ∧ (j : Int) ≤ n ∧ (j : Int) ∈ L)
/-- how many unlike nodes -/
def tal (n : Int) (L : List Int) : Nat := cnt (seen n L) 17

theorem seen_nil (n : Int) (j : Nat) : seen n [] j = false := by simp [seen]
theorem tal_nil (n : Int) : tal n [] = 0 := by
  show cnt (seen n []) 17 = 0
  rw [cnt_same (q := fun _ => false) fun j _ => seen_nil n j]
  rfl
theorem seen_out {n : Int} {L : List Int} {x : Int} (hx : x < 1 ∨ n < x) (j : Nat) : seen n (L ++ [x]) j = seen n L j := by
  simp only [seen, List.mem_append, List.mem_singleton]
  rw [decide_eq_decide]
  constructor
  · rintro ⟨h1, h2, h3 | h3⟩
    · exact ⟨h1, h2, h3⟩
    · omega
  · rintro ⟨h1, h2, h3⟩
    exact ⟨h1, h2, .inl h3⟩
theorem seen_other {n : Int} {L : List Int} {x : Nat} (j : Nat) (hj : j ≠ x) : seen n (L ++ [(x : Int)]) j = seen n L j := by
  simp only [seen, List.mem_append, List.mem_singleton]
  rw [decide_eq_decide]
  constructor
  · rintro ⟨h1, h2, h3 | h3⟩
    · exact ⟨h1, h2, h3⟩
    · omega
  · rintro ⟨h1, h2, h3⟩
    exact ⟨h1, h2, .inl h3⟩
theorem seen_self {n : Int} {L : List Int} {x : Nat} (h1 : 1 ≤ x) (h2 : (x : Int) ≤ n) : seen n (L ++ [(x : Int)]) x = true := by
  simp [seen]; omega
theorem seen_again {n : Int} {L : List Int} {x : Nat} (h : seen n L x = true) (j : Nat) : seen n (L ++ [(x : Int)]) j = seen n L j := by
  rcases Nat.decEq j x with hj | rfl
  · exact seen_other j hj
  · rw [h]
    simp only [seen, decide_eq_true_eq, List.mem_append] at h ⊢
    exact ⟨h.1, h.2.1, .inl h.2.2⟩
theorem tal_out {n : Int} {L : List Int} {x : Int} (hx : x < 1 ∨ n < x) : tal n (L ++ [x]) = tal n L := cnt_same fun j _ => seen_out hx j
theorem tal_again {n : Int} {L : List Int} {x : Nat} (h : seen n L x = true) : tal n (L ++ [(x : Int)]) = tal n L := cnt_same fun j _ => seen_again h j
theorem tal_new {n : Int} {L : List Int} {x : Nat} (h : seen n L x = false) (h1 : 1 ≤ x) (h2 : (x : Int) ≤ n) (h3 : x < 17) : tal n (L ++ [(x : Int)]) = tal n L + 1 :=
  cnt_more h (seen_self h1 h2) (fun j hj => seen_other j hj) h3
theorem tal_le (n : Int) (L : List Int) : tal n L ≤ 17 := cnt_le _ _
/-- a list with the same nodes -/
theorem tal_same {n : Int} {L M : List Int} (h : ∀ x, 1 ≤ x → x ≤ n → (x ∈ L ↔ x ∈ M)) : tal n L = tal n M := by
  refine cnt_same fun j _ => ?_
  simp only [seen]
  rw [decide_eq_decide]
  constructor
  · rintro ⟨h1, h2, h3⟩
    exact ⟨h1, h2, (h _ h1 h2).1 h3⟩
  · rintro ⟨h1, h2, h3⟩
    exact ⟨h1, h2, (h _ h1 h2).2 h3⟩

theorem take_one {α : Type} {l : List α} {k : Nat} {x : α} (h : l[k]? = some x) : l.take (k + 1) = l.take k ++ [x] := by
  rw [List.take_add_one, h]; rfl
theorem at_some {l : List Int} {k : Nat} (h : k < l.length) : l[k]? = some (l[k]?.getD 0) := by simp [h]

/-- the first cells of a list of flags -/
structure Flags (w : World) (B : Nat) (s : Nat → Bool) : Prop where
  lt : B < w.heap.size
  cell : ∀ j, j < 17 → w.cell? ⟨B, j, none⟩ = some (.bool (s j))
  free : ∀ j, w.frozen? ⟨B, j, none⟩ = false

theorem Flags.conv {w : World} {B : Nat} {s t : Nat → Bool} (h : Flags w B s) (e : ∀ j, t j = s j) : Flags w B t := by
  obtain rfl : t = s := funext e
  exact h

end Go.Proofs.Ytejkeccoialogaa
