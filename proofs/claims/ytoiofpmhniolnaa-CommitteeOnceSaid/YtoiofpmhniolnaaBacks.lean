/-
  The list that a statement makes of some numbers: from the last one on, each twice, with numbers between that are no nodes.
-/
import Derived.Test.YtoiofpmhniolnaaAsk
import Derived.Test.YtoiofpmhniolnaaMemStep
import Derived.IntWalk
namespace Go.Proofs.Ytoiofpmhniolnaa
open Go.RowKit

def backs (N : Int) (L : List Int) (n : Nat) : Nat → List Int
  | 0 => []
  | j + 1 => backs N L n j ++ [L[n - 1 - j]?.getD 0, L[n - 1 - j]?.getD 0, N + 1 + ((n - 1 - j : Nat) : Int), -((n - 1 - j : Nat) : Int)]
theorem backs_length (N : Int) (L : List Int) (n : Nat) : ∀ j, (backs N L n j).length = 4 * j
  | 0 => rfl
  | j + 1 => by rw [backs, List.length_append, backs_length N L n j]; simp; omega
theorem backs_mem {N : Int} {L : List Int} {n : Nat} (hn : L.length = n) {x : Int} (h1 : 1 ≤ x) (h2 : x ≤ N) : ∀ j, j ≤ n → (x ∈ backs N L n j ↔ x ∈ L.drop (n - j))
  | 0, _ => by simp [backs, ← hn]
  | j + 1, hj => by
    have ih := backs_mem hn h1 h2 j (by omega)
    have hlt : n - 1 - j < L.length := by omega
    have hd : L.drop (n - (j + 1)) = L[n - 1 - j]?.getD 0 :: L.drop (n - j) := by
      rw [show n - (j + 1) = n - 1 - j from by omega, List.drop_eq_getElem_cons hlt, show n - 1 - j + 1 = n - j from by omega]
      simp [hlt]
    rw [backs, List.mem_append, ih, hd, List.mem_cons]
    simp only [List.mem_cons, List.not_mem_nil, or_false]
    constructor
    · rintro (h | h | h | h | h)
      · exact .inr h
      · exact .inl h
      · exact .inl h
      · omega
      · omega
    · rintro (h | h)
      · exact .inr (.inl h)
      · exact .inl h
theorem tal_backs {N : Int} {L : List Int} {n : Nat} (hn : L.length = n) : tal N (backs N L n n) = tal N L :=
  tal_same fun x h1 h2 => by rw [backs_mem hn h1 h2 n (Nat.le_refl _), Nat.sub_self, List.drop_zero]

end Go.Proofs.Ytoiofpmhniolnaa
