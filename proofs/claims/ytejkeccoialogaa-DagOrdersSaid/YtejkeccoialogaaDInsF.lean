/-
  slices.Insert of one element into a row of files that has no room; at its end; any.
-/
import Derived.Test.YtejkeccoialogaaDIns
namespace Go.Proofs.Ytejkeccoialogaa
open Go.RowKit

theorem zero_one {z : Value} (h1 : ∀ v ∈ z.cells.toList, v.oneCell' = true) (n : Nat) : ∀ v ∈ (Builtin.zeroCells z.cells n).toList, v.oneCell' = true := fun v hv => by
  simp only [Builtin.zeroCells, Array.toList_map, List.mem_map, Array.mem_toList_iff, Array.mem_range] at hv
  obtain ⟨x, hx0, rfl⟩ := hv
  have hx : x % z.cells.size < z.cells.size := Nat.mod_lt _ (by
    rcases Nat.eq_zero_or_pos z.cells.size with h | h
    · rw [h] at hx0; omega
    · exact h)
  rw [getElem!_pos z.cells _ hx]
  exact h1 _ (by simp)

end Go.Proofs.Ytejkeccoialogaa
