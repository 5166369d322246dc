/-
  slices.Insert of one element into a row of files.
-/
import Derived.Test.YtejkeccoialogaaDDel
import Derived.Laws.Externs
namespace Go.Proofs.Ytejkeccoialogaa
open Go.RowKit

theorem one_part {cur : Array Value} (h1 : ∀ v ∈ cur.toList, v.oneCell' = true) {o k : Nat} : ∀ v ∈ (cur.toList.drop o).take k, v.oneCell' = true :=
  fun v hv => h1 v (List.mem_of_mem_drop (List.mem_of_mem_take hv))
theorem one_part_in {cur : Array Value} {xs : List Value} {N : Nat} (hx : cur.toList.take N = xs) (h1 : ∀ v ∈ xs, v.oneCell' = true) {o k : Nat} (h : o + k ≤ N) : ∀ v ∈ (cur.toList.drop o).take k, v.oneCell' = true := by
  intro v hv
  refine h1 v ?_
  rw [← hx]
  rw [List.mem_iff_getElem?] at hv ⊢
  obtain ⟨j, hj⟩ := hv
  refine ⟨o + j, ?_⟩
  rw [List.getElem?_take] at hj
  split at hj
  · rw [List.getElem?_drop] at hj
    rw [List.getElem?_take, if_pos (by omega)]
    exact hj
  · cases hj

/-- what stands ahead of i, the new element, what stood from i on -/
def putIn (xs us : List Value) (i : Nat) : List Value := xs.take (i * 4) ++ us ++ xs.drop (i * 4)

end Go.Proofs.Ytejkeccoialogaa
