/-
  The page's comparison of files.
-/
import Derived.Test.YtecgagfpckaieaaDWakes
import Derived.BigRegion
namespace Go.Proofs.Ytecgagfpckaieaa
open Go.RowKit

theorem one_file {l : List FL} {nm : ByteArray} {dat : List Int} (h : l.map FL.pl = [(nm, dat)]) : ∃ f, l = [f] ∧ f.nm = nm ∧ f.dat = dat := by
  match l, h with
  | [f], h =>
    simp [FL.pl] at h
    exact ⟨f, rfl, h.1, h.2⟩
theorem take_nx {α : Type} {l : List α} {k : Nat} {x : α} (h : l[k]? = some x) : l.take (k + 1) = l.take k ++ [x] := by
  rw [List.take_add_one, h]; rfl
end Go.Proofs.Ytecgagfpckaieaa
