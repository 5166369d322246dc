/-
  The page's comparisons of bytes and of numbers: whether two lists are the same.
-/
import Derived.Test.YtecgagfpckaieaaRows
import Derived.Test.YtecgagfpckaieaaMem
import Derived.WalkSpells
import Derived.WalkLawsBesides
import Derived.Deep.QuietTactic
import Derived.BigQuiet
import Derived.LoopTactic
namespace Go.Proofs.Ytecgagfpckaieaa
open Go.RowKit

theorem take_nxt {α : Type} {l : List α} {k : Nat} {x : α} (h : l[k]? = some x) : l.take (k + 1) = l.take k ++ [x] := by
  rw [List.take_add_one, h]; rfl

end Go.Proofs.Ytecgagfpckaieaa
