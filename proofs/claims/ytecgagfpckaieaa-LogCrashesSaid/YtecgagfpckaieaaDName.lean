/-
  The page's own question whether a text is a file's name.
-/
import Derived.Test.YtecgagfpckaieaaDWakes
namespace Go.Proofs.Ytecgagfpckaieaa
open Go.RowKit

end Go.Proofs.Ytecgagfpckaieaa
