/-
  The walks of the page's own answers on lists.
-/
import Derived.Test.YtkkamcdilpcehaaRef
import Derived.Test.YtkkamcdilpcehaaGets
namespace Go.Proofs.Ytkkamcdilpcehaa
open Go.RowKit

end Go.Proofs.Ytkkamcdilpcehaa
