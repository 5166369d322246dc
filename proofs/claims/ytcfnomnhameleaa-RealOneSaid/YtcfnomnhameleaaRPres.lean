/-
  What put hands back, out of the result's block.
-/
import Derived.Test.YtcfnomnhameleaaZE
namespace Go.Proofs.Ytcfnomnhameleaa
open Go.RowKit

/-- a message and a flag, out of the result's block -/
theorem pres (tmps : Array Value) (w : World) (g : Nat) (m : MsgD) (a : MsgA) (b : Bool) (h6 : tmps.getD 6 undef = .pointer (some ⟨g, 0, none⟩)) (h7 : tmps.getD 7 undef = .bool b) (bx : Box w g (msgC m a)) :
    (results Try.f18 tmps).run Try.prog w = .ok (.tuple #[msgV m a, .bool b]) w := by
  have rc0 := (bx.2 0 _ rfl).1
  have rc1 := (bx.2 1 _ rfl).1
  have rc2 := (bx.2 2 _ rfl).1
  have rc3 := (bx.2 3 _ rfl).1
  have rc4 := (bx.2 4 _ rfl).1
  have rc5 := (bx.2 5 _ rfl).1
  have rc6 := (bx.2 6 _ rfl).1
  have rc7 := (bx.2 7 _ rfl).1
  have rc8 := (bx.2 8 _ rfl).1
  have rc9 := (bx.2 9 _ rfl).1
  have rc10 := (bx.2 10 _ rfl).1
  have rc11 := (bx.2 11 _ rfl).1
  have rc12 := (bx.2 12 _ rfl).1
  have rc13 := (bx.2 13 _ rfl).1
  have rc14 := (bx.2 14 _ rfl).1
  have rc15 := (bx.2 15 _ rfl).1
  have rc16 := (bx.2 16 _ rfl).1
  have rc17 := (bx.2 17 _ rfl).1
  rw [Array.getD_eq_getD_getElem?] at h6 h7
  unfold msgV
  simp [results, Try.results18, go_sem, h6, h7, rc0, rc1, rc2, rc3, rc4, rc5, rc6, rc7, rc8, rc9, rc10, rc11, rc12, rc13, rc14, rc15, rc16, rc17]

end Go.Proofs.Ytcfnomnhameleaa
