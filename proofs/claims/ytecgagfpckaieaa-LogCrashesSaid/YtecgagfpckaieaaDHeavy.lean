/-
  Which scripts are let go; a code, as it is; and what wakes the statements.
-/
import Derived.Test.YtecgagfpckaieaaDScr
import Derived.Test.YtecgagfpckaieaaEqs
import Derived.BigQuiet
namespace Go.Proofs.Ytecgagfpckaieaa
open Go.RowKit

/-- a script that is not let go -/
def Light9 (s : Scr9) : Prop := s.nF ≤ 40 ∧ (∀ f ∈ s.fl, f.dat.length ≤ 10000) ∧ ∀ (j : Nat) (a : ActD), j < 40 → s.L[j]? = some a → a.nB ≤ 10000 ∧ a.nK ≤ 10000
def Heavy9 (s : Scr9) (w : World) (e : Ending) (w' : World) : Prop := ∃ b : Bool, e = .returned (.bool b) ∧ Below w.heap.size w w' ∧ (b = false → Light9 s)
theorem light9 {s : Scr9} {w : World} {nF nL k k2 tt tt2 : Nat} (h1 : s.nF = nF) (h2 : s.nL = nL) (hin : ScrIn w s) (hff : (nF ≤ k ∨ 40 ≤ k) ∧ ∀ (j : Nat) (f : FL), j < k → s.fl[j]? = some f → f.dat.length ≤ tt)
    (hll : tt ≤ tt2 ∧ ∀ (j : Nat) (a : ActD), j < k2 → s.L[j]? = some a → a.nB ≤ tt2 ∧ a.nK ≤ tt2) (g1 : ¬ 10000 < tt2) (g2 : ¬ 40 < nF) (hk : nL ≤ k2 ∨ 40 ≤ k2) : Light9 s := by
  refine ⟨by omega, fun f hf => ?_, fun j a hj ha => ?_⟩
  · obtain ⟨i, hi⟩ := List.mem_iff_getElem?.1 hf
    have := (List.getElem?_eq_some_iff.1 hi).1
    have h3 := hin.zF
    have := hff.2 i f (by have := hff.1; omega) hi
    have := hll.1
    omega
  · have := (List.getElem?_eq_some_iff.1 ha).1
    have h3 := hin.zL
    have := hll.2 j a (by omega) ha
    omega

end Go.Proofs.Ytecgagfpckaieaa
