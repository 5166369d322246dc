/-
  No cell of these rows narrows 'for every input' (looked for: loops, veiled, ifaces, maps, wideKeys, modest, calm, conditions, laid).
  DERIVED. THE GIVEN ROWS OF THIS SEAT. 6 by the template 'for every input the law returns true; each argument reads behind the call as it read before'; 0 by the template 'total and deterministic' (their statements: YtoiofpmhniolnaaTotals.lean).
  GIVEN WITH THE SEED: the statements are not yours to turn. If you find one false, say at which input.
  Laid BY PROGRAM, IN A SANDBOX (cutbox-rows.mjs): the forced cells as the released guide's own fill.sh prints them over the translation dd629e109e6b9da3… (all of the seat's roots in one cut). By AI agents, Wed Nov 11 2026. No macro, syntax, notation, axiom, sorry.
-/
import Derived.Test.YtoiofpmhniolnaaChecked
import GoSem.Claim
import GoSem.ClaimJoined
import GoSem.ClaimMapViews
import Derived.JoinedTies
import Derived.KernelRfl
namespace Go.Proofs.Ytoiofpmhniolnaa
/- THE CELL 'sum', in the pinned program and in every row, IS THE sha256 OF THE DUMP (.gsa) THAT YtoiofpmhniolnaaProg.lean LOADS. Nothing in Lean hashes anything: it is a label: what it is worth is what the hold of that sum in a sandbox is worth. -/
noncomputable def Try.pinned : Pinned := { name := "ytoiofpmhniolnaa", sum := "dd629e109e6b9da3ab075cdfca3ab59a063194755a8232d13a7bff161da4a36c", checked := Try.checked }
namespace Rows
def none {H : Type} : Left H := { results := [], args := [] }

/-- 'droverlaw3.CommitteeSizes': WHATEVER THE INPUT: true; the input reads as it did. -/
def committeeSizesSpec : ChangeSpec := { name := "committeeSizes", fn := fun _ => fun
  | [d] => { results := [.lit (.bool true)], args := [d] }
  | _ => none }
def committeeSizesRow : OpenClaim := { program := "ytoiofpmhniolnaa", sum := "dd629e109e6b9da3ab075cdfca3ab59a063194755a8232d13a7bff161da4a36c", func := "drover/droverlaw3.CommitteeSizes", spec := "committeeSizes", apart := false }
def CommitteeSizesSaid : Prop := committeeSizesRow.holds Try.pinned (OpenSpec.ofChange committeeSizesSpec)

/-- ITS FALSE NEIGHBOUR: 'it returns false'. Refute it at one input. -/
def committeeSizesWrong : ChangeSpec := { name := "committeeSizes", fn := fun _ => fun
  | [d] => { results := [.lit (.bool false)], args := [d] }
  | _ => none }
def CommitteeSizesWrongFalsely : Prop := committeeSizesRow.holds Try.pinned (OpenSpec.ofChange committeeSizesWrong)

/-- 'droverlaw3.CommitteeEnough': WHATEVER THE INPUT: true; the input reads as it did. -/
def committeeEnoughSpec : ChangeSpec := { name := "committeeEnough", fn := fun _ => fun
  | [d] => { results := [.lit (.bool true)], args := [d] }
  | _ => none }
def committeeEnoughRow : OpenClaim := { program := "ytoiofpmhniolnaa", sum := "dd629e109e6b9da3ab075cdfca3ab59a063194755a8232d13a7bff161da4a36c", func := "drover/droverlaw3.CommitteeEnough", spec := "committeeEnough", apart := false }
def CommitteeEnoughSaid : Prop := committeeEnoughRow.holds Try.pinned (OpenSpec.ofChange committeeEnoughSpec)

/-- ITS FALSE NEIGHBOUR: 'it returns false'. Refute it at one input. -/
def committeeEnoughWrong : ChangeSpec := { name := "committeeEnough", fn := fun _ => fun
  | [d] => { results := [.lit (.bool false)], args := [d] }
  | _ => none }
def CommitteeEnoughWrongFalsely : Prop := committeeEnoughRow.holds Try.pinned (OpenSpec.ofChange committeeEnoughWrong)

/-- 'droverlaw3.CommitteeLeads': WHATEVER THE INPUT: true; the input reads as it did. -/
def committeeLeadsSpec : ChangeSpec := { name := "committeeLeads", fn := fun _ => fun
  | [d] => { results := [.lit (.bool true)], args := [d] }
  | _ => none }
def committeeLeadsRow : OpenClaim := { program := "ytoiofpmhniolnaa", sum := "dd629e109e6b9da3ab075cdfca3ab59a063194755a8232d13a7bff161da4a36c", func := "drover/droverlaw3.CommitteeLeads", spec := "committeeLeads", apart := false }
def CommitteeLeadsSaid : Prop := committeeLeadsRow.holds Try.pinned (OpenSpec.ofChange committeeLeadsSpec)

/-- ITS FALSE NEIGHBOUR: 'it returns false'. Refute it at one input. -/
def committeeLeadsWrong : ChangeSpec := { name := "committeeLeads", fn := fun _ => fun
  | [d] => { results := [.lit (.bool false)], args := [d] }
  | _ => none }
def CommitteeLeadsWrongFalsely : Prop := committeeLeadsRow.holds Try.pinned (OpenSpec.ofChange committeeLeadsWrong)

/-- 'droverlaw3.CommitteeMeet': WHATEVER THE INPUT: true; the input reads as it did. -/
def committeeMeetSpec : ChangeSpec := { name := "committeeMeet", fn := fun _ => fun
  | [d] => { results := [.lit (.bool true)], args := [d] }
  | _ => none }
def committeeMeetRow : OpenClaim := { program := "ytoiofpmhniolnaa", sum := "dd629e109e6b9da3ab075cdfca3ab59a063194755a8232d13a7bff161da4a36c", func := "drover/droverlaw3.CommitteeMeet", spec := "committeeMeet", apart := false }
def CommitteeMeetSaid : Prop := committeeMeetRow.holds Try.pinned (OpenSpec.ofChange committeeMeetSpec)

/-- ITS FALSE NEIGHBOUR: 'it returns false'. Refute it at one input. -/
def committeeMeetWrong : ChangeSpec := { name := "committeeMeet", fn := fun _ => fun
  | [d] => { results := [.lit (.bool false)], args := [d] }
  | _ => none }
def CommitteeMeetWrongFalsely : Prop := committeeMeetRow.holds Try.pinned (OpenSpec.ofChange committeeMeetWrong)

/-- 'droverlaw3.CommitteeTurns': WHATEVER THE INPUT: true; the input reads as it did. -/
def committeeTurnsSpec : ChangeSpec := { name := "committeeTurns", fn := fun _ => fun
  | [d] => { results := [.lit (.bool true)], args := [d] }
  | _ => none }
def committeeTurnsRow : OpenClaim := { program := "ytoiofpmhniolnaa", sum := "dd629e109e6b9da3ab075cdfca3ab59a063194755a8232d13a7bff161da4a36c", func := "drover/droverlaw3.CommitteeTurns", spec := "committeeTurns", apart := false }
def CommitteeTurnsSaid : Prop := committeeTurnsRow.holds Try.pinned (OpenSpec.ofChange committeeTurnsSpec)

/-- ITS FALSE NEIGHBOUR: 'it returns false'. Refute it at one input. -/
def committeeTurnsWrong : ChangeSpec := { name := "committeeTurns", fn := fun _ => fun
  | [d] => { results := [.lit (.bool false)], args := [d] }
  | _ => none }
def CommitteeTurnsWrongFalsely : Prop := committeeTurnsRow.holds Try.pinned (OpenSpec.ofChange committeeTurnsWrong)

/-- 'droverlaw3.CommitteeOnce': WHATEVER THE INPUT: true; the input reads as it did. -/
def committeeOnceSpec : ChangeSpec := { name := "committeeOnce", fn := fun _ => fun
  | [d] => { results := [.lit (.bool true)], args := [d] }
  | _ => none }
def committeeOnceRow : OpenClaim := { program := "ytoiofpmhniolnaa", sum := "dd629e109e6b9da3ab075cdfca3ab59a063194755a8232d13a7bff161da4a36c", func := "drover/droverlaw3.CommitteeOnce", spec := "committeeOnce", apart := false }
def CommitteeOnceSaid : Prop := committeeOnceRow.holds Try.pinned (OpenSpec.ofChange committeeOnceSpec)

/-- ITS FALSE NEIGHBOUR: 'it returns false'. Refute it at one input. -/
def committeeOnceWrong : ChangeSpec := { name := "committeeOnce", fn := fun _ => fun
  | [d] => { results := [.lit (.bool false)], args := [d] }
  | _ => none }
def CommitteeOnceWrongFalsely : Prop := committeeOnceRow.holds Try.pinned (OpenSpec.ofChange committeeOnceWrong)

/- THE SECOND FORM. 'bulk': how many values and letters a reading holds, each counted each time it is reached (what is shared counts as often as it is met; a slice's spare places count too). A statement '..UptoSaid' is the law's where the arguments, and the package variables that the reading takes, are together of bulk at most 1048576: NARROWER than '..Said'. Prove '..Said' where nothing that the law and all that it calls make is longer than what came in: it says more and counts as full. Else prove '..UptoSaid'. A law counts once. -/
mutual
def uptoBulk {H : Type} : DataW H → Nat
  | .lit (.string bytes) => bytes.length + 1
  | .lit _ => 1
  | .nil => 1
  | .ptr d => uptoBulk d + 1
  | .slice elems spare => uptoBulkAll elems + uptoBulkAll spare + 1
  | .agg parts => uptoBulkAll parts + 1
  | .iface _ d => uptoBulk d + 1
  | .map entries => uptoBulkEntries entries + 1
  | .held _ => 1
def uptoBulkAll {H : Type} : List (DataW H) → Nat
  | [] => 0
  | d :: r => uptoBulk d + uptoBulkAll r
def uptoBulkEntries {H : Type} : List (Lit × DataW H) → Nat
  | [] => 0
  | x :: r => uptoBulkEntry x + uptoBulkEntries r
def uptoBulkEntry {H : Type} : Lit × DataW H → Nat
  | (.string bytes, d) => bytes.length + uptoBulk d + 1
  | (_, d) => uptoBulk d + 1
 end
def uptoSmall : (H : Type) → List (DataW H) → Bool := fun _ ds => decide (uptoBulkAll ds ≤ 1048576)
def OpenSpec.upto (s : _root_.Go.ChangeSpec) : _root_.Go.OpenSpec := { _root_.Go.OpenSpec.ofChange s with cond := some uptoSmall }

/-- 'droverlaw3.CommitteeSizes', WHERE WHAT IT READS IS OF BULK AT MOST 1048576: true; the input reads as it did. -/
def committeeSizesUptoRow : OpenClaim := { program := "ytoiofpmhniolnaa", sum := "dd629e109e6b9da3ab075cdfca3ab59a063194755a8232d13a7bff161da4a36c", func := "drover/droverlaw3.CommitteeSizes", spec := "committeeSizes", apart := false, narrowed := true }
def CommitteeSizesUptoSaid : Prop := committeeSizesUptoRow.holds Try.pinned (OpenSpec.upto committeeSizesSpec)

/-- 'droverlaw3.CommitteeEnough', WHERE WHAT IT READS IS OF BULK AT MOST 1048576: true; the input reads as it did. -/
def committeeEnoughUptoRow : OpenClaim := { program := "ytoiofpmhniolnaa", sum := "dd629e109e6b9da3ab075cdfca3ab59a063194755a8232d13a7bff161da4a36c", func := "drover/droverlaw3.CommitteeEnough", spec := "committeeEnough", apart := false, narrowed := true }
def CommitteeEnoughUptoSaid : Prop := committeeEnoughUptoRow.holds Try.pinned (OpenSpec.upto committeeEnoughSpec)

/-- 'droverlaw3.CommitteeLeads', WHERE WHAT IT READS IS OF BULK AT MOST 1048576: true; the input reads as it did. -/
def committeeLeadsUptoRow : OpenClaim := { program := "ytoiofpmhniolnaa", sum := "dd629e109e6b9da3ab075cdfca3ab59a063194755a8232d13a7bff161da4a36c", func := "drover/droverlaw3.CommitteeLeads", spec := "committeeLeads", apart := false, narrowed := true }
def CommitteeLeadsUptoSaid : Prop := committeeLeadsUptoRow.holds Try.pinned (OpenSpec.upto committeeLeadsSpec)

/-- 'droverlaw3.CommitteeMeet', WHERE WHAT IT READS IS OF BULK AT MOST 1048576: true; the input reads as it did. -/
def committeeMeetUptoRow : OpenClaim := { program := "ytoiofpmhniolnaa", sum := "dd629e109e6b9da3ab075cdfca3ab59a063194755a8232d13a7bff161da4a36c", func := "drover/droverlaw3.CommitteeMeet", spec := "committeeMeet", apart := false, narrowed := true }
def CommitteeMeetUptoSaid : Prop := committeeMeetUptoRow.holds Try.pinned (OpenSpec.upto committeeMeetSpec)

/-- 'droverlaw3.CommitteeTurns', WHERE WHAT IT READS IS OF BULK AT MOST 1048576: true; the input reads as it did. -/
def committeeTurnsUptoRow : OpenClaim := { program := "ytoiofpmhniolnaa", sum := "dd629e109e6b9da3ab075cdfca3ab59a063194755a8232d13a7bff161da4a36c", func := "drover/droverlaw3.CommitteeTurns", spec := "committeeTurns", apart := false, narrowed := true }
def CommitteeTurnsUptoSaid : Prop := committeeTurnsUptoRow.holds Try.pinned (OpenSpec.upto committeeTurnsSpec)

/-- 'droverlaw3.CommitteeOnce', WHERE WHAT IT READS IS OF BULK AT MOST 1048576: true; the input reads as it did. -/
def committeeOnceUptoRow : OpenClaim := { program := "ytoiofpmhniolnaa", sum := "dd629e109e6b9da3ab075cdfca3ab59a063194755a8232d13a7bff161da4a36c", func := "drover/droverlaw3.CommitteeOnce", spec := "committeeOnce", apart := false, narrowed := true }
def CommitteeOnceUptoSaid : Prop := committeeOnceUptoRow.holds Try.pinned (OpenSpec.upto committeeOnceSpec)

end Rows
end Go.Proofs.Ytoiofpmhniolnaa
