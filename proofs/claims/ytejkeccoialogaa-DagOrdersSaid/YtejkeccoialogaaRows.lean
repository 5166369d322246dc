/-
  No cell of these rows narrows 'for every input' (looked for: loops, veiled, ifaces, maps, wideKeys, modest, calm, conditions, laid).
  DERIVED. THE GIVEN ROWS OF THIS SEAT. 7 by the template 'for every input the law returns true; each argument reads behind the call as it read before'; 0 by the template 'total and deterministic' (their statements: YtejkeccoialogaaTotals.lean).
  GIVEN WITH THE SEED: the statements are not yours to turn. If you find one false, say at which input.
  Laid BY PROGRAM, IN A SANDBOX (cutbox-rows.mjs): the forced cells as the released guide's own fill.sh prints them over the translation 9472c5e960296ec5… (all of the seat's roots in one cut). By AI agents, Wed Nov 11 2026. No macro, syntax, notation, axiom, sorry.
-/
import Derived.Test.YtejkeccoialogaaChecked
import GoSem.Claim
import GoSem.ClaimJoined
import GoSem.ClaimMapViews
import Derived.JoinedTies
import Derived.KernelRfl
namespace Go.Proofs.Ytejkeccoialogaa
/- THE CELL 'sum', in the pinned program and in every row, IS THE sha256 OF THE DUMP (.gsa) THAT YtejkeccoialogaaProg.lean LOADS. Nothing in Lean hashes anything: it is a label: what it is worth is what the hold of that sum in a sandbox is worth. -/
noncomputable def Try.pinned : Pinned := { name := "ytejkeccoialogaa", sum := "9472c5e960296ec5af176279672bcadbb541e5809fbb50ac6aeb0c3b11a38e2d", checked := Try.checked }
namespace Rows
def none {H : Type} : Left H := { results := [], args := [] }

/-- 'droverlaw14.DagAdds': WHATEVER THE INPUT: true; the input reads as it did. -/
def dagAddsSpec : ChangeSpec := { name := "dagAdds", fn := fun _ => fun
  | [d] => { results := [.lit (.bool true)], args := [d] }
  | _ => none }
def dagAddsRow : OpenClaim := { program := "ytejkeccoialogaa", sum := "9472c5e960296ec5af176279672bcadbb541e5809fbb50ac6aeb0c3b11a38e2d", func := "drover/droverlaw14.DagAdds", spec := "dagAdds", inPlace := ["slices.overlaps[drover/api.Cert]"], unfollowed := true, recurses := true, apart := false }
def DagAddsSaid : Prop := dagAddsRow.holds Try.pinned (OpenSpec.ofChange dagAddsSpec)

/-- ITS FALSE NEIGHBOUR: 'it returns false'. Refute it at one input. -/
def dagAddsWrong : ChangeSpec := { name := "dagAdds", fn := fun _ => fun
  | [d] => { results := [.lit (.bool false)], args := [d] }
  | _ => none }
def DagAddsWrongFalsely : Prop := dagAddsRow.holds Try.pinned (OpenSpec.ofChange dagAddsWrong)

/-- 'droverlaw14.DagOrders': WHATEVER THE INPUT: true; the input reads as it did. -/
def dagOrdersSpec : ChangeSpec := { name := "dagOrders", fn := fun _ => fun
  | [d] => { results := [.lit (.bool true)], args := [d] }
  | _ => none }
def dagOrdersRow : OpenClaim := { program := "ytejkeccoialogaa", sum := "9472c5e960296ec5af176279672bcadbb541e5809fbb50ac6aeb0c3b11a38e2d", func := "drover/droverlaw14.DagOrders", spec := "dagOrders", inPlace := ["slices.overlaps[drover/api.Cert]"], unfollowed := true, recurses := true, apart := false }
def DagOrdersSaid : Prop := dagOrdersRow.holds Try.pinned (OpenSpec.ofChange dagOrdersSpec)

/-- ITS FALSE NEIGHBOUR: 'it returns false'. Refute it at one input. -/
def dagOrdersWrong : ChangeSpec := { name := "dagOrders", fn := fun _ => fun
  | [d] => { results := [.lit (.bool false)], args := [d] }
  | _ => none }
def DagOrdersWrongFalsely : Prop := dagOrdersRow.holds Try.pinned (OpenSpec.ofChange dagOrdersWrong)

/-- 'droverlaw16.AnchorFinds': WHATEVER THE INPUT: true; the input reads as it did. -/
def anchorFindsSpec : ChangeSpec := { name := "anchorFinds", fn := fun _ => fun
  | [d] => { results := [.lit (.bool true)], args := [d] }
  | _ => none }
def anchorFindsRow : OpenClaim := { program := "ytejkeccoialogaa", sum := "9472c5e960296ec5af176279672bcadbb541e5809fbb50ac6aeb0c3b11a38e2d", func := "drover/droverlaw16.AnchorFinds", spec := "anchorFinds", unfollowed := true, recurses := true, apart := false }
def AnchorFindsSaid : Prop := anchorFindsRow.holds Try.pinned (OpenSpec.ofChange anchorFindsSpec)

/-- ITS FALSE NEIGHBOUR: 'it returns false'. Refute it at one input. -/
def anchorFindsWrong : ChangeSpec := { name := "anchorFinds", fn := fun _ => fun
  | [d] => { results := [.lit (.bool false)], args := [d] }
  | _ => none }
def AnchorFindsWrongFalsely : Prop := anchorFindsRow.holds Try.pinned (OpenSpec.ofChange anchorFindsWrong)

/-- 'droverlaw16.AnchorVotes': WHATEVER THE INPUT: true; the input reads as it did. -/
def anchorVotesSpec : ChangeSpec := { name := "anchorVotes", fn := fun _ => fun
  | [d] => { results := [.lit (.bool true)], args := [d] }
  | _ => none }
def anchorVotesRow : OpenClaim := { program := "ytejkeccoialogaa", sum := "9472c5e960296ec5af176279672bcadbb541e5809fbb50ac6aeb0c3b11a38e2d", func := "drover/droverlaw16.AnchorVotes", spec := "anchorVotes", unfollowed := true, recurses := true, apart := false }
def AnchorVotesSaid : Prop := anchorVotesRow.holds Try.pinned (OpenSpec.ofChange anchorVotesSpec)

/-- ITS FALSE NEIGHBOUR: 'it returns false'. Refute it at one input. -/
def anchorVotesWrong : ChangeSpec := { name := "anchorVotes", fn := fun _ => fun
  | [d] => { results := [.lit (.bool false)], args := [d] }
  | _ => none }
def AnchorVotesWrongFalsely : Prop := anchorVotesRow.holds Try.pinned (OpenSpec.ofChange anchorVotesWrong)

/-- 'droverlaw16.AnchorChains': WHATEVER THE INPUT: true; the input reads as it did. -/
def anchorChainsSpec : ChangeSpec := { name := "anchorChains", fn := fun _ => fun
  | [d] => { results := [.lit (.bool true)], args := [d] }
  | _ => none }
def anchorChainsRow : OpenClaim := { program := "ytejkeccoialogaa", sum := "9472c5e960296ec5af176279672bcadbb541e5809fbb50ac6aeb0c3b11a38e2d", func := "drover/droverlaw16.AnchorChains", spec := "anchorChains", unfollowed := true, recurses := true, apart := false }
def AnchorChainsSaid : Prop := anchorChainsRow.holds Try.pinned (OpenSpec.ofChange anchorChainsSpec)

/-- ITS FALSE NEIGHBOUR: 'it returns false'. Refute it at one input. -/
def anchorChainsWrong : ChangeSpec := { name := "anchorChains", fn := fun _ => fun
  | [d] => { results := [.lit (.bool false)], args := [d] }
  | _ => none }
def AnchorChainsWrongFalsely : Prop := anchorChainsRow.holds Try.pinned (OpenSpec.ofChange anchorChainsWrong)

/-- 'droverlaw16.AnchorSettled': WHATEVER THE INPUT: true; the input reads as it did. -/
def anchorSettledSpec : ChangeSpec := { name := "anchorSettled", fn := fun _ => fun
  | [d] => { results := [.lit (.bool true)], args := [d] }
  | _ => none }
def anchorSettledRow : OpenClaim := { program := "ytejkeccoialogaa", sum := "9472c5e960296ec5af176279672bcadbb541e5809fbb50ac6aeb0c3b11a38e2d", func := "drover/droverlaw16.AnchorSettled", spec := "anchorSettled", unfollowed := true, recurses := true, apart := false }
def AnchorSettledSaid : Prop := anchorSettledRow.holds Try.pinned (OpenSpec.ofChange anchorSettledSpec)

/-- ITS FALSE NEIGHBOUR: 'it returns false'. Refute it at one input. -/
def anchorSettledWrong : ChangeSpec := { name := "anchorSettled", fn := fun _ => fun
  | [d] => { results := [.lit (.bool false)], args := [d] }
  | _ => none }
def AnchorSettledWrongFalsely : Prop := anchorSettledRow.holds Try.pinned (OpenSpec.ofChange anchorSettledWrong)

/-- 'droverlaw16.AnchorRises': WHATEVER THE INPUT: true; the input reads as it did. -/
def anchorRisesSpec : ChangeSpec := { name := "anchorRises", fn := fun _ => fun
  | [d] => { results := [.lit (.bool true)], args := [d] }
  | _ => none }
def anchorRisesRow : OpenClaim := { program := "ytejkeccoialogaa", sum := "9472c5e960296ec5af176279672bcadbb541e5809fbb50ac6aeb0c3b11a38e2d", func := "drover/droverlaw16.AnchorRises", spec := "anchorRises", unfollowed := true, recurses := true, apart := false }
def AnchorRisesSaid : Prop := anchorRisesRow.holds Try.pinned (OpenSpec.ofChange anchorRisesSpec)

/-- ITS FALSE NEIGHBOUR: 'it returns false'. Refute it at one input. -/
def anchorRisesWrong : ChangeSpec := { name := "anchorRises", fn := fun _ => fun
  | [d] => { results := [.lit (.bool false)], args := [d] }
  | _ => none }
def AnchorRisesWrongFalsely : Prop := anchorRisesRow.holds Try.pinned (OpenSpec.ofChange anchorRisesWrong)

/- THE SECOND FORM. 'bulk': how many values and letters a reading holds, each counted each time it is reached (what is shared counts as often as it is met; a slice's spare places count too). A statement '..UptoSaid' is the law's where the arguments, and the package variables that the reading takes, are together of bulk at most 1048576: NARROWER than '..Said'. Prove '..Said' where nothing that the law and all that it calls make is longer than what came in: it says more and counts as full. Else prove '..UptoSaid'. A law counts once. -/
mutual
def uptoBulk {H : Type} : DataW H → Nat
  | .lit (.string bytes) => bytes.length + 1
  | .lit _ => 1
  | .nil => 1
  | .ptr d => uptoBulk d + 1
  | .slice elems spare => uptoBulkAll elems + uptoBulkAll spare + 1
  | .agg parts => uptoBulkAll parts + 1
  | .iface _ d => uptoBulk d + 1
  | .map entries => uptoBulkEntries entries + 1
  | .held _ => 1
def uptoBulkAll {H : Type} : List (DataW H) → Nat
  | [] => 0
  | d :: r => uptoBulk d + uptoBulkAll r
def uptoBulkEntries {H : Type} : List (Lit × DataW H) → Nat
  | [] => 0
  | x :: r => uptoBulkEntry x + uptoBulkEntries r
def uptoBulkEntry {H : Type} : Lit × DataW H → Nat
  | (.string bytes, d) => bytes.length + uptoBulk d + 1
  | (_, d) => uptoBulk d + 1
 end
def uptoSmall : (H : Type) → List (DataW H) → Bool := fun _ ds => decide (uptoBulkAll ds ≤ 1048576)
def OpenSpec.upto (s : _root_.Go.ChangeSpec) : _root_.Go.OpenSpec := { _root_.Go.OpenSpec.ofChange s with cond := some uptoSmall }

/-- 'droverlaw14.DagAdds', WHERE WHAT IT READS IS OF BULK AT MOST 1048576: true; the input reads as it did. -/
def dagAddsUptoRow : OpenClaim := { program := "ytejkeccoialogaa", sum := "9472c5e960296ec5af176279672bcadbb541e5809fbb50ac6aeb0c3b11a38e2d", func := "drover/droverlaw14.DagAdds", spec := "dagAdds", inPlace := ["slices.overlaps[drover/api.Cert]"], unfollowed := true, recurses := true, apart := false, narrowed := true }
def DagAddsUptoSaid : Prop := dagAddsUptoRow.holds Try.pinned (OpenSpec.upto dagAddsSpec)

/-- 'droverlaw14.DagOrders', WHERE WHAT IT READS IS OF BULK AT MOST 1048576: true; the input reads as it did. -/
def dagOrdersUptoRow : OpenClaim := { program := "ytejkeccoialogaa", sum := "9472c5e960296ec5af176279672bcadbb541e5809fbb50ac6aeb0c3b11a38e2d", func := "drover/droverlaw14.DagOrders", spec := "dagOrders", inPlace := ["slices.overlaps[drover/api.Cert]"], unfollowed := true, recurses := true, apart := false, narrowed := true }
def DagOrdersUptoSaid : Prop := dagOrdersUptoRow.holds Try.pinned (OpenSpec.upto dagOrdersSpec)

/-- 'droverlaw16.AnchorFinds', WHERE WHAT IT READS IS OF BULK AT MOST 1048576: true; the input reads as it did. -/
def anchorFindsUptoRow : OpenClaim := { program := "ytejkeccoialogaa", sum := "9472c5e960296ec5af176279672bcadbb541e5809fbb50ac6aeb0c3b11a38e2d", func := "drover/droverlaw16.AnchorFinds", spec := "anchorFinds", unfollowed := true, recurses := true, apart := false, narrowed := true }
def AnchorFindsUptoSaid : Prop := anchorFindsUptoRow.holds Try.pinned (OpenSpec.upto anchorFindsSpec)

/-- 'droverlaw16.AnchorVotes', WHERE WHAT IT READS IS OF BULK AT MOST 1048576: true; the input reads as it did. -/
def anchorVotesUptoRow : OpenClaim := { program := "ytejkeccoialogaa", sum := "9472c5e960296ec5af176279672bcadbb541e5809fbb50ac6aeb0c3b11a38e2d", func := "drover/droverlaw16.AnchorVotes", spec := "anchorVotes", unfollowed := true, recurses := true, apart := false, narrowed := true }
def AnchorVotesUptoSaid : Prop := anchorVotesUptoRow.holds Try.pinned (OpenSpec.upto anchorVotesSpec)

/-- 'droverlaw16.AnchorChains', WHERE WHAT IT READS IS OF BULK AT MOST 1048576: true; the input reads as it did. -/
def anchorChainsUptoRow : OpenClaim := { program := "ytejkeccoialogaa", sum := "9472c5e960296ec5af176279672bcadbb541e5809fbb50ac6aeb0c3b11a38e2d", func := "drover/droverlaw16.AnchorChains", spec := "anchorChains", unfollowed := true, recurses := true, apart := false, narrowed := true }
def AnchorChainsUptoSaid : Prop := anchorChainsUptoRow.holds Try.pinned (OpenSpec.upto anchorChainsSpec)

/-- 'droverlaw16.AnchorSettled', WHERE WHAT IT READS IS OF BULK AT MOST 1048576: true; the input reads as it did. -/
def anchorSettledUptoRow : OpenClaim := { program := "ytejkeccoialogaa", sum := "9472c5e960296ec5af176279672bcadbb541e5809fbb50ac6aeb0c3b11a38e2d", func := "drover/droverlaw16.AnchorSettled", spec := "anchorSettled", unfollowed := true, recurses := true, apart := false, narrowed := true }
def AnchorSettledUptoSaid : Prop := anchorSettledUptoRow.holds Try.pinned (OpenSpec.upto anchorSettledSpec)

/-- 'droverlaw16.AnchorRises', WHERE WHAT IT READS IS OF BULK AT MOST 1048576: true; the input reads as it did. -/
def anchorRisesUptoRow : OpenClaim := { program := "ytejkeccoialogaa", sum := "9472c5e960296ec5af176279672bcadbb541e5809fbb50ac6aeb0c3b11a38e2d", func := "drover/droverlaw16.AnchorRises", spec := "anchorRises", unfollowed := true, recurses := true, apart := false, narrowed := true }
def AnchorRisesUptoSaid : Prop := anchorRisesUptoRow.holds Try.pinned (OpenSpec.upto anchorRisesSpec)

end Rows
end Go.Proofs.Ytejkeccoialogaa
