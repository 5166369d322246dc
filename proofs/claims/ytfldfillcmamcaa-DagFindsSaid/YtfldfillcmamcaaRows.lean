/-
  No cell of these rows narrows 'for every input' (looked for: loops, veiled, ifaces, maps, wideKeys, modest, calm, conditions, laid).
  DERIVED. THE GIVEN ROWS OF THIS SEAT. 10 by the template 'for every input the law returns true; each argument reads behind the call as it read before'; 0 by the template 'total and deterministic' (their statements: YtfldfillcmamcaaTotals.lean).
  GIVEN WITH THE SEED: the statements are not yours to turn. If you find one false, say at which input.
  Laid BY PROGRAM, IN A SANDBOX (cutbox-rows.mjs): the forced cells as the released guide's own fill.sh prints them over the translation 6ea6fe0848625106… (all of the seat's roots in one cut). By AI agents, Wed Nov 11 2026. No macro, syntax, notation, axiom, sorry.
-/
import Derived.Test.YtfldfillcmamcaaChecked
import GoSem.Claim
import GoSem.ClaimJoined
import GoSem.ClaimMapViews
import Derived.JoinedTies
import Derived.KernelRfl
namespace Go.Proofs.Ytfldfillcmamcaa
/- THE CELL 'sum', in the pinned program and in every row, IS THE sha256 OF THE DUMP (.gsa) THAT YtfldfillcmamcaaProg.lean LOADS. Nothing in Lean hashes anything: it is a label: what it is worth is what the hold of that sum in a sandbox is worth. -/
noncomputable def Try.pinned : Pinned := { name := "ytfldfillcmamcaa", sum := "6ea6fe0848625106d43a078fe911e0f4b48bdb5c1f906e35c856aebdaad86061", checked := Try.checked }
namespace Rows
def none {H : Type} : Left H := { results := [], args := [] }

/-- 'droverlaw14.DagChecks': WHATEVER THE INPUT: true; the input reads as it did. -/
def dagChecksSpec : ChangeSpec := { name := "dagChecks", fn := fun _ => fun
  | [d] => { results := [.lit (.bool true)], args := [d] }
  | _ => none }
def dagChecksRow : OpenClaim := { program := "ytfldfillcmamcaa", sum := "6ea6fe0848625106d43a078fe911e0f4b48bdb5c1f906e35c856aebdaad86061", func := "drover/droverlaw14.DagChecks", spec := "dagChecks", inPlace := ["slices.overlaps[drover/api.Cert]"], unfollowed := true, recurses := true, apart := false }
def DagChecksSaid : Prop := dagChecksRow.holds Try.pinned (OpenSpec.ofChange dagChecksSpec)

/-- ITS FALSE NEIGHBOUR: 'it returns false'. Refute it at one input. -/
def dagChecksWrong : ChangeSpec := { name := "dagChecks", fn := fun _ => fun
  | [d] => { results := [.lit (.bool false)], args := [d] }
  | _ => none }
def DagChecksWrongFalsely : Prop := dagChecksRow.holds Try.pinned (OpenSpec.ofChange dagChecksWrong)

/-- 'droverlaw14.DagAdds': WHATEVER THE INPUT: true; the input reads as it did. -/
def dagAddsSpec : ChangeSpec := { name := "dagAdds", fn := fun _ => fun
  | [d] => { results := [.lit (.bool true)], args := [d] }
  | _ => none }
def dagAddsRow : OpenClaim := { program := "ytfldfillcmamcaa", sum := "6ea6fe0848625106d43a078fe911e0f4b48bdb5c1f906e35c856aebdaad86061", func := "drover/droverlaw14.DagAdds", spec := "dagAdds", inPlace := ["slices.overlaps[drover/api.Cert]"], unfollowed := true, recurses := true, apart := false }
def DagAddsSaid : Prop := dagAddsRow.holds Try.pinned (OpenSpec.ofChange dagAddsSpec)

/-- ITS FALSE NEIGHBOUR: 'it returns false'. Refute it at one input. -/
def dagAddsWrong : ChangeSpec := { name := "dagAdds", fn := fun _ => fun
  | [d] => { results := [.lit (.bool false)], args := [d] }
  | _ => none }
def DagAddsWrongFalsely : Prop := dagAddsRow.holds Try.pinned (OpenSpec.ofChange dagAddsWrong)

/-- 'droverlaw14.DagFinds': WHATEVER THE INPUT: true; the input reads as it did. -/
def dagFindsSpec : ChangeSpec := { name := "dagFinds", fn := fun _ => fun
  | [d] => { results := [.lit (.bool true)], args := [d] }
  | _ => none }
def dagFindsRow : OpenClaim := { program := "ytfldfillcmamcaa", sum := "6ea6fe0848625106d43a078fe911e0f4b48bdb5c1f906e35c856aebdaad86061", func := "drover/droverlaw14.DagFinds", spec := "dagFinds", inPlace := ["slices.overlaps[drover/api.Cert]"], unfollowed := true, recurses := true, apart := false }
def DagFindsSaid : Prop := dagFindsRow.holds Try.pinned (OpenSpec.ofChange dagFindsSpec)

/-- ITS FALSE NEIGHBOUR: 'it returns false'. Refute it at one input. -/
def dagFindsWrong : ChangeSpec := { name := "dagFinds", fn := fun _ => fun
  | [d] => { results := [.lit (.bool false)], args := [d] }
  | _ => none }
def DagFindsWrongFalsely : Prop := dagFindsRow.holds Try.pinned (OpenSpec.ofChange dagFindsWrong)

/-- 'droverlaw14.DagRounds': WHATEVER THE INPUT: true; the input reads as it did. -/
def dagRoundsSpec : ChangeSpec := { name := "dagRounds", fn := fun _ => fun
  | [d] => { results := [.lit (.bool true)], args := [d] }
  | _ => none }
def dagRoundsRow : OpenClaim := { program := "ytfldfillcmamcaa", sum := "6ea6fe0848625106d43a078fe911e0f4b48bdb5c1f906e35c856aebdaad86061", func := "drover/droverlaw14.DagRounds", spec := "dagRounds", inPlace := ["slices.overlaps[drover/api.Cert]"], unfollowed := true, recurses := true, apart := false }
def DagRoundsSaid : Prop := dagRoundsRow.holds Try.pinned (OpenSpec.ofChange dagRoundsSpec)

/-- ITS FALSE NEIGHBOUR: 'it returns false'. Refute it at one input. -/
def dagRoundsWrong : ChangeSpec := { name := "dagRounds", fn := fun _ => fun
  | [d] => { results := [.lit (.bool false)], args := [d] }
  | _ => none }
def DagRoundsWrongFalsely : Prop := dagRoundsRow.holds Try.pinned (OpenSpec.ofChange dagRoundsWrong)

/-- 'droverlaw14.DagTrims': WHATEVER THE INPUT: true; the input reads as it did. -/
def dagTrimsSpec : ChangeSpec := { name := "dagTrims", fn := fun _ => fun
  | [d] => { results := [.lit (.bool true)], args := [d] }
  | _ => none }
def dagTrimsRow : OpenClaim := { program := "ytfldfillcmamcaa", sum := "6ea6fe0848625106d43a078fe911e0f4b48bdb5c1f906e35c856aebdaad86061", func := "drover/droverlaw14.DagTrims", spec := "dagTrims", inPlace := ["slices.overlaps[drover/api.Cert]"], unfollowed := true, recurses := true, apart := false }
def DagTrimsSaid : Prop := dagTrimsRow.holds Try.pinned (OpenSpec.ofChange dagTrimsSpec)

/-- ITS FALSE NEIGHBOUR: 'it returns false'. Refute it at one input. -/
def dagTrimsWrong : ChangeSpec := { name := "dagTrims", fn := fun _ => fun
  | [d] => { results := [.lit (.bool false)], args := [d] }
  | _ => none }
def DagTrimsWrongFalsely : Prop := dagTrimsRow.holds Try.pinned (OpenSpec.ofChange dagTrimsWrong)

/-- 'droverlaw14.DagOrders': WHATEVER THE INPUT: true; the input reads as it did. -/
def dagOrdersSpec : ChangeSpec := { name := "dagOrders", fn := fun _ => fun
  | [d] => { results := [.lit (.bool true)], args := [d] }
  | _ => none }
def dagOrdersRow : OpenClaim := { program := "ytfldfillcmamcaa", sum := "6ea6fe0848625106d43a078fe911e0f4b48bdb5c1f906e35c856aebdaad86061", func := "drover/droverlaw14.DagOrders", spec := "dagOrders", inPlace := ["slices.overlaps[drover/api.Cert]"], unfollowed := true, recurses := true, apart := false }
def DagOrdersSaid : Prop := dagOrdersRow.holds Try.pinned (OpenSpec.ofChange dagOrdersSpec)

/-- ITS FALSE NEIGHBOUR: 'it returns false'. Refute it at one input. -/
def dagOrdersWrong : ChangeSpec := { name := "dagOrders", fn := fun _ => fun
  | [d] => { results := [.lit (.bool false)], args := [d] }
  | _ => none }
def DagOrdersWrongFalsely : Prop := dagOrdersRow.holds Try.pinned (OpenSpec.ofChange dagOrdersWrong)

/-- 'droverlaw15.PathReaches': WHATEVER THE INPUT: true; the input reads as it did. -/
def pathReachesSpec : ChangeSpec := { name := "pathReaches", fn := fun _ => fun
  | [d] => { results := [.lit (.bool true)], args := [d] }
  | _ => none }
def pathReachesRow : OpenClaim := { program := "ytfldfillcmamcaa", sum := "6ea6fe0848625106d43a078fe911e0f4b48bdb5c1f906e35c856aebdaad86061", func := "drover/droverlaw15.PathReaches", spec := "pathReaches", unfollowed := true, recurses := true, apart := false }
def PathReachesSaid : Prop := pathReachesRow.holds Try.pinned (OpenSpec.ofChange pathReachesSpec)

/-- ITS FALSE NEIGHBOUR: 'it returns false'. Refute it at one input. -/
def pathReachesWrong : ChangeSpec := { name := "pathReaches", fn := fun _ => fun
  | [d] => { results := [.lit (.bool false)], args := [d] }
  | _ => none }
def PathReachesWrongFalsely : Prop := pathReachesRow.holds Try.pinned (OpenSpec.ofChange pathReachesWrong)

/-- 'droverlaw15.PathBelows': WHATEVER THE INPUT: true; the input reads as it did. -/
def pathBelowsSpec : ChangeSpec := { name := "pathBelows", fn := fun _ => fun
  | [d] => { results := [.lit (.bool true)], args := [d] }
  | _ => none }
def pathBelowsRow : OpenClaim := { program := "ytfldfillcmamcaa", sum := "6ea6fe0848625106d43a078fe911e0f4b48bdb5c1f906e35c856aebdaad86061", func := "drover/droverlaw15.PathBelows", spec := "pathBelows", unfollowed := true, recurses := true, apart := false }
def PathBelowsSaid : Prop := pathBelowsRow.holds Try.pinned (OpenSpec.ofChange pathBelowsSpec)

/-- ITS FALSE NEIGHBOUR: 'it returns false'. Refute it at one input. -/
def pathBelowsWrong : ChangeSpec := { name := "pathBelows", fn := fun _ => fun
  | [d] => { results := [.lit (.bool false)], args := [d] }
  | _ => none }
def PathBelowsWrongFalsely : Prop := pathBelowsRow.holds Try.pinned (OpenSpec.ofChange pathBelowsWrong)

/-- 'droverlaw15.PathGoes': WHATEVER THE INPUT: true; the input reads as it did. -/
def pathGoesSpec : ChangeSpec := { name := "pathGoes", fn := fun _ => fun
  | [d] => { results := [.lit (.bool true)], args := [d] }
  | _ => none }
def pathGoesRow : OpenClaim := { program := "ytfldfillcmamcaa", sum := "6ea6fe0848625106d43a078fe911e0f4b48bdb5c1f906e35c856aebdaad86061", func := "drover/droverlaw15.PathGoes", spec := "pathGoes", unfollowed := true, recurses := true, apart := false }
def PathGoesSaid : Prop := pathGoesRow.holds Try.pinned (OpenSpec.ofChange pathGoesSpec)

/-- ITS FALSE NEIGHBOUR: 'it returns false'. Refute it at one input. -/
def pathGoesWrong : ChangeSpec := { name := "pathGoes", fn := fun _ => fun
  | [d] => { results := [.lit (.bool false)], args := [d] }
  | _ => none }
def PathGoesWrongFalsely : Prop := pathGoesRow.holds Try.pinned (OpenSpec.ofChange pathGoesWrong)

/-- 'droverlaw15.PathLows': WHATEVER THE INPUT: true; the input reads as it did. -/
def pathLowsSpec : ChangeSpec := { name := "pathLows", fn := fun _ => fun
  | [d] => { results := [.lit (.bool true)], args := [d] }
  | _ => none }
def pathLowsRow : OpenClaim := { program := "ytfldfillcmamcaa", sum := "6ea6fe0848625106d43a078fe911e0f4b48bdb5c1f906e35c856aebdaad86061", func := "drover/droverlaw15.PathLows", spec := "pathLows", unfollowed := true, recurses := true, apart := false }
def PathLowsSaid : Prop := pathLowsRow.holds Try.pinned (OpenSpec.ofChange pathLowsSpec)

/-- ITS FALSE NEIGHBOUR: 'it returns false'. Refute it at one input. -/
def pathLowsWrong : ChangeSpec := { name := "pathLows", fn := fun _ => fun
  | [d] => { results := [.lit (.bool false)], args := [d] }
  | _ => none }
def PathLowsWrongFalsely : Prop := pathLowsRow.holds Try.pinned (OpenSpec.ofChange pathLowsWrong)

/- THE SECOND FORM. 'bulk': how many values and letters a reading holds, each counted each time it is reached (what is shared counts as often as it is met; a slice's spare places count too). A statement '..UptoSaid' is the law's where the arguments, and the package variables that the reading takes, are together of bulk at most 1048576: NARROWER than '..Said'. Prove '..Said' where nothing that the law and all that it calls make is longer than what came in: it says more and counts as full. Else prove '..UptoSaid'. A law counts once. -/
mutual
def uptoBulk {H : Type} : DataW H → Nat
  | .lit (.string bytes) => bytes.length + 1
  | .lit _ => 1
  | .nil => 1
  | .ptr d => uptoBulk d + 1
  | .slice elems spare => uptoBulkAll elems + uptoBulkAll spare + 1
  | .agg parts => uptoBulkAll parts + 1
  | .iface _ d => uptoBulk d + 1
  | .map entries => uptoBulkEntries entries + 1
  | .held _ => 1
def uptoBulkAll {H : Type} : List (DataW H) → Nat
  | [] => 0
  | d :: r => uptoBulk d + uptoBulkAll r
def uptoBulkEntries {H : Type} : List (Lit × DataW H) → Nat
  | [] => 0
  | x :: r => uptoBulkEntry x + uptoBulkEntries r
def uptoBulkEntry {H : Type} : Lit × DataW H → Nat
  | (.string bytes, d) => bytes.length + uptoBulk d + 1
  | (_, d) => uptoBulk d + 1
 end
def uptoSmall : (H : Type) → List (DataW H) → Bool := fun _ ds => decide (uptoBulkAll ds ≤ 1048576)
def OpenSpec.upto (s : _root_.Go.ChangeSpec) : _root_.Go.OpenSpec := { _root_.Go.OpenSpec.ofChange s with cond := some uptoSmall }

/-- 'droverlaw14.DagChecks', WHERE WHAT IT READS IS OF BULK AT MOST 1048576: true; the input reads as it did. -/
def dagChecksUptoRow : OpenClaim := { program := "ytfldfillcmamcaa", sum := "6ea6fe0848625106d43a078fe911e0f4b48bdb5c1f906e35c856aebdaad86061", func := "drover/droverlaw14.DagChecks", spec := "dagChecks", inPlace := ["slices.overlaps[drover/api.Cert]"], unfollowed := true, recurses := true, apart := false, narrowed := true }
def DagChecksUptoSaid : Prop := dagChecksUptoRow.holds Try.pinned (OpenSpec.upto dagChecksSpec)

/-- 'droverlaw14.DagAdds', WHERE WHAT IT READS IS OF BULK AT MOST 1048576: true; the input reads as it did. -/
def dagAddsUptoRow : OpenClaim := { program := "ytfldfillcmamcaa", sum := "6ea6fe0848625106d43a078fe911e0f4b48bdb5c1f906e35c856aebdaad86061", func := "drover/droverlaw14.DagAdds", spec := "dagAdds", inPlace := ["slices.overlaps[drover/api.Cert]"], unfollowed := true, recurses := true, apart := false, narrowed := true }
def DagAddsUptoSaid : Prop := dagAddsUptoRow.holds Try.pinned (OpenSpec.upto dagAddsSpec)

/-- 'droverlaw14.DagFinds', WHERE WHAT IT READS IS OF BULK AT MOST 1048576: true; the input reads as it did. -/
def dagFindsUptoRow : OpenClaim := { program := "ytfldfillcmamcaa", sum := "6ea6fe0848625106d43a078fe911e0f4b48bdb5c1f906e35c856aebdaad86061", func := "drover/droverlaw14.DagFinds", spec := "dagFinds", inPlace := ["slices.overlaps[drover/api.Cert]"], unfollowed := true, recurses := true, apart := false, narrowed := true }
def DagFindsUptoSaid : Prop := dagFindsUptoRow.holds Try.pinned (OpenSpec.upto dagFindsSpec)

/-- 'droverlaw14.DagRounds', WHERE WHAT IT READS IS OF BULK AT MOST 1048576: true; the input reads as it did. -/
def dagRoundsUptoRow : OpenClaim := { program := "ytfldfillcmamcaa", sum := "6ea6fe0848625106d43a078fe911e0f4b48bdb5c1f906e35c856aebdaad86061", func := "drover/droverlaw14.DagRounds", spec := "dagRounds", inPlace := ["slices.overlaps[drover/api.Cert]"], unfollowed := true, recurses := true, apart := false, narrowed := true }
def DagRoundsUptoSaid : Prop := dagRoundsUptoRow.holds Try.pinned (OpenSpec.upto dagRoundsSpec)

/-- 'droverlaw14.DagTrims', WHERE WHAT IT READS IS OF BULK AT MOST 1048576: true; the input reads as it did. -/
def dagTrimsUptoRow : OpenClaim := { program := "ytfldfillcmamcaa", sum := "6ea6fe0848625106d43a078fe911e0f4b48bdb5c1f906e35c856aebdaad86061", func := "drover/droverlaw14.DagTrims", spec := "dagTrims", inPlace := ["slices.overlaps[drover/api.Cert]"], unfollowed := true, recurses := true, apart := false, narrowed := true }
def DagTrimsUptoSaid : Prop := dagTrimsUptoRow.holds Try.pinned (OpenSpec.upto dagTrimsSpec)

/-- 'droverlaw14.DagOrders', WHERE WHAT IT READS IS OF BULK AT MOST 1048576: true; the input reads as it did. -/
def dagOrdersUptoRow : OpenClaim := { program := "ytfldfillcmamcaa", sum := "6ea6fe0848625106d43a078fe911e0f4b48bdb5c1f906e35c856aebdaad86061", func := "drover/droverlaw14.DagOrders", spec := "dagOrders", inPlace := ["slices.overlaps[drover/api.Cert]"], unfollowed := true, recurses := true, apart := false, narrowed := true }
def DagOrdersUptoSaid : Prop := dagOrdersUptoRow.holds Try.pinned (OpenSpec.upto dagOrdersSpec)

/-- 'droverlaw15.PathReaches', WHERE WHAT IT READS IS OF BULK AT MOST 1048576: true; the input reads as it did. -/
def pathReachesUptoRow : OpenClaim := { program := "ytfldfillcmamcaa", sum := "6ea6fe0848625106d43a078fe911e0f4b48bdb5c1f906e35c856aebdaad86061", func := "drover/droverlaw15.PathReaches", spec := "pathReaches", unfollowed := true, recurses := true, apart := false, narrowed := true }
def PathReachesUptoSaid : Prop := pathReachesUptoRow.holds Try.pinned (OpenSpec.upto pathReachesSpec)

/-- 'droverlaw15.PathBelows', WHERE WHAT IT READS IS OF BULK AT MOST 1048576: true; the input reads as it did. -/
def pathBelowsUptoRow : OpenClaim := { program := "ytfldfillcmamcaa", sum := "6ea6fe0848625106d43a078fe911e0f4b48bdb5c1f906e35c856aebdaad86061", func := "drover/droverlaw15.PathBelows", spec := "pathBelows", unfollowed := true, recurses := true, apart := false, narrowed := true }
def PathBelowsUptoSaid : Prop := pathBelowsUptoRow.holds Try.pinned (OpenSpec.upto pathBelowsSpec)

/-- 'droverlaw15.PathGoes', WHERE WHAT IT READS IS OF BULK AT MOST 1048576: true; the input reads as it did. -/
def pathGoesUptoRow : OpenClaim := { program := "ytfldfillcmamcaa", sum := "6ea6fe0848625106d43a078fe911e0f4b48bdb5c1f906e35c856aebdaad86061", func := "drover/droverlaw15.PathGoes", spec := "pathGoes", unfollowed := true, recurses := true, apart := false, narrowed := true }
def PathGoesUptoSaid : Prop := pathGoesUptoRow.holds Try.pinned (OpenSpec.upto pathGoesSpec)

/-- 'droverlaw15.PathLows', WHERE WHAT IT READS IS OF BULK AT MOST 1048576: true; the input reads as it did. -/
def pathLowsUptoRow : OpenClaim := { program := "ytfldfillcmamcaa", sum := "6ea6fe0848625106d43a078fe911e0f4b48bdb5c1f906e35c856aebdaad86061", func := "drover/droverlaw15.PathLows", spec := "pathLows", unfollowed := true, recurses := true, apart := false, narrowed := true }
def PathLowsUptoSaid : Prop := pathLowsUptoRow.holds Try.pinned (OpenSpec.upto pathLowsSpec)

end Rows
end Go.Proofs.Ytfldfillcmamcaa
