/-
  No cell of these rows narrows 'for every input' (looked for: loops, veiled, ifaces, maps, wideKeys, modest, calm, conditions, laid).
  DERIVED. THE GIVEN ROWS OF THIS SEAT. 3 by the template 'for every input the law returns true; each argument reads behind the call as it read before'; 0 by the template 'total and deterministic' (their statements: YtaccmjgnggepjaaTotals.lean).
  GIVEN WITH THE SEED: the statements are not yours to turn. If you find one false, say at which input.
  Laid BY PROGRAM, IN A SANDBOX (cutbox-rows.mjs): the forced cells as the released guide's own fill.sh prints them over the translation 13275ecfd438bba7… (all of the seat's roots in one cut). By AI agents, Wed Nov 11 2026. No macro, syntax, notation, axiom, sorry.
-/
import Derived.Test.YtaccmjgnggepjaaChecked
import GoSem.Claim
import GoSem.ClaimJoined
import GoSem.ClaimMapViews
import Derived.JoinedTies
import Derived.KernelRfl
namespace Go.Proofs.Ytaccmjgnggepjaa
/- THE CELL 'sum', in the pinned program and in every row, IS THE sha256 OF THE DUMP (.gsa) THAT YtaccmjgnggepjaaProg.lean LOADS. Nothing in Lean hashes anything: it is a label: what it is worth is what the hold of that sum in a sandbox is worth. -/
noncomputable def Try.pinned : Pinned := { name := "ytaccmjgnggepjaa", sum := "13275ecfd438bba7d97fb7a5de3eb71467a5baad7d39ca28ec27c9cb69081541", checked := Try.checked }
namespace Rows
def none {H : Type} : Left H := { results := [], args := [] }

/-- 'droverlaw11.KeepModel': WHATEVER THE INPUT: true; the input reads as it did. -/
def keepModelSpec : ChangeSpec := { name := "keepModel", fn := fun _ => fun
  | [d] => { results := [.lit (.bool true)], args := [d] }
  | _ => none }
def keepModelRow : OpenClaim := { program := "ytaccmjgnggepjaa", sum := "13275ecfd438bba7d97fb7a5de3eb71467a5baad7d39ca28ec27c9cb69081541", func := "drover/droverlaw11.KeepModel", spec := "keepModel", inPlace := ["internal/bytealg.abigen_runtime_cmpstring", "slices.overlaps[drover/api.Pair]", "slices.overlaps[drover/disk.file]"], unfollowed := true, recurses := true, apart := false }
def KeepModelSaid : Prop := keepModelRow.holds Try.pinned (OpenSpec.ofChange keepModelSpec)

/-- ITS FALSE NEIGHBOUR: 'it returns false'. Refute it at one input. -/
def keepModelWrong : ChangeSpec := { name := "keepModel", fn := fun _ => fun
  | [d] => { results := [.lit (.bool false)], args := [d] }
  | _ => none }
def KeepModelWrongFalsely : Prop := keepModelRow.holds Try.pinned (OpenSpec.ofChange keepModelWrong)

/-- 'droverlaw11.KeepOver': WHATEVER THE INPUT: true; the input reads as it did. -/
def keepOverSpec : ChangeSpec := { name := "keepOver", fn := fun _ => fun
  | [d] => { results := [.lit (.bool true)], args := [d] }
  | _ => none }
def keepOverRow : OpenClaim := { program := "ytaccmjgnggepjaa", sum := "13275ecfd438bba7d97fb7a5de3eb71467a5baad7d39ca28ec27c9cb69081541", func := "drover/droverlaw11.KeepOver", spec := "keepOver", inPlace := ["internal/bytealg.abigen_runtime_cmpstring", "slices.overlaps[drover/api.Pair]", "slices.overlaps[drover/disk.file]"], unfollowed := true, recurses := true, apart := false }
def KeepOverSaid : Prop := keepOverRow.holds Try.pinned (OpenSpec.ofChange keepOverSpec)

/-- ITS FALSE NEIGHBOUR: 'it returns false'. Refute it at one input. -/
def keepOverWrong : ChangeSpec := { name := "keepOver", fn := fun _ => fun
  | [d] => { results := [.lit (.bool false)], args := [d] }
  | _ => none }
def KeepOverWrongFalsely : Prop := keepOverRow.holds Try.pinned (OpenSpec.ofChange keepOverWrong)

/-- 'droverlaw11.KeepQuotas': WHATEVER THE INPUT: true; the input reads as it did. -/
def keepQuotasSpec : ChangeSpec := { name := "keepQuotas", fn := fun _ => fun
  | [d] => { results := [.lit (.bool true)], args := [d] }
  | _ => none }
def keepQuotasRow : OpenClaim := { program := "ytaccmjgnggepjaa", sum := "13275ecfd438bba7d97fb7a5de3eb71467a5baad7d39ca28ec27c9cb69081541", func := "drover/droverlaw11.KeepQuotas", spec := "keepQuotas", inPlace := ["internal/bytealg.abigen_runtime_cmpstring", "slices.overlaps[drover/api.Pair]", "slices.overlaps[drover/disk.file]"], unfollowed := true, recurses := true, apart := false }
def KeepQuotasSaid : Prop := keepQuotasRow.holds Try.pinned (OpenSpec.ofChange keepQuotasSpec)

/-- ITS FALSE NEIGHBOUR: 'it returns false'. Refute it at one input. -/
def keepQuotasWrong : ChangeSpec := { name := "keepQuotas", fn := fun _ => fun
  | [d] => { results := [.lit (.bool false)], args := [d] }
  | _ => none }
def KeepQuotasWrongFalsely : Prop := keepQuotasRow.holds Try.pinned (OpenSpec.ofChange keepQuotasWrong)

/- THE SECOND FORM. 'bulk': how many values and letters a reading holds, each counted each time it is reached (what is shared counts as often as it is met; a slice's spare places count too). A statement '..UptoSaid' is the law's where the arguments, and the package variables that the reading takes, are together of bulk at most 1048576: NARROWER than '..Said'. Prove '..Said' where nothing that the law and all that it calls make is longer than what came in: it says more and counts as full. Else prove '..UptoSaid'. A law counts once. -/
mutual
def uptoBulk {H : Type} : DataW H → Nat
  | .lit (.string bytes) => bytes.length + 1
  | .lit _ => 1
  | .nil => 1
  | .ptr d => uptoBulk d + 1
  | .slice elems spare => uptoBulkAll elems + uptoBulkAll spare + 1
  | .agg parts => uptoBulkAll parts + 1
  | .iface _ d => uptoBulk d + 1
  | .map entries => uptoBulkEntries entries + 1
  | .held _ => 1
def uptoBulkAll {H : Type} : List (DataW H) → Nat
  | [] => 0
  | d :: r => uptoBulk d + uptoBulkAll r
def uptoBulkEntries {H : Type} : List (Lit × DataW H) → Nat
  | [] => 0
  | x :: r => uptoBulkEntry x + uptoBulkEntries r
def uptoBulkEntry {H : Type} : Lit × DataW H → Nat
  | (.string bytes, d) => bytes.length + uptoBulk d + 1
  | (_, d) => uptoBulk d + 1
 end
def uptoSmall : (H : Type) → List (DataW H) → Bool := fun _ ds => decide (uptoBulkAll ds ≤ 1048576)
def OpenSpec.upto (s : _root_.Go.ChangeSpec) : _root_.Go.OpenSpec := { _root_.Go.OpenSpec.ofChange s with cond := some uptoSmall }

/-- 'droverlaw11.KeepModel', WHERE WHAT IT READS IS OF BULK AT MOST 1048576: true; the input reads as it did. -/
def keepModelUptoRow : OpenClaim := { program := "ytaccmjgnggepjaa", sum := "13275ecfd438bba7d97fb7a5de3eb71467a5baad7d39ca28ec27c9cb69081541", func := "drover/droverlaw11.KeepModel", spec := "keepModel", inPlace := ["internal/bytealg.abigen_runtime_cmpstring", "slices.overlaps[drover/api.Pair]", "slices.overlaps[drover/disk.file]"], unfollowed := true, recurses := true, apart := false, narrowed := true }
def KeepModelUptoSaid : Prop := keepModelUptoRow.holds Try.pinned (OpenSpec.upto keepModelSpec)

/-- 'droverlaw11.KeepOver', WHERE WHAT IT READS IS OF BULK AT MOST 1048576: true; the input reads as it did. -/
def keepOverUptoRow : OpenClaim := { program := "ytaccmjgnggepjaa", sum := "13275ecfd438bba7d97fb7a5de3eb71467a5baad7d39ca28ec27c9cb69081541", func := "drover/droverlaw11.KeepOver", spec := "keepOver", inPlace := ["internal/bytealg.abigen_runtime_cmpstring", "slices.overlaps[drover/api.Pair]", "slices.overlaps[drover/disk.file]"], unfollowed := true, recurses := true, apart := false, narrowed := true }
def KeepOverUptoSaid : Prop := keepOverUptoRow.holds Try.pinned (OpenSpec.upto keepOverSpec)

/-- 'droverlaw11.KeepQuotas', WHERE WHAT IT READS IS OF BULK AT MOST 1048576: true; the input reads as it did. -/
def keepQuotasUptoRow : OpenClaim := { program := "ytaccmjgnggepjaa", sum := "13275ecfd438bba7d97fb7a5de3eb71467a5baad7d39ca28ec27c9cb69081541", func := "drover/droverlaw11.KeepQuotas", spec := "keepQuotas", inPlace := ["internal/bytealg.abigen_runtime_cmpstring", "slices.overlaps[drover/api.Pair]", "slices.overlaps[drover/disk.file]"], unfollowed := true, recurses := true, apart := false, narrowed := true }
def KeepQuotasUptoSaid : Prop := keepQuotasUptoRow.holds Try.pinned (OpenSpec.upto keepQuotasSpec)

end Rows
end Go.Proofs.Ytaccmjgnggepjaa
