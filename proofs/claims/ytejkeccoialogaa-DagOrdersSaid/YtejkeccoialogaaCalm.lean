/-
  A statement whose order is open, whose operations read and whose calls may make memory, but each yields one value whatever came ahead of it: walked once. Of no program.
-/
import Derived.Test.YtejkeccoialogaaMem
import Derived.Deep.QuietTactic
import Derived.BigQuiet
namespace Go.Proofs.Ytejkeccoialogaa
open Go.RowKit

/-- a world in which nothing that was there has turned -/
structure Calm (w : World) where
  val : World
  ok : Below w.heap.size w val

instance (w : World) : Nonempty (Calm w) := ⟨⟨w, Below.refl _ _⟩⟩

theorem wp_region_calm {P : Program} {id : Nat} {Q : Exit → Act → World → Prop} {a : Act} {w : World} {l : List Oper} (hm : P.follows .mixedOrders = true) (hB : Region.lexB .any l.toArray = true)
    (h : wpQuiet P l.toArray (fun w' => ∃ x : Calm w, w' = x.val) (fun a' => ∀ w', (∃ x : Calm w, w' = x.val) → Q .normal a' w') l a) : (Code.region id l.toArray true).wp P Q a w :=
  wp_region_quiet (C := fun w' => ∃ x : Calm w, w' = x.val) hm hB ⟨⟨_, (Below.refl _ _).drew⟩, rfl⟩ (by simpa using h)

/-- a call's contract, met in any such world -/
theorem calm_tells {P : Program} {f : FuncId} {args : Array Value} {w : World} {x : Calm w} {v : Value} (h : Calls P f args x.val (Tells x.val.heap.size x.val v)) :
    Calls P f args x.val fun e w'' => e = .returned v ∧ ∃ y : Calm w, w'' = y.val :=
  h.mono fun _ w'' ⟨he, hb⟩ => ⟨he, ⟨w'', x.ok.trans (hb.mono x.ok.size)⟩, rfl⟩
theorem calm_same {P : Program} {f : FuncId} {args : Array Value} {w : World} {x : Calm w} {v : Value} (h : Calls P f args x.val fun e w' => e = .returned v ∧ x.val = w') :
    Calls P f args x.val fun e w'' => e = .returned v ∧ ∃ y : Calm w, w'' = y.val :=
  h.mono fun _ _ ⟨he, hw⟩ => ⟨he, x, hw.symm⟩
theorem calm_drew {P : Program} {f : FuncId} {args : Array Value} {w : World} {x : Calm w} {v : Value} (h : Calls P f args x.val fun e w' => e = .returned v ∧ ∃ d, w' = x.val.drewN d) :
    Calls P f args x.val fun e w'' => e = .returned v ∧ ∃ y : Calm w, w'' = y.val :=
  h.mono fun _ w'' ⟨he, d, hw⟩ => ⟨he, ⟨w'', by rw [hw]; exact below_n x.ok d⟩, rfl⟩

end Go.Proofs.Ytejkeccoialogaa
