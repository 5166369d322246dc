/-
  The page's own walks on headers: certificates that may be, weights, a header's bytes.
-/
import Derived.Test.YtafkcofocjellaaHCopy
import Derived.Test.YtafkcofocjellaaZB
import Derived.Test.YtafkcofocjellaaZA
import Derived.BigRegion
namespace Go.Proofs.Ytafkcofocjellaa
open Go.RowKit

/-- the cells of a certificate in a block, in every later world -/
def CBox (w : World) (g : Nat) (a r : Int) (vB vP : Value) (d : Int) (vS : Value) : Prop :=
  w.cell? ⟨g, 0, none⟩ = some (.int .i64 a) ∧ w.cell? ⟨g, 1, none⟩ = some (.int .i64 r) ∧ w.cell? ⟨g, 2, none⟩ = some vB ∧ w.cell? ⟨g, 3, none⟩ = some vP ∧ w.cell? ⟨g, 4, none⟩ = some (.int .i64 d) ∧ w.cell? ⟨g, 5, none⟩ = some vS
theorem cbox_new {w w1 : World} {a r d : Int} {vB vP vS : Value} (h : w1 = w.alloc (.cells #[.int .i64 a, .int .i64 r, vB, vP, .int .i64 d, vS] 30)) : ∀ wX, Below w1.heap.size w1 wX → CBox wX w.heap.size a r vB vP d vS := by
  subst h
  intro wX hb
  have hs : w.heap.size < (w.alloc (.cells #[.int .i64 a, .int .i64 r, vB, vP, .int .i64 d, vS] 30)).heap.size := by simp
  refine ⟨(hb.cell (p := ⟨w.heap.size, 0, none⟩) hs).trans ?_, (hb.cell (p := ⟨w.heap.size, 1, none⟩) hs).trans ?_, (hb.cell (p := ⟨w.heap.size, 2, none⟩) hs).trans ?_, (hb.cell (p := ⟨w.heap.size, 3, none⟩) hs).trans ?_, (hb.cell (p := ⟨w.heap.size, 4, none⟩) hs).trans ?_, (hb.cell (p := ⟨w.heap.size, 5, none⟩) hs).trans ?_⟩
  all_goals
    rw [World.cell?_alloc_at _ _ _ _ rfl]
    rfl

set_option maxHeartbeats 2000000 in
theorem rcw_any (a r : Int) (AB : Option Addr) (cB nB : Nat) (AP : Option Addr) (cP nP : Nat) (d : Int) (AS : Option Addr) (cS nS : Nat) (w : World) (hnB : nB ≤ 140737488351232) (hnP : nP ≤ 140737488351232) (hnS : nS ≤ 140737488351232) :
    Calls Try.prog 51 #[.agg #[.int .i64 a, .int .i64 r, .slice AB nB cB, .slice AP nP cP, .int .i64 d, .slice AS nS cS]] w (Tells w.heap.size w (.int .i64 (((1 + nB + nP + nS : Nat) : Int)))) := by
  obtain ⟨w1, hw1⟩ : ∃ w1, w1 = w.alloc (.cells #[.int .i64 a, .int .i64 r, .slice AB nB cB, .slice AP nP cP, .int .i64 d, .slice AS nS cS] 30) := ⟨_, rfl⟩
  have hb1 : Below w.heap.size w w1 := by rw [hw1]; exact (Below.refl _ _).alloc (Nat.le_refl _) _
  have HC := Lib.hid (cbox_new hw1)
  obtain ⟨c0, c1, c2, c3, c4, c5⟩ := HC.out _ (Below.refl _ _)
  have HW := Lib.hid hw1
  clear hw1
  go_enter Try.func51, Try.ntmps51
  go_wp2_with fail
  rw [← HW.out]
  first
    | (go_region_with (first
        | (go_at_call 50; refine (rhw_any a r AB cB nB AP cP nP _ hnB hnP).mono ?_; rintro e w2 ⟨rfl, hb2⟩; have hx2 : Below w1.heap.size w1 w2 := (by first | exact hb2 | exact ((Below.refl _ _).drew).trans hb2); obtain ⟨e0, e1, e2, e3, e4, e5⟩ := HC.out _ hx2)))
    | fail
  all_goals
    go_wp2_with fail
    go_ret
    exact ⟨ret_int (by rw [IntWalk.i64_in _ (by omega)]; omega), hb1.trans (hx2.mono hb1.size)⟩

/-- whether it is let go; if not it weighs little -/
def HHeavy (nB nP nS nX : Nat) (w : World) (en : Ending) (w' : World) : Prop := ∃ b : Bool, en = .returned (.bool b) ∧ Below w.heap.size w w' ∧ (b = false → nB + nP + nS ≤ 499 ∧ nX ≤ 5000)
end Go.Proofs.Ytafkcofocjellaa
