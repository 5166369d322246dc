/-
  Numbers in memory, the cells of a header and of a certificate: what the texts on package header say of them.
-/
import Derived.Test.YtejkeccoialogaaHValid
import Derived.Test.YtejkeccoialogaaFoot
namespace Go.Proofs.Ytejkeccoialogaa
open Go.RowKit

/-- the cells of a certificate in a block, in every later world -/
def CBox (w : World) (g : Nat) (a r : Int) (vB vP : Value) (d : Int) (vS : Value) : Prop :=
  w.cell? ⟨g, 0, none⟩ = some (.int .i64 a) ∧ w.cell? ⟨g, 1, none⟩ = some (.int .i64 r) ∧ w.cell? ⟨g, 2, none⟩ = some vB ∧ w.cell? ⟨g, 3, none⟩ = some vP ∧ w.cell? ⟨g, 4, none⟩ = some (.int .i64 d) ∧ w.cell? ⟨g, 5, none⟩ = some vS
theorem cbox_new {w w1 : World} {a r d : Int} {vB vP vS : Value} (h : w1 = w.alloc (.cells #[.int .i64 a, .int .i64 r, vB, vP, .int .i64 d, vS] 37)) : ∀ wX, Below w1.heap.size w1 wX → CBox wX w.heap.size a r vB vP d vS := by
  subst h
  intro wX hb
  have hs : w.heap.size < (w.alloc (.cells #[.int .i64 a, .int .i64 r, vB, vP, .int .i64 d, vS] 37)).heap.size := by simp
  refine ⟨(hb.cell (p := ⟨w.heap.size, 0, none⟩) hs).trans ?_, (hb.cell (p := ⟨w.heap.size, 1, none⟩) hs).trans ?_, (hb.cell (p := ⟨w.heap.size, 2, none⟩) hs).trans ?_, (hb.cell (p := ⟨w.heap.size, 3, none⟩) hs).trans ?_, (hb.cell (p := ⟨w.heap.size, 4, none⟩) hs).trans ?_, (hb.cell (p := ⟨w.heap.size, 5, none⟩) hs).trans ?_⟩
  all_goals
    rw [World.cell?_alloc_at _ _ _ _ rfl]
    rfl

def I64 (x : Int) : Prop := -9223372036854775808 ≤ x ∧ x ≤ 9223372036854775807
def I64s (l : List Int) : Prop := ∀ x ∈ l, I64 x

/-- numbers in a slice -/
structure NumsIn (w : World) (A : Option Addr) (c n : Nat) (l : List Int) : Prop where
  hz : l.length = n
  hr : Rd w A (i64s l)
  hc : n ≤ c
  hm : c ≤ maxLen
  hi : I64s l
theorem NumsIn.below {w w' : World} {A : Option Addr} {c n : Nat} {l : List Int} (h : NumsIn w A c n l) (hb : Below w.heap.size w w') : NumsIn w' A c n l := ⟨h.hz, h.hr.below hb, h.hc, h.hm, h.hi⟩
theorem NumsIn.own {w : World} {B : Nat} {A : Option Addr} {c n : Nat} {l : List Int} (h : w.ownsRow B 3 1 (.slice A n c) n (i64s l)) (hi : I64s l) : NumsIn w A c n l := by
  obtain ⟨A', c', hv, hc, hm, hr, _, hl⟩ := own_val h
  cases hv
  exact ⟨by rw [← hl, i64s_length], hr, hc, hm, hi⟩

/-- a header's two lists -/
structure HdrIn (w : World) (AB : Option Addr) (cB nB : Nat) (B : List Int) (AP : Option Addr) (cP nP : Nat) (P : List Int) : Prop where
  hB : NumsIn w AB cB nB B
  hP : NumsIn w AP cP nP P
  lB : nB ≤ 1000000
  lP : nP ≤ 1000000
theorem HdrIn.below {w w' : World} {AB AP : Option Addr} {cB nB cP nP : Nat} {B P : List Int} (h : HdrIn w AB cB nB B AP cP nP P) (hb : Below w.heap.size w w') : HdrIn w' AB cB nB B AP cP nP P := ⟨h.hB.below hb, h.hP.below hb, h.lB, h.lP⟩

/-- the cells of a new header's block, in every later world -/
def HBox (w : World) (g : Nat) (a r : Int) (vB vP : Value) : Prop :=
  w.cell? ⟨g, 0, none⟩ = some (.int .i64 a) ∧ w.cell? ⟨g, 1, none⟩ = some (.int .i64 r) ∧ w.cell? ⟨g, 2, none⟩ = some vB ∧ w.cell? ⟨g, 3, none⟩ = some vP
theorem hbox_new {w w1 : World} {a r : Int} {vB vP : Value} (h : w1 = w.alloc (.cells #[.int .i64 a, .int .i64 r, vB, vP] 35)) : ∀ wX, Below w1.heap.size w1 wX → HBox wX w.heap.size a r vB vP := by
  subst h
  intro wX hb
  have hs : w.heap.size < (w.alloc (.cells #[.int .i64 a, .int .i64 r, vB, vP] 35)).heap.size := by simp
  refine ⟨(hb.cell (p := ⟨w.heap.size, 0, none⟩) hs).trans ?_, (hb.cell (p := ⟨w.heap.size, 1, none⟩) hs).trans ?_, (hb.cell (p := ⟨w.heap.size, 2, none⟩) hs).trans ?_, (hb.cell (p := ⟨w.heap.size, 3, none⟩) hs).trans ?_⟩
  all_goals
    rw [World.cell?_alloc_at _ _ _ _ rfl]
    rfl

end Go.Proofs.Ytejkeccoialogaa
