/-
 The walk of 'WorkerTooks'.
-/
import Derived.WalkKit
import Derived.Below
import Derived.Deep.Draws
import Derived.Deep.AppendLies
import Derived.Lib.AppendStr
import Derived.Lib.ConvBytes
import Derived.Lib.Hide
import Derived.Test.YteepobghdpnabaaGreatRows
import Derived.WalkSpells
import Derived.WalkLawsBesides
import Derived.Deep.QuietTactic
import Derived.BigQuiet
import Derived.LoopTactic
import Derived.Outline
import Derived.Laws.StructEq
import Derived.Deep.RegionHeld3
import Derived.OneCell
import Derived.IntWalk
import Derived.ProofKit
import Derived.OpenShut
import Derived.SliceStrings
import Derived.ChangeSlices
import Derived.Deep.Slices
import Derived.Deep.Fields
import Derived.ChangeOld
import Derived.Carry
import Derived.SizedLaws
import Derived.ScopeJumps
import Derived.Deep.MidRow
import Derived.Deep.DeepCutAuto
import Derived.Deep.CutRange
import Derived.Deep.RegionLaw
import Derived.BigRegion
import Derived.Laws.Rows
import Derived.Laws.CopyRow
import Derived.Lib.AppendZerosOnto
import Derived.Lib.Overlaps
import Derived.StillTailTactics
import Derived.Laws.Externs
import Derived.Deep.CutBlock
import Derived.Maps.OwnSet
import Derived.Great.BuildSlice
import Derived.Maps.AppendAt
import Derived.Lib.MinMax
import Derived.Deep.Heap
import Derived.Test.YteepobghdpnabaaGreatKWorkerTicksa
import Derived.Test.YteepobghdpnabaaGreatKWorkerTicksb
import Derived.Test.YteepobghdpnabaaGreatKWorkerTicksc
import Derived.Test.YteepobghdpnabaaGreatKWorkerTicksd
import Derived.Test.YteepobghdpnabaaGreatKWorkerTickse
import Derived.Test.YteepobghdpnabaaGreatKWorkerTicksf
import Derived.Test.YteepobghdpnabaaGreatKWorkerTicksg
import Derived.Test.YteepobghdpnabaaGreatKWorkerTicksh
import Derived.Test.YteepobghdpnabaaGreatKWorkerTicksi
import Derived.Test.YteepobghdpnabaaGreatKWorkerTicksj
import Derived.Test.YteepobghdpnabaaGreatKWorkerTicksk
import Derived.Test.YteepobghdpnabaaGreatKWorkerTicksl
import Derived.Test.YteepobghdpnabaaGreatKWorkerTicksm
import Derived.Test.YteepobghdpnabaaGreatKWorkerTicksn
import Derived.Test.YteepobghdpnabaaGreatKWorkerTickso
import Derived.Test.YteepobghdpnabaaGreatKWorkerTicksp
import Derived.Test.YteepobghdpnabaaGreatKWorkerTicksq
import Derived.Test.YteepobghdpnabaaGreatKWorkerTicksr
import Derived.Test.YteepobghdpnabaaGreatKWorkerTickss
import Derived.Test.YteepobghdpnabaaGreatKWorkerTickst
import Derived.Test.YteepobghdpnabaaGreatKWorkerTicksu
import Derived.Test.YteepobghdpnabaaGreatKWorkerTicksv
import Derived.Test.YteepobghdpnabaaGreatKWorkerTicksw
import Derived.Test.YteepobghdpnabaaGreatKWorkerTicksx
import Derived.Test.YteepobghdpnabaaGreatKWorkerTicksy
import Derived.Test.YteepobghdpnabaaGreatKWorkerTicksz
import Derived.Test.YteepobghdpnabaaGreatKWorkerTicksaa
import Derived.Test.YteepobghdpnabaaGreatKWorkerTicksab
import Derived.Test.YteepobghdpnabaaGreatKWorkerTicksac
import Derived.Test.YteepobghdpnabaaGreatKWorkerTicksad
import Derived.Test.YteepobghdpnabaaGreatKWorkerTicksae
import Derived.Test.YteepobghdpnabaaGreatKWorkerTicksaf
import Derived.Test.YteepobghdpnabaaGreatKWorkerTicksag
import Derived.Test.YteepobghdpnabaaGreatKWorkerTicksah
import Derived.Test.YteepobghdpnabaaGreatKWorkerTicksai
import Derived.Test.YteepobghdpnabaaGreatKWorkerTicksaj
import Derived.Test.YteepobghdpnabaaGreatKWorkerTicksak
import Derived.Test.YteepobghdpnabaaGreatKWorkerTicksal
import Derived.Test.YteepobghdpnabaaGreatKWorkerTicksam
import Derived.Test.YteepobghdpnabaaGreatKWorkerTicksan
import Derived.Test.YteepobghdpnabaaGreatKWorkerTicksao
import Derived.Test.YteepobghdpnabaaGreatKWorkerTicksap
import Derived.Test.YteepobghdpnabaaGreatKWorkerTicksaq
import Derived.Test.YteepobghdpnabaaGreatKWorkerTicksar
import Derived.Test.YteepobghdpnabaaGreatHWorkerTooksa
import Derived.Test.YteepobghdpnabaaGreatHWorkerTooksd
import Derived.Test.YteepobghdpnabaaGreatHWorkerTooksc
import Derived.Test.YteepobghdpnabaaGreatHWorkerTooksb
namespace Go.Proofs.YteepobghdpnabaaGreat
open Go.RowKit

set_option maxRecDepth 100000 in
theorem workerTooks_walk (s : ScrZ) (w : World) (h : ScrIn w s) : Calls Tryz.prog 8 #[scrV s] w (Tells w.heap.size w (.bool true)) := by
 obtain ⟨w1, hw1⟩ : ∃ w1, w1 = w.alloc (.cells #[.int .i64 s.P.i, .int .i64 s.P.N, .int .i64 s.P.x, .slice s.a.O.A s.a.O.n s.a.O.c, .int .i64 s.P.g, .int .i64 s.P.c, .slice s.a.W.A s.a.W.n s.a.W.c, .slice s.a.H.A s.a.H.n s.a.H.c, .slice s.a.R.A s.a.R.n s.a.R.c, .slice s.A s.n s.c] 30) := ⟨_, rfl⟩
 have hb1 : Below w.heap.size w w1 := by rw [hw1]; exact (Below.refl _ _).alloc (Nat.le_refl _) _
 have bx1 : Box w1 w.heap.size (scrC s) := by rw [hw1]; exact box_new w (scrC s) 30
 have HW := Lib.hid hw1
 have HX := Lib.hid bx1
 have HI := Lib.hid (h.below hb1)
 clear hw1 bx1 h
 unfold scrV
 go_enter Tryz.func8, Tryz.ntmps8
 go_upto_region 1 with fail
 rw [← HW.out]
 go_wp2_with (refine wpList_load_box rfl 30 _ rfl w.heap.size rfl (scrC s) HX.out _ Tryz.underlying30 rfl size_scr ?_)
 refine (only_is 9 (by decide) (by decide +kernel) (fun P a x w h hg hx hf hr => step_9 0 P a x w h hg (by decide) hx hf hr) s _ HI.out).mono ?_
 rintro e w2 ⟨rfl, hq2⟩
 go_wp2_with fail
 go_ret
 exact ⟨rfl, hb1.trans (hq2.mono hb1.size)⟩

end Go.Proofs.YteepobghdpnabaaGreat
namespace Go.Proofs.YteepobghdpnabaaGreat
open Go.RowKit

theorem backL_snoc : ∀ (R l b : List Int) (d : Int), backL R (l ++ [d]) b = if digB d = true ∧ d ∉ R ∧ d ∉ backL R l b then backL R l b ++ [d] else backL R l b
 | _, [], _, _ => rfl
 | R, x :: r, b, d => by
  rw [List.cons_append, backL, backL]
  exact backL_snoc R r _ d
theorem backL_next {R l : List Int} {k : Nat} {d : Int} (h : l[k]? = some d) : backL R (l.take (k + 1)) [] = if digB d = true ∧ d ∉ R ∧ d ∉ backL R (l.take k) [] then backL R (l.take k) [] ++ [d] else backL R (l.take k) [] := by
 rw [take_nxt h, backL_snoc]
structure BL (D b : Nat) (w : World) (R l : List Int) (o : Ad) (k m : Nat) (wr : World) : Prop where
 row : wr.ownsRow D 3 1 o.v o.n (i64s (backL R (l.take k) []))
 len : (backL R (l.take k) []).length = o.n
 set : SetIs wr b m (R ++ backL R (l.take k) [])
 bel : Below D w wr
 bD : D ≤ b
section
variable {D b k m : Nat} {w wr w1 w2 : World} {R l : List Int} {o o' : Ad} {d : Int}
theorem BL.below (h : BL D b w R l o k m wr) (hb : Below wr.heap.size wr w1) (hD : D ≤ wr.heap.size) : BL D b w R l o k m w1 :=
 ⟨ownS_below h.row hb, h.len, h.set.below hb, h.bel.trans (hb.mono hD), h.bD⟩
theorem BL.skip (h : BL D b w R l o k m wr) (hd : l[k]? = some d) (hn : ¬ (digB d = true ∧ d ∉ R ∧ d ∉ backL R (l.take k) [])) : BL D b w R l o (k + 1) m wr := by
 have e := backL_next (R := R) hd
 rw [if_neg hn] at e
 exact ⟨by rw [e]; exact h.row, by rw [e]; exact h.len, by rw [e]; exact h.set, h.bel, h.bD⟩
theorem BL.apart (h : BL D b w R l o k m wr) : ∀ j, o.v.ownBlock = some j → j ≠ b := fun j hj e => by
 subst e
 obtain ⟨D', ⟨es, clock, hmp, _⟩, _⟩ := h.set
 obtain ⟨cur, hcur⟩ := own_typeZ h.row hj
 rw [hmp] at hcur
 cases hcur
theorem BL.push (h : BL D b w R l o k m wr) (hD : D ≤ wr.heap.size) (hd : l[k]? = some d) (h1 : digB d = true) (h2 : d ∉ R) (h3 : d ∉ backL R (l.take k) []) (hg : wr.grownBy w1 (some b)) (hs : SetIs w1 b (m + 1) ((R ++ backL R (l.take k) []) ++ [d])) {ob : Obj}
  (ho : w2.ownsRow D 3 1 o'.v o'.n (i64s (backL R (l.take k) []) ++ [.int .i64 d])) (hg2 : (w1.alloc ob).grownBy w2 o.v.ownBlock) (hn : o'.n = o.n + 1) : BL D b w R l o' (k + 1) (m + 1) w2 := by
 have e := backL_next (R := R) hd
 rw [if_pos ⟨h1, h2, h3⟩] at e
 have T1 : Touch (fun j => j = b) wr w1 := Touch.grown hg fun j hj => by cases hj; rfl
 have hT : Touch (fun j => o.v.ownBlock = some j) w1 w2 := ((Touch.refl (fun j => o.v.ownBlock = some j) w1).alloc ob).on (Touch.grown hg2 fun j hj => hj)
 have hsz := T1.size
 refine ⟨by rw [e, i64s_append]; exact ho, by rw [e, List.length_append, h.len, hn]; rfl, ?_, (h.bel.trans (T1.below (fun j hj => by have := h.bD; omega) hD)).trans (hT.below (fun j hj => (own_lt h.row hj).2) (by omega)), h.bD⟩
 rw [e, ← List.append_assoc]
 exact hs.block (hT.block b hs.lt fun hf => h.apart b hf rfl)
end

end Go.Proofs.YteepobghdpnabaaGreat
namespace Go.Proofs.YteepobghdpnabaaGreat
open Go.RowKit

def StTo2 (Q : WkD) (l : List OtD) (E : Int) (w : World) (e : Ending) (w' : World) : Prop := ∃ s : Nat, e = .returned (.tuple #[.pointer (some ⟨s, 0, none⟩), .int .i64 E]) ∧ ((E ≠ 0 ∧ Below w.heap.size w w') ∨ (∃ (B : Nat) (a : WkA) (o : Ad) (ms : List (OtD × Ad)), w.heap.size ≤ B ∧ StAt s B w' Q a l o ms ∧ Below w.heap.size w w'))
end Go.Proofs.YteepobghdpnabaaGreat
namespace Go.Proofs.YteepobghdpnabaaGreat
open Go.RowKit

def StOk (Q : WkD) (l : List OtD) (w : World) (e : Ending) (w' : World) : Prop := ∃ (s B : Nat) (a : WkA) (o : Ad) (ms : List (OtD × Ad)), e = .returned (.tuple #[.pointer (some ⟨s, 0, none⟩), .int .i64 0]) ∧ w.heap.size ≤ B ∧ StAt s B w' Q a l o ms ∧ Below w.heap.size w w'
def StNo (E : Int) (w : World) (e : Ending) (w' : World) : Prop := ∃ s : Nat, e = .returned (.tuple #[.pointer (some ⟨s, 0, none⟩), .int .i64 E]) ∧ Below w.heap.size w w'
theorem StTo2.ok {Q : WkD} {l : List OtD} {w : World} {e : Ending} {w' : World} (h : StTo2 Q l 0 w e w') : StOk Q l w e w' := by
 obtain ⟨s, he, h | ⟨B, a, o, ms, hB, hst, hb⟩⟩ := h
 ·exact absurd rfl h.1
 ·exact ⟨s, B, a, o, ms, he, hB, hst, hb⟩
theorem StTo2.no {Q : WkD} {l : List OtD} {E : Int} {w : World} {e : Ending} {w' : World} (h : StTo2 Q l E w e w') : StNo E w e w' := by
 obtain ⟨s, he, h | ⟨B, a, o, ms, hB, hst, hb⟩⟩ := h
 ·exact ⟨s, he, h.2⟩
 ·exact ⟨s, he, hb⟩

end Go.Proofs.YteepobghdpnabaaGreat
namespace Go.Proofs.YteepobghdpnabaaGreat
open Go.RowKit Go

section
variable {α : Type} {K : Kd α} {w w1 w2 : World} {a a' o : Ad} {ms : List (α × Ad)} {B : Nat}
end
section
variable {g B : Nat} {w w' : World} {P : WkD} {a : WkA} {l : List OtD} {o ao : Ad} {ms : List (OtD × Ad)} {L : List TxD}
theorem StAt.setO (h : StAt g B w P a l o ms) (hb : Box w' g (wkC { P with O := L } { a with O := ao } ++ [o.v])) (ht : Touch (fun k => k = g) w w') (hS : SlIn w ao L.length (txs L)) (hat : ∀ k, ao.at_ k → a.O.at_ k) : StAt g B w' { P with O := L } { a with O := ao } l o ms := by
 have hc := h.pg.core.touch ht (fun k hk ho => h.far0 k (.inl ho) hk)
 have hfa : ∀ k, ao.at_ k → k ≠ g := fun k hk => h.far0 k (.inr (.inl (hat k hk)))
 refine ⟨hb, ⟨⟨hc.waits, hc.eW, hc.held, hc.eH, hc.ready, hc.rL, hc.apR⟩, hS.touch ht (fun x hx hf => hfa _ ⟨x, hx, rfl⟩ hf), fun x hx => ?_⟩, h.out.touch ht (fun k hk hf => h.far0 k (.inr (.inr (.inl hk))) hf) (fun y hy k hk hf => h.far0 k (.inr (.inr (.inr ⟨y, hy, hk⟩))) hf), h.eO, ?_, h.ap, h.gB, by have := h.le; have := ht.size; omega⟩
 ·obtain ⟨x', hx', hxb⟩ := hat x.block ⟨x, hx, rfl⟩
  obtain ⟨cur, hcur⟩ := h.pg.typ x' hx'
  rw [hxb] at hcur
  exact ⟨cur, (ht.block _ (lt_of_block hcur) (hfa _ ⟨x, hx, rfl⟩)).trans hcur⟩
 ·rintro k (hk | hk | hk)
  ·exact h.far0 k (.inl hk)
  ·exact hfa k hk
  ·exact h.far0 k (.inr (.inr hk))
end
end Go.Proofs.YteepobghdpnabaaGreat
