/-
 A worker as plain data, and what the page says of it.
-/
import Derived.WalkKit
import Derived.Below
import Derived.Deep.Draws
import Derived.Deep.AppendLies
import Derived.Lib.AppendStr
import Derived.Lib.ConvBytes
import Derived.Lib.Hide
import Derived.Test.YteepobghdpnabaaGreatRows
import Derived.WalkSpells
import Derived.WalkLawsBesides
import Derived.Deep.QuietTactic
import Derived.BigQuiet
import Derived.LoopTactic
import Derived.Outline
import Derived.Laws.StructEq
import Derived.Deep.RegionHeld3
import Derived.OneCell
import Derived.IntWalk
import Derived.ProofKit
import Derived.OpenShut
import Derived.SliceStrings
import Derived.ChangeSlices
import Derived.Deep.Slices
import Derived.Deep.Fields
import Derived.ChangeOld
import Derived.Carry
import Derived.SizedLaws
import Derived.ScopeJumps
import Derived.Deep.MidRow
import Derived.Deep.DeepCutAuto
import Derived.Deep.CutRange
import Derived.Deep.RegionLaw
import Derived.BigRegion
import Derived.Laws.Rows
import Derived.Laws.CopyRow
import Derived.Lib.AppendZerosOnto
import Derived.Lib.Overlaps
import Derived.StillTailTactics
import Derived.Laws.Externs
import Derived.Deep.CutBlock
import Derived.Maps.OwnSet
import Derived.Great.BuildSlice
import Derived.Maps.AppendAt
import Derived.Deep.Heap
import Derived.Lib.MinMax
import Derived.Test.YteepobghdpnabaaGreatKWorkerTicksa
import Derived.Test.YteepobghdpnabaaGreatKWorkerTicksb
import Derived.Test.YteepobghdpnabaaGreatKWorkerTicksc
import Derived.Test.YteepobghdpnabaaGreatKWorkerTicksd
import Derived.Test.YteepobghdpnabaaGreatKWorkerTickse
import Derived.Test.YteepobghdpnabaaGreatKWorkerTicksf
import Derived.Test.YteepobghdpnabaaGreatKWorkerTicksg
import Derived.Test.YteepobghdpnabaaGreatKWorkerTicksh
import Derived.Test.YteepobghdpnabaaGreatKWorkerTicksi
import Derived.Test.YteepobghdpnabaaGreatKWorkerTicksj
import Derived.Test.YteepobghdpnabaaGreatKWorkerTicksk
import Derived.Test.YteepobghdpnabaaGreatKWorkerTicksl
import Derived.Test.YteepobghdpnabaaGreatKWorkerTicksm
import Derived.Test.YteepobghdpnabaaGreatKWorkerTicksn
import Derived.Test.YteepobghdpnabaaGreatKWorkerTickso
import Derived.Test.YteepobghdpnabaaGreatKWorkerTicksp
import Derived.Test.YteepobghdpnabaaGreatKWorkerTicksq
import Derived.Test.YteepobghdpnabaaGreatKWorkerTicksr
import Derived.Test.YteepobghdpnabaaGreatKWorkerTickss
import Derived.Test.YteepobghdpnabaaGreatKWorkerTickst
import Derived.Test.YteepobghdpnabaaGreatKWorkerTicksu
import Derived.Test.YteepobghdpnabaaGreatKWorkerTicksv
import Derived.Test.YteepobghdpnabaaGreatKWorkerTicksw
import Derived.Test.YteepobghdpnabaaGreatKWorkerTicksx
import Derived.Test.YteepobghdpnabaaGreatKWorkerTicksy
import Derived.Test.YteepobghdpnabaaGreatKWorkerTicksz
import Derived.Test.YteepobghdpnabaaGreatKWorkerTicksaa
import Derived.Test.YteepobghdpnabaaGreatKWorkerTicksab
import Derived.Test.YteepobghdpnabaaGreatKWorkerTicksac
import Derived.Test.YteepobghdpnabaaGreatKWorkerTicksad
import Derived.Test.YteepobghdpnabaaGreatKWorkerTicksae
import Derived.Test.YteepobghdpnabaaGreatKWorkerTicksaf
import Derived.Test.YteepobghdpnabaaGreatKWorkerTicksag
import Derived.Test.YteepobghdpnabaaGreatKWorkerTicksah
import Derived.Test.YteepobghdpnabaaGreatKWorkerTicksai
import Derived.Test.YteepobghdpnabaaGreatKWorkerTicksaj
import Derived.Test.YteepobghdpnabaaGreatKWorkerTicksak
import Derived.Test.YteepobghdpnabaaGreatKWorkerTicksal
import Derived.Test.YteepobghdpnabaaGreatKWorkerTicksam
import Derived.Test.YteepobghdpnabaaGreatKWorkerTicksan
import Derived.Test.YteepobghdpnabaaGreatKWorkerTicksao
import Derived.Test.YteepobghdpnabaaGreatKWorkerTicksap
import Derived.Test.YteepobghdpnabaaGreatKWorkerTicksaq
import Derived.Test.YteepobghdpnabaaGreatKWorkerTicksar
namespace Go.Proofs.YteepobghdpnabaaGreat
open Go.RowKit

/-! ### where a number stands in a rising list -/
/-! ### a worker that may be -/
/-! ### what is done -/
def backL (R : List Int) : List Int → List Int → List Int
 | [], b => b
 | d :: r, b => backL R r (if digB d = true ∧ d ∉ R ∧ d ∉ b then b ++ [d] else b)
def backW (P : WkD) (l : List Int) : WkD := { P with R := backL P.R l [] ++ P.R }
end Go.Proofs.YteepobghdpnabaaGreat
namespace Go.Proofs.YteepobghdpnabaaGreat
open Go.RowKit

theorem backL_lenL : ∀ (R l b : List Int), (backL R l b).length ≤ b.length + l.length
 | R, [], b => by simp [backL]
 | R, d :: r, b => by
  rw [backL]
  split
  ·have := backL_lenL R r (b ++ [d])
   rw [List.length_append] at this
   simp at this ⊢
   omega
  ·have := backL_lenL R r b
   simp
   omega
theorem Grown.back {k : Nat} {P : WkD} (h : Grown k P) (l : List Int) (hl : l.length ≤ 12000) : Grown (k + 1) (backW P l) :=
 ⟨by have := h.o; show P.O.length ≤ _; omega, by have := h.w; show P.W.length ≤ _; omega, by have := h.h; show P.H.length ≤ _; omega, by
  have := h.r
  have h1 := backL_lenL P.R l []
  show (backL P.R l [] ++ P.R).length + P.W.length ≤ _
  rw [List.length_append]
  simp at h1
  omega, fun x hx => by have := h.s x hx; omega, h.l⟩
/-! ### what is handed out -/
/-! ### a step stands while only one block of another sort turns -/
end Go.Proofs.YteepobghdpnabaaGreat
namespace Go.Proofs.YteepobghdpnabaaGreat
open Go.RowKit

theorem st_box {s B : Nat} {w : World} {Q : WkD} {a : WkA} (hbx : Box w s (wkC Q a ++ [noAd.v])) (hn : WNew B w Q a) (hs : s < B) : StAt s s w Q a [] noAd [] := by
  refine ⟨hbx, (hn.more (by omega)).pg, rowOwn_none _ _, rfl, ?_, fun y hy => by simp at hy, Nat.le_refl _, by have := hbx.1; omega⟩
  rintro k (hk | ⟨x, hx, hk⟩ | hk | ⟨y, hy, hk⟩)
  · have := (hn.core.lt hk).2; omega
  · have h1 : a.O.v.ownBlock = some x.block := by rw [Ad.v, hx]; rfl
    have := (own_lt hn.open_ h1).2
    omega
  · simp [noAd, Ad.v, Value.ownBlock] at hk
  · simp at hy
end Go.Proofs.YteepobghdpnabaaGreat
namespace Go.Proofs.YteepobghdpnabaaGreat
open Go.RowKit Go.Deep

def outOf (L l : List Int) : List Int := l.filter fun d => decide (d ∉ L)
theorem outOf_take {L l : List Int} {k : Nat} {d : Int} (h : l[k]? = some d) : outOf L (l.take (k + 1)) = outOf L (l.take k) ++ (if d ∈ L then [] else [d]) := by
 unfold outOf
 rw [take_nxt h, List.filter_append]
 congr 1
 by_cases hd : d ∈ L
 ·simp [hd]
 ·simp [hd]
structure DF (B g n cap b mS p q : Nat) (l L ys : List Int) (w wr : World) : Prop where
 own : wr.ownsRow B 3 1 (.slice (some ⟨g, 0, none⟩) n cap) n (i64s ys)
 len : ys.length = n
 low : ys.take p = outOf L (l.take q)
 high : ∀ j, q ≤ j → ys[j]? = l[j]?
 set : SetIs wr b mS L
 lt : p < q
 touch : Touch (fun k => k = g) w wr
section
variable {B g n cap b mS p q : Nat} {l L ys : List Int} {w wr w' : World}
theorem DF.below (h : DF B g n cap b mS p q l L ys w wr) (hb : Below wr.heap.size wr w') : DF B g n cap b mS p q l L ys w w' :=
 ⟨ownS_below h.own hb, h.len, h.low, h.high, h.set.below hb, h.lt, h.touch.then hb⟩
theorem DF.skip {y : Int} (h : DF B g n cap b mS p q l L ys w wr) (hy : l[q]? = some y) (hi : y ∈ L) : DF B g n cap b mS p (q + 1) l L ys w wr :=
 ⟨h.own, h.len, by rw [h.low, outOf_take hy, if_pos hi, List.append_nil], fun j hj => h.high j (by omega), h.set, by have := h.lt; omega, h.touch⟩
theorem DF.keep {y : Int} (h : DF B g n cap b mS p q l L ys w wr) (hq : q < n) (hg : g ≠ b) (hy : l[q]? = some y) (hi : y ∉ L) : DF B g n cap b mS (p + 1) (q + 1) l L (ys.set p y) w (wr.setCell ⟨g, p, none⟩ (.int .i64 y)) := by
  have hlt := h.lt
  obtain ⟨s1, s2⟩ := h.own.stored p (.int .i64 y)
  refine ⟨by rw [show i64s (ys.set p y) = (i64s ys).set p (.int .i64 y) from by simp [i64s, List.map_set]]; exact s1, by rw [List.length_set]; exact h.len, ?_, fun j hj => by rw [List.getElem?_set_ne (by omega)]; exact h.high j (by omega), ?_, by omega, h.touch.set (.inl rfl) _⟩
  · have e : (ys.set p y).take (p + 1) = ys.take p ++ [y] := by
      apply List.ext_getElem?
      intro j
      simp only [List.getElem?_take, List.getElem?_set, List.getElem?_append, List.length_take, h.len]
      rcases Nat.lt_trichotomy j p with h1 | h1 | h1
      · rw [if_pos (by omega), if_neg (by omega), if_pos (by omega), if_pos h1]
      · subst h1
        rw [if_pos (by omega), if_pos rfl, if_pos (by omega), if_neg (by omega), Nat.min_eq_left (by omega), Nat.sub_self]
        rfl
      · rw [if_neg (by omega), if_neg (by omega), Nat.min_eq_left (by omega)]
        rw [List.getElem?_eq_none (by simp; omega)]
    rw [e, h.low, outOf_take hy, if_neg hi]
  · exact h.set.block (blk_setCell_other _ _ _ _ (Ne.symm hg))
end

end Go.Proofs.YteepobghdpnabaaGreat
namespace Go.Proofs.YteepobghdpnabaaGreat
open Go.RowKit

theorem digB_of_bet {l : List Int} (h : betB 1 65536 l = true) {j : Nat} {y : Int} (hj : l[j]? = some y) : digB y = true := by
 have := betB_iff.1 h
 exact decide_eq_true (this y (List.mem_of_getElem? hj))
end Go.Proofs.YteepobghdpnabaaGreat
namespace Go.Proofs.YteepobghdpnabaaGreat
open Go.RowKit

structure TR (D x : Nat) (P : WkD) (a : WkA) (l : List Int) (w : World) (o : Ad) (k : Nat) (wr : World) : Prop where
 box : Box wr x (wkC { P with R := outOf l (P.R.take k) } { a with R := o })
 row : wr.ownsRow D 3 1 o.v o.n (i64s (outOf l (P.R.take k)))
 len : (outOf l (P.R.take k)).length = o.n
 keep : WNew D wr P a
 bel : Below D w wr
 oD : ∀ j, o.v.ownBlock = some j → w.heap.size ≤ j
 wsz : w.heap.size ≤ wr.heap.size
section
variable {D x k : Nat} {P : WkD} {a : WkA} {l : List Int} {w wr w1 w2 : World} {o o' : Ad} {y : Int}
theorem TR.below (h : TR D x P a l w o k wr) (hb : Below wr.heap.size wr w1) (hD : D ≤ w.heap.size) : TR D x P a l w o k w1 :=
 ⟨h.box.below hb h.box.1, ownS_below h.row hb, h.len, h.keep.below hb, h.bel.trans (hb.mono (Nat.le_trans hD h.wsz)), h.oD, Nat.le_trans h.wsz hb.size⟩
theorem TR.skip (h : TR D x P a l w o k wr) (hy : P.R[k]? = some y) (hm : y ∈ l) : TR D x P a l w o (k + 1) wr := by
 have e : outOf l (P.R.take (k + 1)) = outOf l (P.R.take k) := by rw [outOf_take hy, if_pos hm, List.append_nil]
 exact ⟨by rw [e]; exact h.box, by rw [e]; exact h.row, by rw [e]; exact h.len, h.keep, h.bel, h.oD, h.wsz⟩
theorem TR.more (h : TR D x P a l w o k wr) (hx : x < w.heap.size) (hy : P.R[k]? = some y) (hm : y ∉ l) (hg : wr.grownBy w2 o.v.ownBlock) (ho : w2.ownsRow D 3 1 o'.v o'.n (i64s (outOf l (P.R.take k)) ++ [.int .i64 y])) (hn : o'.n = o.n + 1)
  (hat : o.v.ownBlock = o'.v.ownBlock ∨ o'.v.ownBlock = some wr.heap.size) (hD : D ≤ x) (hfar : ∀ j, w.heap.size ≤ j → ¬ a.owns j ∧ a.O.v.ownBlock ≠ some j) (hxo : ¬ a.owns x ∧ a.O.v.ownBlock ≠ some x) : TR D x P a l w o' (k + 1) (w2.setCell ⟨x, 8, none⟩ o'.v) := by
 have hT : Touch (fun j => o.v.ownBlock = some j) wr w2 := Touch.grown hg fun j hj => hj
 have Tg : Touch (fun j => j = x) w2 (w2.setCell ⟨x, 8, none⟩ o'.v) := (Touch.refl (fun j => j = x) w2).set (.inl rfl) o'.v
 have e : outOf l (P.R.take (k + 1)) = outOf l (P.R.take k) ++ [y] := by rw [outOf_take hy, if_neg hm]
 have hblk : ∀ j, o'.v.ownBlock = some j → w.heap.size ≤ j := fun j hj => by
  rcases hat with e | e
  ·exact h.oD j (e.trans hj)
  ·rw [e] at hj; cases hj; exact h.wsz
 have hbx := (h.box.touch hT fun hf => by have := h.oD x hf; omega).set (j := 8) (u := o'.v) (show 8 < 9 by decide)
 have hs1 := hT.size
 have hs2 := Tg.size
 have hw := h.wsz
 have hxl := h.box.1
 refine ⟨by rw [e]; exact hbx, by rw [e, i64s_append]; exact own_kept ho fun j hj hl => Tg.block j hl (by have := hblk j hj; omega), by rw [e, List.length_append, h.len, hn]; rfl,
  (h.keep.touch hT (fun j hj => (hfar j (h.oD j hj)).1) (fun j hj => (hfar j (h.oD j hj)).2)).touch Tg (fun j hj => by rw [hj]; exact hxo.1) (fun j hj => by rw [hj]; exact hxo.2), (h.bel.trans (hT.below (fun j hj => by have := h.oD j hj; omega) (by omega))).trans (Tg.below (fun j hj => by omega) (by omega)), hblk, by omega⟩
end

end Go.Proofs.YteepobghdpnabaaGreat
namespace Go.Proofs.YteepobghdpnabaaGreat
open Go.RowKit

theorem backL_len : ∀ (R l b : List Int), (backL R l b).length ≤ l.length + b.length
 | _, [], b => by simp [backL]
 | R, d :: r, b => by
  rw [backL]
  have := backL_len R r (if digB d = true ∧ d ∉ R ∧ d ∉ b then b ++ [d] else b)
  split at this
  ·rename_i h
   rw [if_pos h]
   simp only [List.length_append, List.length_cons, List.length_nil] at this ⊢
   omega
  ·rename_i h
   rw [if_neg h]
   simp only [List.length_cons]
   omega
theorem backL_snoc : ∀ (R l b : List Int) (d : Int), backL R (l ++ [d]) b = if digB d = true ∧ d ∉ R ∧ d ∉ backL R l b then backL R l b ++ [d] else backL R l b
 | _, [], _, _ => rfl
 | R, x :: r, b, d => by
  rw [List.cons_append, backL, backL]
  exact backL_snoc R r _ d
theorem backL_next {R l : List Int} {k : Nat} {d : Int} (h : l[k]? = some d) : backL R (l.take (k + 1)) [] = if digB d = true ∧ d ∉ R ∧ d ∉ backL R (l.take k) [] then backL R (l.take k) [] ++ [d] else backL R (l.take k) [] := by
 rw [take_nxt h, backL_snoc]
structure BL (D b : Nat) (w : World) (R l : List Int) (o : Ad) (k m : Nat) (wr : World) : Prop where
 row : wr.ownsRow D 3 1 o.v o.n (i64s (backL R (l.take k) []))
 len : (backL R (l.take k) []).length = o.n
 set : SetIs wr b m (R ++ backL R (l.take k) [])
 bel : Below D w wr
 bD : D ≤ b
section
variable {D b k m : Nat} {w wr w1 w2 : World} {R l : List Int} {o o' : Ad} {d : Int}
theorem BL.below (h : BL D b w R l o k m wr) (hb : Below wr.heap.size wr w1) (hD : D ≤ wr.heap.size) : BL D b w R l o k m w1 :=
 ⟨ownS_below h.row hb, h.len, h.set.below hb, h.bel.trans (hb.mono hD), h.bD⟩
theorem BL.skip (h : BL D b w R l o k m wr) (hd : l[k]? = some d) (hn : ¬ (digB d = true ∧ d ∉ R ∧ d ∉ backL R (l.take k) [])) : BL D b w R l o (k + 1) m wr := by
 have e := backL_next (R := R) hd
 rw [if_neg hn] at e
 exact ⟨by rw [e]; exact h.row, by rw [e]; exact h.len, by rw [e]; exact h.set, h.bel, h.bD⟩
theorem BL.apart (h : BL D b w R l o k m wr) : ∀ j, o.v.ownBlock = some j → j ≠ b := fun j hj e => by
 subst e
 obtain ⟨D', ⟨es, clock, hmp, _⟩, _⟩ := h.set
 obtain ⟨cur, hcur⟩ := own_typeZ h.row hj
 rw [hmp] at hcur
 cases hcur
theorem BL.row8 (h : BL D b w R l o k m wr) (hg : wr.grownBy w1 (some b)) : w1.ownsRow D 3 1 (.slice o.A o.n o.c) o.n (i64s (backL R (l.take k) [])) :=
 own_kept h.row fun j hj hl => hg.block j hl fun e => h.apart j hj (by cases e; rfl)
theorem BL.push (h : BL D b w R l o k m wr) (hD : D ≤ wr.heap.size) (hd : l[k]? = some d) (h1 : digB d = true) (h2 : d ∉ R) (h3 : d ∉ backL R (l.take k) []) (hg : wr.grownBy w1 (some b)) (hs : SetIs w1 b (m + 1) ((R ++ backL R (l.take k) []) ++ [d])) {ob : Obj}
  (ho : w2.ownsRow D 3 1 o'.v o'.n (i64s (backL R (l.take k) []) ++ [.int .i64 d])) (hg2 : (w1.alloc ob).grownBy w2 o.v.ownBlock) (hn : o'.n = o.n + 1) : BL D b w R l o' (k + 1) (m + 1) w2 := by
 have e := backL_next (R := R) hd
 rw [if_pos ⟨h1, h2, h3⟩] at e
 have T1 : Touch (fun j => j = b) wr w1 := Touch.grown hg fun j hj => by cases hj; rfl
 have hT : Touch (fun j => o.v.ownBlock = some j) w1 w2 := ((Touch.refl (fun j => o.v.ownBlock = some j) w1).alloc ob).on (Touch.grown hg2 fun j hj => hj)
 have hsz := T1.size
 refine ⟨by rw [e, i64s_append]; exact ho, by rw [e, List.length_append, h.len, hn]; rfl, ?_, (h.bel.trans (T1.below (fun j hj => by have := h.bD; omega) hD)).trans (hT.below (fun j hj => (own_lt h.row hj).2) (by omega)), h.bD⟩
 rw [e, ← List.append_assoc]
 exact hs.block (hT.block b hs.lt fun hf => h.apart b hf rfl)
end

set_option maxRecDepth 100000 in
set_option maxHeartbeats 16000000 in
theorem back_no (P : WkD) (a : WkA) (AL : Option Addr) (nL cL : Nat) (l : List Int) (w : World) (h : WIn w P a) (hl : SlIn w ⟨AL, nL, cL⟩ l.length (i64s l)) (hf : WFew P 300000) (hmay : mayW P = false) : Calls Tryz.prog 64 #[wkV P a, .slice AL nL cL] w (Ret2 (orW (ifMay P 0) (backW P l)) (ifMay P 0) w) := by
 obtain ⟨g, hg⟩ : ∃ g, g = w.heap.size := ⟨_, rfl⟩
 obtain ⟨wa0, hwa0⟩ : ∃ wa0, wa0 = w.alloc (.cells #[.int .i64 P.i, .int .i64 P.N, .int .i64 P.x, .slice a.O.A a.O.n a.O.c, .int .i64 P.g, .int .i64 P.c, .slice a.W.A a.W.n a.W.c, .slice a.H.A a.H.n a.H.c, .slice a.R.A a.R.n a.R.c] 27) := ⟨_, rfl⟩
 have hs0 : wa0.heap.size = g + 1 := by rw [hwa0]; simp; omega
 have bn0 : Box wa0 (g) (wkC P a) := by rw [hwa0, hg]; exact box_new w (wkC P a) 27
 have hb0 : Below g w wa0 := by rw [hwa0]; exact (Below.refl _ _).alloc (by omega) _
 obtain ⟨wa1, hwa1⟩ : ∃ wa1, wa1 = wa0.alloc (.cells #[.int .i64 0, .int .i64 0, .int .i64 0, .slice none 0 0, .int .i64 0, .int .i64 0, .slice none 0 0, .slice none 0 0, .slice none 0 0] 27) := ⟨_, rfl⟩
 have hs1 : wa1.heap.size = g + 2 := by rw [hwa1]; simp; omega
 have bn1 : Box wa1 (g + 1) (zeroC) := by rw [hwa1, ← hs0]; exact box_new wa0 (zeroC) 27
 have hb1 : Below g w wa1 := by rw [hwa1]; exact hb0.alloc (by omega) _
 have HX0 : Hid (Box wa1 (g) (wkC P a)) := (bn0.below (show Below wa0.heap.size wa0 wa1 by rw [hwa1]; exact (Below.refl _ _).alloc (Nat.le_refl _) _) (by omega))
 have HX1 : Hid (Box wa1 (g + 1) (zeroC)) := bn1
 obtain ⟨w0, hw0⟩ : ∃ w0, w0 = wa1 := ⟨_, rfl⟩
 rw [← hw0] at HX0
 rw [← hw0] at HX1
 have hsz0 : w0.heap.size = g + 2 := by rw [hw0]; exact hs1
 have hb0w : Below g w w0 := by rw [hw0]; exact hb1
 have HW0 : Hid ((w.alloc (.cells #[.int .i64 P.i, .int .i64 P.N, .int .i64 P.x, .slice a.O.A a.O.n a.O.c, .int .i64 P.g, .int .i64 P.c, .slice a.W.A a.W.n a.W.c, .slice a.H.A a.H.n a.H.c, .slice a.R.A a.R.n a.R.c] 27)).alloc (.cells #[.int .i64 0, .int .i64 0, .int .i64 0, .slice none 0 0, .int .i64 0, .int .i64 0, .slice none 0 0, .slice none 0 0, .slice none 0 0] 27) = w0) := by show (w.alloc (.cells #[.int .i64 P.i, .int .i64 P.N, .int .i64 P.x, .slice a.O.A a.O.n a.O.c, .int .i64 P.g, .int .i64 P.c, .slice a.W.A a.W.n a.W.c, .slice a.H.A a.H.n a.H.c, .slice a.R.A a.R.n a.R.c] 27)).alloc (.cells #[.int .i64 0, .int .i64 0, .int .i64 0, .slice none 0 0, .int .i64 0, .int .i64 0, .slice none 0 0, .slice none 0 0, .slice none 0 0] 27) = w0; rw [hw0, hwa1, hwa0]
 have HG : Hid (w.heap.size = g) := hg.symm
 have HS0 := Lib.hid hsz0
 have HB0 := Lib.hid hb0w
 have hl0 : g < w0.heap.size := by omega
 have hl1 : g + 1 < w0.heap.size := by omega
 have hgw : g ≤ w0.heap.size := by omega
 have hin0 := h.below' HB0.out HG.out
 have HIN : Hid (∀ wX, Below w0.heap.size w0 wX → WIn wX P a) := by show ∀ wX, _; exact fun wX hX => hin0.below hX
 have HLR : Hid (∀ wX, Below g w wX → SlIn wX ⟨AL, nL, cL⟩ l.length (i64s l)) := by show ∀ wX, _; exact fun wX hX => hl.below (by rw [HG.out]; exact hX)
 have HLL : Hid (l.length = nL) := hl.len
 have HF := Lib.hid hf
 have hcheck := check_is (mayW P) P a w0 rfl hin0 (hf.more (by decide))
 rw [hmay] at hcheck
 have HCK := Lib.hid hcheck
 have HE : Hid (ifMay P 0 = 1) := ifMay_no hmay 0
 clear hg hsz0 hb0w hw0 hwa0 hs0 bn0 hb0 hwa1 hs1 bn1 hb1
 clear hcheck hin0 h hf hl
 unfold wkV Ad.v
 go_enter Tryz.func64, Tryz.ntmps64
 go_upto_region 1 with fail
 rw [HG.out, HW0.out]
 go_wp2_with (first
  | (refine wpList_load_box rfl 27 _ rfl g rfl (wkC P a) (HX0.out) _ Tryz.underlying27 rfl size_wk ?_)
  | (go_at_call 18; refine HCK.out.mono ?_; rintro e w1 ⟨rfl, hb1⟩)
  | (refine wpList_store_box rfl 27 _ _ rfl (g + 1) 0 zeroC zeroC zeroC rfl rfl (HX1.out.below hb1 hl1) (show 0 + 9 ≤ 9 by decide) rfl size_wk rfl ?_; intro w9 bx9 T9))
 obtain ⟨r0, r1, r2, r3, r4, r5, r6, r7, r8⟩ := zero_cells bx9
 have t9 := T9 (fun k => k = g + 1) rfl
 refine bodyPost_ret (v := .tuple #[wkV zeroW zeroWA, .int .i64 1]) (by simp [results, Tryz.results64, go_sem, r0, r1, r2, r3, r4, r5, r6, r7, r8, wkV, Ad.v, zeroW, zeroWA, noAd, okV]) rfl ⟨zeroWA, by rw [HE.out]; rfl, by rw [HE.out]; exact wNew_zero _ _, ?_⟩
 have hz9 := hb1.size
 rw [HG.out]
 exact (HB0.out.trans (hb1.mono hgw)).trans (t9.below (fun k hk => by omega) (by omega))
set_option maxRecDepth 100000 in
set_option maxHeartbeats 16000000 in
theorem back_yes (P : WkD) (a : WkA) (AL : Option Addr) (nL cL : Nat) (l : List Int) (w : World) (h : WIn w P a) (hl : SlIn w ⟨AL, nL, cL⟩ l.length (i64s l)) (hL : l.length ≤ 300000) (hf : WFew P 300000) (hmay : mayW P = true) : Calls Tryz.prog 64 #[wkV P a, .slice AL nL cL] w (Ret2 (orW (ifMay P 0) (backW P l)) (ifMay P 0) w) := by
  obtain ⟨g, hg⟩ : ∃ g, g = w.heap.size := ⟨_, rfl⟩
  obtain ⟨wa0, hwa0⟩ : ∃ wa0, wa0 = w.alloc (.cells #[.int .i64 P.i, .int .i64 P.N, .int .i64 P.x, .slice a.O.A a.O.n a.O.c, .int .i64 P.g, .int .i64 P.c, .slice a.W.A a.W.n a.W.c, .slice a.H.A a.H.n a.H.c, .slice a.R.A a.R.n a.R.c] 27) := ⟨_, rfl⟩
  have hs0 : wa0.heap.size = g + 1 := by rw [hwa0]; simp; omega
  have bn0 : Box wa0 (g) (wkC P a) := by rw [hwa0, hg]; exact box_new w (wkC P a) 27
  have hb0 : Below g w wa0 := by rw [hwa0]; exact (Below.refl _ _).alloc (by omega) _
  obtain ⟨wa1, hwa1⟩ : ∃ wa1, wa1 = wa0.alloc (.cells #[.int .i64 0, .int .i64 0, .int .i64 0, .slice none 0 0, .int .i64 0, .int .i64 0, .slice none 0 0, .slice none 0 0, .slice none 0 0] 27) := ⟨_, rfl⟩
  have hs1 : wa1.heap.size = g + 2 := by rw [hwa1]; simp; omega
  have bn1 : Box wa1 (g + 1) (zeroC) := by rw [hwa1, ← hs0]; exact box_new wa0 (zeroC) 27
  have hb1 : Below g w wa1 := by rw [hwa1]; exact hb0.alloc (by omega) _
  have HX0 : Hid (Box wa1 (g) (wkC P a)) := (bn0.below (show Below wa0.heap.size wa0 wa1 by rw [hwa1]; exact (Below.refl _ _).alloc (Nat.le_refl _) _) (by omega))
  have HX1 : Hid (Box wa1 (g + 1) (zeroC)) := bn1
  obtain ⟨w0, hw0⟩ : ∃ w0, w0 = wa1 := ⟨_, rfl⟩
  rw [← hw0] at HX0
  rw [← hw0] at HX1
  have hsz0 : w0.heap.size = g + 2 := by rw [hw0]; exact hs1
  have hb0w : Below g w w0 := by rw [hw0]; exact hb1
  have HW0 : Hid ((w.alloc (.cells #[.int .i64 P.i, .int .i64 P.N, .int .i64 P.x, .slice a.O.A a.O.n a.O.c, .int .i64 P.g, .int .i64 P.c, .slice a.W.A a.W.n a.W.c, .slice a.H.A a.H.n a.H.c, .slice a.R.A a.R.n a.R.c] 27)).alloc (.cells #[.int .i64 0, .int .i64 0, .int .i64 0, .slice none 0 0, .int .i64 0, .int .i64 0, .slice none 0 0, .slice none 0 0, .slice none 0 0] 27) = w0) := by show (w.alloc (.cells #[.int .i64 P.i, .int .i64 P.N, .int .i64 P.x, .slice a.O.A a.O.n a.O.c, .int .i64 P.g, .int .i64 P.c, .slice a.W.A a.W.n a.W.c, .slice a.H.A a.H.n a.H.c, .slice a.R.A a.R.n a.R.c] 27)).alloc (.cells #[.int .i64 0, .int .i64 0, .int .i64 0, .slice none 0 0, .int .i64 0, .int .i64 0, .slice none 0 0, .slice none 0 0, .slice none 0 0] 27) = w0; rw [hw0, hwa1, hwa0]
  have HG : Hid (w.heap.size = g) := hg.symm
  have HS0 := Lib.hid hsz0
  have HB0 := Lib.hid hb0w
  have hl0 : g < w0.heap.size := by omega
  have hl1 : g + 1 < w0.heap.size := by omega
  have hgw : g ≤ w0.heap.size := by omega
  have hin0 := h.below' HB0.out HG.out
  have HIN : Hid (∀ wX, Below w0.heap.size w0 wX → WIn wX P a) := by show ∀ wX, _; exact fun wX hX => hin0.below hX
  have HLR : Hid (∀ wX, Below g w wX → SlIn wX ⟨AL, nL, cL⟩ l.length (i64s l)) := by show ∀ wX, _; exact fun wX hX => hl.below (by rw [HG.out]; exact hX)
  have HLL : Hid (l.length = nL) := hl.len
  have HF := Lib.hid hf
  have hcheck := check_is (mayW P) P a w0 rfl hin0 (hf.more (by decide))
  rw [hmay] at hcheck
  have HCK := Lib.hid hcheck
  have HE : Hid (ifMay P 0 = 0) := ifMay_yes hmay 0
  have HMW := Lib.hid (mayW_iff.1 hmay)
  have hLn : nL ≤ 300000 := by have := HLL.out; omega
  clear hg hsz0 hb0w hw0 hwa0 hs0 bn0 hb0 hwa1 hs1 bn1 hb1
  clear hcheck hin0 h hf hl hmay
  unfold wkV Ad.v
  go_enter Tryz.func64, Tryz.ntmps64
  go_upto_region 1 with fail
  rw [HG.out, HW0.out]
  go_upto_region 5 with (first
    | (refine wpList_load_box rfl 27 _ rfl g rfl (wkC P a) (HX0.out) _ Tryz.underlying27 rfl size_wk ?_)
    | (go_at_call 18; refine HCK.out.mono ?_; rintro e w1 ⟨rfl, hb1⟩)
    | (refine wpList_load_box rfl 27 _ rfl g rfl (wkC P a) (HX0.out.below hb1 hl0) _ Tryz.underlying27 rfl size_wk ?_)
    | (go_at_call 90; refine (clone_any P a w1 (HIN.out _ hb1) (HF.out.more (by decide))).mono ?_; rintro e w4 ⟨a4, rfl, hn4, hb4⟩)
    | (refine wpList_store_box rfl 27 _ _ rfl g 0 (wkC P a4) (wkC P a) (wkC P a4) rfl rfl ((HX0.out.below hb1 hl0).below hb4 (by have := hb1.size; omega)) (show 0 + 9 ≤ 9 by decide) rfl size_wk rfl ?_; intro w5 bx5 T5))
  have t5 := T5 (fun k => k = g) rfl
  have hAT5 : WAt w1.heap.size g w5 P a4 := ⟨bx5, hn4.touch t5 (fun k hk ho => by have := (hn4.core.lt ho).2; have := hb1.size; omega) (fun k hk ho => by have := (own_lt hn4.open_ ho).2; have := hb1.size; omega), by have := hb1.size; omega, by have := hb4.size; have := t5.size; omega⟩
  have hres5 : Box w5 (g + 1) zeroC := ((HX1.out.below hb1 hl1).below hb4 (by have := hb1.size; omega)).touch t5 (by omega)
  have hbel5 : Below g w w5 := ((HB0.out.trans (hb1.mono hgw)).trans (hb4.mono (by have := hb1.size; omega))).trans (t5.below (fun k hk => by omega) (by have := hb1.size; have := hb4.size; omega))
  obtain ⟨B, hB⟩ : ∃ B, B = w1.heap.size := ⟨_, rfl⟩
  rw [← hB] at hAT5
  have hgB : g + 1 < B := by have := hb1.size; have := HS0.out; omega
  have HAT5 := Lib.hid hAT5
  have HRES5 := Lib.hid hres5
  have HBEL5 := Lib.hid hbel5
  have hB5 := hAT5.le
  clear hB bx5 t5 T5 hb1 hb4 hn4 hAT5 hres5 hbel5
  obtain ⟨aZ, haZ⟩ : ∃ aZ, aZ = a4 := ⟨_, rfl⟩
  rw [← haZ] at HAT5
  clear haZ
  have k8 : w5.cell? ⟨g, 8, none⟩ = some (.slice aZ.R.A aZ.R.n aZ.R.c) := (HAT5.out.box.2 8 _ rfl).1
  have hgl5 : g < w5.heap.size := HAT5.out.box.1
  have hR5 := slIn_own HAT5.out.new.core.ready HAT5.out.new.core.rL
  have HR5 := Lib.hid hR5
  have hRn : aZ.R.n ≤ 300000 := by have := hR5.len; have := HF.out.r; omega
  have HSO := Lib.hid (setOf_any aZ.R.A aZ.R.c aZ.R.n P.R w5 hR5.len hR5.rd (by omega))
  have HPR : Hid (digsOf P.R = P.R) := by
    show digsOf P.R = P.R
    unfold digsOf
    rw [List.filter_eq_self]
    intro y hy
    obtain ⟨j, hj⟩ := List.mem_iff_getElem?.1 hy
    exact digB_of_bet HMW.out.digs hj
  rw [HPR.out] at HSO
  clear hR5
  go_upto_region 6 with (go_at_call 109; refine HSO.out.mono ?_; rintro e w6 ⟨b, mS, rfl, hset, hmS, hbb, hb6⟩)
  have HBL : Hid (BL w5.heap.size b w5 P.R l noAd 0 mS w6) := ⟨by rw [List.take_zero]; exact World.ownsRow_nil _ _ _ _, by rw [List.take_zero]; rfl, by rw [List.take_zero, backL, List.append_nil]; exact hset, hb6, hbb⟩
  clear k8 hset hbb hb6
  go_wp2_with fail
  go_loopw [8, 24] (fun v i wr => ∃ (k m : Nat) (o : Ad), i = .int .i64 k ∧ v = .slice o.A o.n o.c ∧ k ≤ nL ∧ m ≤ mS + k ∧ Hid (BL w5.heap.size b w5 P.R l o k m wr)) (fun _ i _ => nL - (intOf i).toNat)
  case atStart => exact ⟨0, mS, noAd, rfl, rfl, Nat.zero_le _, by omega, HBL⟩
  case round =>
    obtain ⟨k, m, o, rfl, rfl, hk, hm, HS⟩ := hrel
    have i0 : (0 : Int) ≤ (k : Int) := by omega
    have hblen := backL_len P.R (l.take k) []
    have hon : o.n ≤ 300000 := by have h1 := HS.out.len; have h3 : (l.take k).length ≤ k := (by rw [List.length_take]; exact Nat.min_le_left _ _); simp only [List.length_nil] at hblen; omega
    have hszr := HS.out.bel.size
    clear hblen
    by_cases hlt : k < nL
    · have hrl := HLR.out w5 HBEL5.out
      obtain ⟨bl, off, hAL, hbl, hcell⟩ := hrl.rd.open_ (by rw [i64s_length, HLL.out]; omega)
      simp only at hAL
      subst hAL
      have hk1 := hcell k _ (i64s_at (by rw [HLL.out]; exact hlt))
      have hc1 := (HS.out.bel.cell (p := ⟨bl, off + k, none⟩) hbl).trans hk1
      have hy : l[k]? = some (l[k]?.getD 0) := at_some (by rw [HLL.out]; exact hlt)
      obtain ⟨y, hye⟩ : ∃ y, y = l[k]?.getD 0 := ⟨_, rfl⟩
      rw [← hye] at hc1 hy
      have HY := Lib.hid hy
      have i1 : (k : Int) < (nL : Int) := by omega
      clear hrl hcell hk1 hye hy
      cases hdy : digB y with
      | false =>
        have HD := Lib.hid hdy
        clear hdy
        go_wp2_with (go_at_call 41; refine (zdig_is false y HD.out _).mono ?_; rintro e w' ⟨rfl, rfl⟩)
        go_roundw
        case rel => exact ⟨k + 1, m, o, by go_num, rfl, by omega, by omega, HS.out.skip HY.out (by rw [HD.out]; simp)⟩
        case measure => simp [intOf]; omega
      | true =>
        have HD := Lib.hid hdy
        clear hdy
        by_cases hin : y ∈ P.R ++ backL P.R (l.take k) []
        · have HN : Hid (decide (y ∈ P.R ++ backL P.R (l.take k) []) = true) := decide_eq_true hin
          have HIN2 := Lib.hid hin
          clear hin
          go_wp2_with (first
            | (go_at_call 41; refine (zdig_is true y HD.out _).mono ?_; rintro e w' ⟨rfl, rfl⟩)
            | (go_at_call 78; refine (has_any b m _ y _ HS.out.set HD.out).mono ?_; rw [HN.out]; rintro e w7 ⟨rfl, hb7⟩))
          go_roundw
          case rel => exact ⟨k + 1, m, o, by go_num, rfl, by omega, by omega, (HS.out.below hb7 hszr).skip HY.out (fun h => by rcases List.mem_append.1 HIN2.out with e | e; exact h.2.1 e; exact h.2.2 e)⟩
          case measure => simp [intOf]; omega
        · have HN : Hid (decide (y ∈ P.R ++ backL P.R (l.take k) []) = false) := decide_eq_false hin
          have HIN2 : Hid (y ∉ P.R ∧ y ∉ backL P.R (l.take k) []) := ⟨fun h => hin (List.mem_append.2 (.inl h)), fun h => hin (List.mem_append.2 (.inr h))⟩
          clear hin
          go_upto_region 11 with (first
            | (go_at_call 41; refine (zdig_is true y HD.out _).mono ?_; rintro e w' ⟨rfl, rfl⟩)
            | (go_at_call 78; refine (has_any b m _ y _ HS.out.set HD.out).mono ?_; rw [HN.out]; rintro e w7 ⟨rfl, hb7⟩))
          have HS7 := Lib.hid (HS.out.below hb7 hszr)
          obtain ⟨D, hown, hI, hh⟩ := HS7.out.set
          have HO := Lib.hid hown
          have HM := Lib.hid hI
          have HH := Lib.hid hh
          have hsz7 := hb7.size
          clear hown hI hh hb7 hc1
          have hmm : m ≤ 1400000 := by omega
          go_wp2_with (first
            | (at_mapUpdate; refine wpList_mapUpdate_own _ rfl _ _ _ 112 rfl 3 113 dig_keyed Tryz.underlying112 unitElem b m D rfl HO.out (by unfold maxLen; omega) (.int .i64 y) (.agg #[]) _ rfl rfl (dig_key HD.out) (.agg []) [] unitElem_mk ?_; intro w8 hown8 hg8; have hs8 := set_put HD.out HM.out HH.out hown8; have hro8 := HS7.out.row8 hg8; have hsz8 := hg8.size)
            | (at_builtin; refine wpList_app_lies _ rfl _ _ 25 rfl w5.heap.size 3 (.int .i64 0) 8 Tryz.underlying25 info_zint rfl (by decide) (.slice o.A o.n o.c) o.n (i64s (backL P.R (l.take k) [])) rfl (hro8.alloc _) w8.heap.size (.int .i64 y) rfl (cell_new _ _ _) rfl (by omega) (by simp; omega) ?_
               intro g' c' w9 ho9 hg9 hl9))
          have HS9 := Lib.hid (HS7.out.push (by omega) (o' := ⟨some ⟨g', 0, none⟩, o.n + 1, c'⟩) HY.out HD.out HIN2.out.1 HIN2.out.2 hg8 hs8 ho9 hg9 rfl)
          clear ho9 hg9 hl9 hg8 hs8 hro8
          go_wp2_with fail
          go_roundw
          case rel => exact ⟨k + 1, m + 1, ⟨some ⟨g', 0, none⟩, o.n + 1, c'⟩, by go_num, rfl, by omega, by omega, HS9⟩
          case measure => simp [intOf]; omega
    · have i1 : ¬ ((k : Int) < (nL : Int)) := by omega
      obtain rfl : k = nL := by omega
      have hrow := HS.out.row
      have hlen := HS.out.len
      rw [List.take_of_length_le (by rw [HLL.out]; exact Nat.le_refl _)] at hrow hlen
      have HBW := Lib.hid HS.out.bel
      have hboxr : Box wr g (wkC P aZ) := HAT5.out.box.below HBW.out hgl5
      have k8 : wr.cell? ⟨g, 8, none⟩ = some (.slice aZ.R.A aZ.R.n aZ.R.c) := (hboxr.2 8 _ rfl).1
      have hR := HR5.out.below HBW.out
      obtain ⟨A9, c9, w9, hr9, ho9, hg9, hl9⟩ := run_app_rowsZ (P := Tryz.prog) wr 25 25 w5.heap.size 3 zint 1 8 Tryz.underlying25 info_zint rfl (by decide) (by decide) (.slice o.A o.n o.c) o.n (i64s (backL P.R l [])) hrow aZ.R.A aZ.R.n aZ.R.c (i64s P.R) (by rw [i64s_length, hR.len, Nat.mul_one]) hR.rd (i64s_one _) (by omega) hszr
      have HRUN := Lib.hid hr9
      have hb9 : Below w5.heap.size w5 w9 := HBW.out.trans ((Touch.grown (F := fun j => (Value.slice o.A o.n o.c).ownBlock = some j) hg9 fun j hj => hj).below (fun j hj => (own_lt hrow hj).2) hszr)
      have HB9 := Lib.hid hb9
      have hbx9 : Box w9 g (wkC P aZ) := HAT5.out.box.below hb9 hgl5
      have HRES9 : Hid (Box w9 (g + 1) zeroC) := HRES5.out.below hb9 HRES5.out.1
      have HBEL9 : Hid (Below g w w9) := HBEL5.out.trans (hb9.mono (by omega))
      have hnew9 : WNew B w9 (backW P l) { aZ with R := ⟨A9, o.n + aZ.R.n, c9⟩ } :=
        HAT5.out.new.setR (L := backL P.R l [] ++ P.R) (o := ⟨A9, o.n + aZ.R.n, c9⟩) (Touch.of hb9) (ownS_more (by rw [i64s_append]; exact ho9) HAT5.out.le) (by rw [List.length_append, hlen, hR.len]) (fun j hj => .inr (own_lt ho9 hj).2)
      have HN9 := Lib.hid hnew9
      clear hr9 ho9 hg9 hl9 hb9 hnew9 hR hboxr hrow hlen
      go_wp2_with (first
        | (at_builtin; refine wpList_app_run (v := .slice o.A o.n o.c) (u := .slice aZ.R.A aZ.R.n aZ.R.c) _ rfl _ _ 25 25 rfl rfl rfl HRUN.out ?_)
        | (refine wpList_store_cell rfl 25 _ _ rfl g 8 (.slice A9 (o.n + aZ.R.n) c9) (wkC P aZ) rfl rfl rfl rfl hbx9 (show 8 < 9 by decide) size_sInt ?_; intro w8 bx8 T8; have t8 := T8 (fun k => k = g) rfl; have hres8 : Box w8 (g + 1) zeroC := HRES9.out.touch t8 (by omega))
        | (refine wpList_load_box rfl 27 _ rfl g rfl (wkC (backW P l) { aZ with R := ⟨A9, o.n + aZ.R.n, c9⟩ }) bx8 _ Tryz.underlying27 rfl size_wk ?_)
        | (refine wpList_store_box rfl 27 _ _ rfl (g + 1) 0 (wkC (backW P l) { aZ with R := ⟨A9, o.n + aZ.R.n, c9⟩ }) zeroC (wkC (backW P l) { aZ with R := ⟨A9, o.n + aZ.R.n, c9⟩ }) rfl rfl hres8 (show 0 + 9 ≤ 9 by decide) rfl size_wk rfl ?_; intro wE bxE TE))
      obtain ⟨oR, hoR⟩ : ∃ oR : Ad, oR = ⟨A9, o.n + aZ.R.n, c9⟩ := ⟨_, rfl⟩
      rw [← hoR] at bxE HN9
      have hnewZ : WNew B w8 (backW P l) { aZ with R := oR } := HN9.out.touch t8 (fun k hk ho => by have := (HN9.out.core.lt ho).2; omega) (fun k hk ho => by have := (own_lt HN9.out.open_ ho).2; omega)
      have hresZ := hres8
      have hbelZ : Below g w w8 := HBEL9.out.trans (t8.below (fun k hk => by omega) (by have := hbx9.1; omega))
      have tE := TE (fun k => k = g + 1) rfl
      have hbel : Below g w wE := hbelZ.trans (tE.below (fun k hk => by omega) (by have := hresZ.1; omega))
      obtain ⟨r0, r1, r2, r3, r4, r5, r6, r7, r8⟩ := wk_cells bxE
      refine bodyPost_ret (v := .tuple #[wkV (backW P l) { aZ with R := oR }, .int .i64 0]) (by simp [results, Tryz.results64, go_sem, r0, r1, r2, r3, r4, r5, r6, r7, r8, wkV, Ad.v]) rfl ⟨{ aZ with R := oR }, by rw [HE.out]; rfl, ?_, by rw [HG.out]; exact hbel⟩
      rw [HE.out, HG.out]
      show WNew g wE (backW P l) { aZ with R := oR }
      exact (hnewZ.touch tE (fun k hk ho => by have := (hnewZ.core.lt ho).2; omega) (fun k hk ho => by have := (own_lt hnewZ.open_ ho).2; omega)).more (by omega)
theorem back_any (P : WkD) (a : WkA) (AL : Option Addr) (nL cL : Nat) (l : List Int) (w : World) (h : WIn w P a) (hl : SlIn w ⟨AL, nL, cL⟩ l.length (i64s l)) (hL : l.length ≤ 300000) (hf : WFew P 300000) : Calls Tryz.prog 64 #[wkV P a, .slice AL nL cL] w (Ret2 (orW (ifMay P 0) (backW P l)) (ifMay P 0) w) := by
 cases hm : mayW P with
 | false => exact back_no P a AL nL cL l w h hl hf hm
 | true => exact back_yes P a AL nL cL l w h hl hL hf hm

end Go.Proofs.YteepobghdpnabaaGreat
