/-
 slices.DeleteFunc on numbers: those that a set has are taken out.
-/
import Derived.Test.YteepobghdpnabaaGreatRows
import Derived.WalkKit
import Derived.Below
import Derived.Deep.Draws
import Derived.Deep.AppendLies
import Derived.Lib.AppendStr
import Derived.Lib.ConvBytes
import Derived.Lib.Hide
import Derived.Deep.RegionHeld3
import Derived.OneCell
import Derived.Laws.Rows
import Derived.Laws.CopyRow
import Derived.Lib.AppendZerosOnto
import Derived.Lib.Overlaps
import Derived.WalkSpells
import Derived.WalkLawsBesides
import Derived.Deep.QuietTactic
import Derived.BigQuiet
import Derived.LoopTactic
import Derived.Outline
import Derived.Deep.RegionLaw
import Derived.StillTailTactics
import Derived.Laws.Externs
import Derived.Laws.StructEq
import Derived.IntWalk
import Derived.ProofKit
import Derived.OpenShut
import Derived.SliceStrings
import Derived.ChangeSlices
import Derived.Deep.Slices
import Derived.Deep.Fields
import Derived.ChangeOld
import Derived.Carry
import Derived.SizedLaws
import Derived.ScopeJumps
import Derived.Deep.MidRow
import Derived.Deep.DeepCutAuto
import Derived.Deep.CutRange
import Derived.BigRegion
import Derived.Maps.OwnSet
import Derived.Deep.Heap
import Derived.Deep.CutBlock
import Derived.Great.BuildSlice
import Derived.Lib.MinMax
import Derived.Maps.AppendAt
import Derived.Test.YteepobghdpnabaaGreatKWorkerTicksa
import Derived.Test.YteepobghdpnabaaGreatKWorkerTicksb
import Derived.Test.YteepobghdpnabaaGreatKWorkerTicksc
import Derived.Test.YteepobghdpnabaaGreatKWorkerTicksd
import Derived.Test.YteepobghdpnabaaGreatKWorkerTickse
import Derived.Test.YteepobghdpnabaaGreatKWorkerTicksf
import Derived.Test.YteepobghdpnabaaGreatKWorkerTicksg
import Derived.Test.YteepobghdpnabaaGreatKWorkerTicksh
import Derived.Test.YteepobghdpnabaaGreatKWorkerTicksi
import Derived.Test.YteepobghdpnabaaGreatKWorkerTicksj
import Derived.Test.YteepobghdpnabaaGreatKWorkerTicksk
import Derived.Test.YteepobghdpnabaaGreatKWorkerTicksl
import Derived.Test.YteepobghdpnabaaGreatKWorkerTicksm
import Derived.Test.YteepobghdpnabaaGreatKWorkerTicksn
import Derived.Test.YteepobghdpnabaaGreatKWorkerTickso
import Derived.Test.YteepobghdpnabaaGreatKWorkerTicksp
import Derived.Test.YteepobghdpnabaaGreatKWorkerTicksq
import Derived.Test.YteepobghdpnabaaGreatKWorkerTicksr
import Derived.Test.YteepobghdpnabaaGreatKWorkerTickss
import Derived.Test.YteepobghdpnabaaGreatKWorkerTickst
import Derived.Test.YteepobghdpnabaaGreatKWorkerTicksu
import Derived.Test.YteepobghdpnabaaGreatKWorkerTicksv
import Derived.Test.YteepobghdpnabaaGreatKWorkerTicksw
import Derived.Test.YteepobghdpnabaaGreatKWorkerTicksx
import Derived.Test.YteepobghdpnabaaGreatKWorkerTicksy
import Derived.Test.YteepobghdpnabaaGreatKWorkerTicksz
import Derived.Test.YteepobghdpnabaaGreatKWorkerTicksaa
import Derived.Test.YteepobghdpnabaaGreatKWorkerTicksab
import Derived.Test.YteepobghdpnabaaGreatKWorkerTicksac
import Derived.Test.YteepobghdpnabaaGreatKWorkerTicksad
import Derived.Test.YteepobghdpnabaaGreatKWorkerTicksae
import Derived.Test.YteepobghdpnabaaGreatKWorkerTicksaf
import Derived.Test.YteepobghdpnabaaGreatKWorkerTicksag
import Derived.Test.YteepobghdpnabaaGreatKWorkerTicksah
import Derived.Test.YteepobghdpnabaaGreatKWorkerTicksai
import Derived.Test.YteepobghdpnabaaGreatKWorkerTicksaj
import Derived.Test.YteepobghdpnabaaGreatKWorkerTicksak
import Derived.Test.YteepobghdpnabaaGreatKWorkerTicksal
import Derived.Test.YteepobghdpnabaaGreatKWorkerTicksam
import Derived.Test.YteepobghdpnabaaGreatKWorkerTicksan
import Derived.Test.YteepobghdpnabaaGreatKWorkerTicksao
import Derived.Test.YteepobghdpnabaaGreatKWorkerTicksap
import Derived.Test.YteepobghdpnabaaGreatKWorkerTicksaq
import Derived.Test.YteepobghdpnabaaGreatKWorkerTicksar
import Derived.Test.YteepobghdpnabaaGreatHWorkerSealsa
import Derived.Test.YteepobghdpnabaaGreatHWorkerSealsb
namespace Go.Proofs.YteepobghdpnabaaGreat
open Go.RowKit Go.Deep

def outOf (L l : List Int) : List Int := l.filter fun d => decide (d ∉ L)
theorem outOf_take {L l : List Int} {k : Nat} {d : Int} (h : l[k]? = some d) : outOf L (l.take (k + 1)) = outOf L (l.take k) ++ (if d ∈ L then [] else [d]) := by
 unfold outOf
 rw [take_nxt h, List.filter_append]
 congr 1
 by_cases hd : d ∈ L
 ·simp [hd]
 ·simp [hd]
structure DF (B g n cap b mS p q : Nat) (l L ys : List Int) (w wr : World) : Prop where
 own : wr.ownsRow B 3 1 (.slice (some ⟨g, 0, none⟩) n cap) n (i64s ys)
 len : ys.length = n
 low : ys.take p = outOf L (l.take q)
 high : ∀ j, q ≤ j → ys[j]? = l[j]?
 set : SetIs wr b mS L
 lt : p < q
 touch : Touch (fun k => k = g) w wr
section
variable {B g n cap b mS p q : Nat} {l L ys : List Int} {w wr w' : World}
theorem DF.below (h : DF B g n cap b mS p q l L ys w wr) (hb : Below wr.heap.size wr w') : DF B g n cap b mS p q l L ys w w' :=
 ⟨ownS_below h.own hb, h.len, h.low, h.high, h.set.below hb, h.lt, h.touch.then hb⟩
theorem DF.skip {y : Int} (h : DF B g n cap b mS p q l L ys w wr) (hy : l[q]? = some y) (hi : y ∈ L) : DF B g n cap b mS p (q + 1) l L ys w wr :=
 ⟨h.own, h.len, by rw [h.low, outOf_take hy, if_pos hi, List.append_nil], fun j hj => h.high j (by omega), h.set, by have := h.lt; omega, h.touch⟩
theorem DF.keep {y : Int} (h : DF B g n cap b mS p q l L ys w wr) (hq : q < n) (hg : g ≠ b) (hy : l[q]? = some y) (hi : y ∉ L) : DF B g n cap b mS (p + 1) (q + 1) l L (ys.set p y) w (wr.setCell ⟨g, p, none⟩ (.int .i64 y)) := by
  have hlt := h.lt
  obtain ⟨s1, s2⟩ := h.own.stored p (.int .i64 y)
  refine ⟨by rw [show i64s (ys.set p y) = (i64s ys).set p (.int .i64 y) from by simp [i64s, List.map_set]]; exact s1, by rw [List.length_set]; exact h.len, ?_, fun j hj => by rw [List.getElem?_set_ne (by omega)]; exact h.high j (by omega), ?_, by omega, h.touch.set (.inl rfl) _⟩
  · have e : (ys.set p y).take (p + 1) = ys.take p ++ [y] := by
      apply List.ext_getElem?
      intro j
      simp only [List.getElem?_take, List.getElem?_set, List.getElem?_append, List.length_take, h.len]
      rcases Nat.lt_trichotomy j p with h1 | h1 | h1
      · rw [if_pos (by omega), if_neg (by omega), if_pos (by omega), if_pos h1]
      · subst h1
        rw [if_pos (by omega), if_pos rfl, if_pos (by omega), if_neg (by omega), Nat.min_eq_left (by omega), Nat.sub_self]
        rfl
      · rw [if_neg (by omega), if_neg (by omega), Nat.min_eq_left (by omega)]
        rw [List.getElem?_eq_none (by simp; omega)]
    rw [e, h.low, outOf_take hy, if_neg hi]
  · exact h.set.block (blk_setCell_other _ _ _ _ (Ne.symm hg))
end

end Go.Proofs.YteepobghdpnabaaGreat
namespace Go.Proofs.YteepobghdpnabaaGreat
open Go.RowKit

structure TR (D x : Nat) (P : WkD) (a : WkA) (l : List Int) (w : World) (o : Ad) (k : Nat) (wr : World) : Prop where
 box : Box wr x (wkC { P with R := outOf l (P.R.take k) } { a with R := o })
 row : wr.ownsRow D 3 1 o.v o.n (i64s (outOf l (P.R.take k)))
 len : (outOf l (P.R.take k)).length = o.n
 keep : WNew D wr P a
 bel : Below D w wr
 oD : ∀ j, o.v.ownBlock = some j → w.heap.size ≤ j
 wsz : w.heap.size ≤ wr.heap.size
section
variable {D x k : Nat} {P : WkD} {a : WkA} {l : List Int} {w wr w1 w2 : World} {o o' : Ad} {y : Int}
theorem TR.below (h : TR D x P a l w o k wr) (hb : Below wr.heap.size wr w1) (hD : D ≤ w.heap.size) : TR D x P a l w o k w1 :=
 ⟨h.box.below hb h.box.1, ownS_below h.row hb, h.len, h.keep.below hb, h.bel.trans (hb.mono (Nat.le_trans hD h.wsz)), h.oD, Nat.le_trans h.wsz hb.size⟩
theorem TR.skip (h : TR D x P a l w o k wr) (hy : P.R[k]? = some y) (hm : y ∈ l) : TR D x P a l w o (k + 1) wr := by
 have e : outOf l (P.R.take (k + 1)) = outOf l (P.R.take k) := by rw [outOf_take hy, if_pos hm, List.append_nil]
 exact ⟨by rw [e]; exact h.box, by rw [e]; exact h.row, by rw [e]; exact h.len, h.keep, h.bel, h.oD, h.wsz⟩
theorem TR.more (h : TR D x P a l w o k wr) (hx : x < w.heap.size) (hy : P.R[k]? = some y) (hm : y ∉ l) (hg : wr.grownBy w2 o.v.ownBlock) (ho : w2.ownsRow D 3 1 o'.v o'.n (i64s (outOf l (P.R.take k)) ++ [.int .i64 y])) (hn : o'.n = o.n + 1)
  (hat : o.v.ownBlock = o'.v.ownBlock ∨ o'.v.ownBlock = some wr.heap.size) (hD : D ≤ x) (hfar : ∀ j, w.heap.size ≤ j → ¬ a.owns j ∧ a.O.v.ownBlock ≠ some j) (hxo : ¬ a.owns x ∧ a.O.v.ownBlock ≠ some x) : TR D x P a l w o' (k + 1) (w2.setCell ⟨x, 8, none⟩ o'.v) := by
 have hT : Touch (fun j => o.v.ownBlock = some j) wr w2 := Touch.grown hg fun j hj => hj
 have Tg : Touch (fun j => j = x) w2 (w2.setCell ⟨x, 8, none⟩ o'.v) := (Touch.refl (fun j => j = x) w2).set (.inl rfl) o'.v
 have e : outOf l (P.R.take (k + 1)) = outOf l (P.R.take k) ++ [y] := by rw [outOf_take hy, if_neg hm]
 have hblk : ∀ j, o'.v.ownBlock = some j → w.heap.size ≤ j := fun j hj => by
  rcases hat with e | e
  ·exact h.oD j (e.trans hj)
  ·rw [e] at hj; cases hj; exact h.wsz
 have hbx := (h.box.touch hT fun hf => by have := h.oD x hf; omega).set (j := 8) (u := o'.v) (show 8 < 9 by decide)
 have hs1 := hT.size
 have hs2 := Tg.size
 have hw := h.wsz
 have hxl := h.box.1
 refine ⟨by rw [e]; exact hbx, by rw [e, i64s_append]; exact own_kept ho fun j hj hl => Tg.block j hl (by have := hblk j hj; omega), by rw [e, List.length_append, h.len, hn]; rfl,
  (h.keep.touch hT (fun j hj => (hfar j (h.oD j hj)).1) (fun j hj => (hfar j (h.oD j hj)).2)).touch Tg (fun j hj => by rw [hj]; exact hxo.1) (fun j hj => by rw [hj]; exact hxo.2), (h.bel.trans (hT.below (fun j hj => by have := h.oD j hj; omega) (by omega))).trans (Tg.below (fun j hj => by omega) (by omega)), hblk, by omega⟩
end

end Go.Proofs.YteepobghdpnabaaGreat
namespace Go.Proofs.YteepobghdpnabaaGreat
open Go.RowKit

theorem backL_snoc : ∀ (R l b : List Int) (d : Int), backL R (l ++ [d]) b = if digB d = true ∧ d ∉ R ∧ d ∉ backL R l b then backL R l b ++ [d] else backL R l b
 | _, [], _, _ => rfl
 | R, x :: r, b, d => by
  rw [List.cons_append, backL, backL]
  exact backL_snoc R r _ d
theorem backL_next {R l : List Int} {k : Nat} {d : Int} (h : l[k]? = some d) : backL R (l.take (k + 1)) [] = if digB d = true ∧ d ∉ R ∧ d ∉ backL R (l.take k) [] then backL R (l.take k) [] ++ [d] else backL R (l.take k) [] := by
 rw [take_nxt h, backL_snoc]
structure BL (D b : Nat) (w : World) (R l : List Int) (o : Ad) (k m : Nat) (wr : World) : Prop where
 row : wr.ownsRow D 3 1 o.v o.n (i64s (backL R (l.take k) []))
 len : (backL R (l.take k) []).length = o.n
 set : SetIs wr b m (R ++ backL R (l.take k) [])
 bel : Below D w wr
 bD : D ≤ b
section
variable {D b k m : Nat} {w wr w1 w2 : World} {R l : List Int} {o o' : Ad} {d : Int}
theorem BL.below (h : BL D b w R l o k m wr) (hb : Below wr.heap.size wr w1) (hD : D ≤ wr.heap.size) : BL D b w R l o k m w1 :=
 ⟨ownS_below h.row hb, h.len, h.set.below hb, h.bel.trans (hb.mono hD), h.bD⟩
theorem BL.skip (h : BL D b w R l o k m wr) (hd : l[k]? = some d) (hn : ¬ (digB d = true ∧ d ∉ R ∧ d ∉ backL R (l.take k) [])) : BL D b w R l o (k + 1) m wr := by
 have e := backL_next (R := R) hd
 rw [if_neg hn] at e
 exact ⟨by rw [e]; exact h.row, by rw [e]; exact h.len, by rw [e]; exact h.set, h.bel, h.bD⟩
theorem BL.apart (h : BL D b w R l o k m wr) : ∀ j, o.v.ownBlock = some j → j ≠ b := fun j hj e => by
 subst e
 obtain ⟨D', ⟨es, clock, hmp, _⟩, _⟩ := h.set
 obtain ⟨cur, hcur⟩ := own_typeZ h.row hj
 rw [hmp] at hcur
 cases hcur
theorem BL.push (h : BL D b w R l o k m wr) (hD : D ≤ wr.heap.size) (hd : l[k]? = some d) (h1 : digB d = true) (h2 : d ∉ R) (h3 : d ∉ backL R (l.take k) []) (hg : wr.grownBy w1 (some b)) (hs : SetIs w1 b (m + 1) ((R ++ backL R (l.take k) []) ++ [d])) {ob : Obj}
  (ho : w2.ownsRow D 3 1 o'.v o'.n (i64s (backL R (l.take k) []) ++ [.int .i64 d])) (hg2 : (w1.alloc ob).grownBy w2 o.v.ownBlock) (hn : o'.n = o.n + 1) : BL D b w R l o' (k + 1) (m + 1) w2 := by
 have e := backL_next (R := R) hd
 rw [if_pos ⟨h1, h2, h3⟩] at e
 have T1 : Touch (fun j => j = b) wr w1 := Touch.grown hg fun j hj => by cases hj; rfl
 have hT : Touch (fun j => o.v.ownBlock = some j) w1 w2 := ((Touch.refl (fun j => o.v.ownBlock = some j) w1).alloc ob).on (Touch.grown hg2 fun j hj => hj)
 have hsz := T1.size
 refine ⟨by rw [e, i64s_append]; exact ho, by rw [e, List.length_append, h.len, hn]; rfl, ?_, (h.bel.trans (T1.below (fun j hj => by have := h.bD; omega) hD)).trans (hT.below (fun j hj => (own_lt h.row hj).2) (by omega)), h.bD⟩
 rw [e, ← List.append_assoc]
 exact hs.block (hT.block b hs.lt fun hf => h.apart b hf rfl)
end

end Go.Proofs.YteepobghdpnabaaGreat
namespace Go.Proofs.YteepobghdpnabaaGreat
open Go.RowKit

def StTo2 (Q : WkD) (l : List OtD) (E : Int) (w : World) (e : Ending) (w' : World) : Prop := ∃ s : Nat, e = .returned (.tuple #[.pointer (some ⟨s, 0, none⟩), .int .i64 E]) ∧ ((E ≠ 0 ∧ Below w.heap.size w w') ∨ (∃ (B : Nat) (a : WkA) (o : Ad) (ms : List (OtD × Ad)), w.heap.size ≤ B ∧ StAt s B w' Q a l o ms ∧ Below w.heap.size w w'))
set_option maxRecDepth 100000 in
set_option maxHeartbeats 16000000 in
theorem rseal_no (P : WkD) (a : WkA) (d : Int) (w : World) (h : WIn w P a) (hf : WFew P 300000) (hm : mayW P = true) (hne : sealE P d ≠ 0) : Calls Tryz.prog 51 #[wkV P a, .int .i64 d] w (StTo2 (sealW P d) (sealO P d) (sealE P d) w) := by
  obtain ⟨g, hg⟩ : ∃ g, g = w.heap.size := ⟨_, rfl⟩
  obtain ⟨wa0, hwa0⟩ : ∃ wa0, wa0 = w.alloc (.cells #[.int .i64 P.i, .int .i64 P.N, .int .i64 P.x, .slice a.O.A a.O.n a.O.c, .int .i64 P.g, .int .i64 P.c, .slice a.W.A a.W.n a.W.c, .slice a.H.A a.H.n a.H.c, .slice a.R.A a.R.n a.R.c] 27) := ⟨_, rfl⟩
  have hs0 : wa0.heap.size = g + 1 := by rw [hwa0]; simp; omega
  have bn0 : Box wa0 (g) (wkC P a) := by rw [hwa0, hg]; exact box_new w (wkC P a) 27
  have hb0 : Below g w wa0 := by rw [hwa0]; exact (Below.refl _ _).alloc (by omega) _
  have HX0 : Hid (Box wa0 (g) (wkC P a)) := bn0
  obtain ⟨w0, hw0⟩ : ∃ w0, w0 = wa0 := ⟨_, rfl⟩
  rw [← hw0] at HX0
  have hsz0 : w0.heap.size = g + 1 := by rw [hw0]; exact hs0
  have hb0w : Below g w w0 := by rw [hw0]; exact hb0
  have HW0 : Hid (w.alloc (.cells #[.int .i64 P.i, .int .i64 P.N, .int .i64 P.x, .slice a.O.A a.O.n a.O.c, .int .i64 P.g, .int .i64 P.c, .slice a.W.A a.W.n a.W.c, .slice a.H.A a.H.n a.H.c, .slice a.R.A a.R.n a.R.c] 27) = w0) := by show w.alloc (.cells #[.int .i64 P.i, .int .i64 P.N, .int .i64 P.x, .slice a.O.A a.O.n a.O.c, .int .i64 P.g, .int .i64 P.c, .slice a.W.A a.W.n a.W.c, .slice a.H.A a.H.n a.H.c, .slice a.R.A a.R.n a.R.c] 27) = w0; rw [hw0, hwa0]
  have HG : Hid (w.heap.size = g) := hg.symm
  have HS0 := Lib.hid hsz0
  have HB0 := Lib.hid hb0w
  have hl0 : g < w0.heap.size := by omega
  have hgw : g ≤ w0.heap.size := by omega
  have hin0 := h.below' HB0.out HG.out
  have HIN : Hid (∀ wX, Below w0.heap.size w0 wX → WIn wX P a) := by show ∀ wX, _; exact fun wX hX => hin0.below hX
  have HF := Lib.hid hf
  have hmw := mayW_iff.1 hm
  have HMW := Lib.hid hmw
  clear hg hsz0 hb0w hw0 hwa0 hs0 bn0 hb0
  clear hin0 h hf hmw
  unfold wkV Ad.v
  by_cases hmk : makeE P = 0
  · have hse : sealE P d = if digB d = true then (if d ∈ P.hs then 4 else 0) else 1 := by rw [sealE, if_neg (by rw [hmk]; decide)]
    cases hdb : digB d with
    | false =>
      have HSE : Hid (sealE P d = 1) := by show _ = _; rw [hse, hdb]; rfl
      have HDB : Hid (decide (1 ≤ d ∧ d ≤ 65536) = false) := hdb
      rw [HSE.out]
      clear hse hdb hne
      go_enter Tryz.func51, Tryz.ntmps51
      go_upto_region 1 with fail
      rw [HG.out, HW0.out]
      go_upto_region 2 with (first
        | (refine wpList_load_box rfl 27 _ rfl g rfl (wkC P a) (HX0.out) _ Tryz.underlying27 rfl size_wk ?_)
        | (go_at_call 15; refine (rcopyWk_any P a w0 (HIN.out _ (Below.refl _ _)) (HF.out.more (by decide))).mono ?_; rintro e w4 ⟨a4, rfl, hn4, hb4⟩; dsimp only [wkV, Ad.v]))
      obtain ⟨w5, hw5⟩ : ∃ w5, w5 = w4.alloc (.cells #[.int .i64 P.i, .int .i64 P.N, .int .i64 P.x, .slice a4.O.A a4.O.n a4.O.c, .int .i64 P.g, .int .i64 P.c, .slice a4.W.A a4.W.n a4.W.c, .slice a4.H.A a4.H.n a4.H.c, .slice a4.R.A a4.R.n a4.R.c, .slice none 0 0] 75) := ⟨_, rfl⟩
      obtain ⟨s, hs⟩ : ∃ s, s = w4.heap.size := ⟨_, rfl⟩
      rw [← hw5, ← hs]
      have hst : StAt s w0.heap.size w5 P a4 [] noAd [] := by rw [hw5, hs]; exact st_new hn4 hb4.size
      have hb5 : Below w0.heap.size w0 w5 := by rw [hw5]; exact hb4.alloc hb4.size _
      have HST := Lib.hid hst
      have HB5 := Lib.hid hb5
      have hs0 : w0.heap.size ≤ s := by rw [hs]; exact hb4.size
      have hs5 : s < w5.heap.size := hst.box.1
      have hbz := box_new w5 zeroBC 42
      have HBZ := Lib.hid hbz
      have HMK := Lib.hid (rmake_any P a w5 (HIN.out _ hb5) (HF.out.more (by decide)))
      clear hw5 hs hst hb5 hn4 hb4 hbz
      go_upto_region 5 with (first
        | (refine wpList_load_box rfl 27 _ rfl g rfl (wkC P a) (HX0.out.below HB5.out hl0) _ Tryz.underlying27 rfl size_wk ?_)
        | (go_at_call 46; rw [hmk] at HMK; refine HMK.out.mono ?_; intro e w6 hR; obtain ⟨A1, n1, c1, rfl, ho1, hn1, hb6⟩ := retB_yes hR))
      obtain ⟨w7, hw7⟩ : ∃ w7, w7 = w6.alloc (.cells #[.int .i64 P.i, .int .i64 P.x, .slice A1 n1 c1] 42) := ⟨_, rfl⟩
      obtain ⟨bb, hbb⟩ : ∃ bb, bb = w6.heap.size := ⟨_, rfl⟩
      have bx7 : Box w7 bb [.int .i64 P.i, .int .i64 P.x, .slice A1 n1 c1] := by rw [hw7, hbb]; exact box_new w6 [.int .i64 P.i, .int .i64 P.x, .slice A1 n1 c1] 42
      have hb67 : Below w6.heap.size w6 w7 := by rw [hw7]; exact (Below.refl _ _).alloc (Nat.le_refl _) _
      rw [← hw7, ← hbb]
      have hb57 : Below w5.heap.size w5 w7 := hb6.trans (hb67.mono hb6.size)
      have hb07 : Below w0.heap.size w0 w7 := HB5.out.trans (hb57.mono HB5.out.size)
      have hbbl : bb < w7.heap.size := bx7.1
      have hsbb : s < bb := by have := hb6.size; omega
      clear hw7
      have HB07 := Lib.hid hb07
      clear hb67 hb57 hb07 bx7 ho1 hn1 hb6
      go_wp2_with (first
        | (go_at_call 36; refine (rdigest_is false d HDB.out _).mono ?_; rintro e w' ⟨rfl, rfl⟩))
      go_ret2
      exact ⟨s, rfl, .inl ⟨by decide, by rw [HG.out]; exact HB0.out.trans (HB07.out.mono hgw)⟩⟩
    | true =>
      rw [hdb, if_pos rfl] at hse
      by_cases hd : d ∈ P.hs
      · have HSE : Hid (sealE P d = 4) := by show _ = _; rw [hse, if_pos hd]
        have HDB : Hid (decide (1 ≤ d ∧ d ≤ 65536) = true) := hdb
        have HIX : Hid (0 ≤ idxI P.hs d) := idxI_ge.2 hd
        obtain ⟨r, hr⟩ : ∃ r, r = idxI P.hs d := ⟨_, rfl⟩
        rw [← hr] at HIX
        have HR := Lib.hid hr
        have jr : 0 ≤ r := HIX.out
        rw [HSE.out]
        clear hse hdb hne hd hr
        go_enter Tryz.func51, Tryz.ntmps51
        go_upto_region 1 with fail
        rw [HG.out, HW0.out]
        go_upto_region 2 with (first
          | (refine wpList_load_box rfl 27 _ rfl g rfl (wkC P a) (HX0.out) _ Tryz.underlying27 rfl size_wk ?_)
          | (go_at_call 15; refine (rcopyWk_any P a w0 (HIN.out _ (Below.refl _ _)) (HF.out.more (by decide))).mono ?_; rintro e w4 ⟨a4, rfl, hn4, hb4⟩; dsimp only [wkV, Ad.v]))
        obtain ⟨w5, hw5⟩ : ∃ w5, w5 = w4.alloc (.cells #[.int .i64 P.i, .int .i64 P.N, .int .i64 P.x, .slice a4.O.A a4.O.n a4.O.c, .int .i64 P.g, .int .i64 P.c, .slice a4.W.A a4.W.n a4.W.c, .slice a4.H.A a4.H.n a4.H.c, .slice a4.R.A a4.R.n a4.R.c, .slice none 0 0] 75) := ⟨_, rfl⟩
        obtain ⟨s, hs⟩ : ∃ s, s = w4.heap.size := ⟨_, rfl⟩
        rw [← hw5, ← hs]
        have hst : StAt s w0.heap.size w5 P a4 [] noAd [] := by rw [hw5, hs]; exact st_new hn4 hb4.size
        have hb5 : Below w0.heap.size w0 w5 := by rw [hw5]; exact hb4.alloc hb4.size _
        have HST := Lib.hid hst
        have HB5 := Lib.hid hb5
        have hs0 : w0.heap.size ≤ s := by rw [hs]; exact hb4.size
        have hs5 : s < w5.heap.size := hst.box.1
        have hbz := box_new w5 zeroBC 42
        have HBZ := Lib.hid hbz
        have HMK := Lib.hid (rmake_any P a w5 (HIN.out _ hb5) (HF.out.more (by decide)))
        clear hw5 hs hst hb5 hn4 hb4 hbz
        go_upto_region 5 with (first
          | (refine wpList_load_box rfl 27 _ rfl g rfl (wkC P a) (HX0.out.below HB5.out hl0) _ Tryz.underlying27 rfl size_wk ?_)
          | (go_at_call 46; rw [hmk] at HMK; refine HMK.out.mono ?_; intro e w6 hR; obtain ⟨A1, n1, c1, rfl, ho1, hn1, hb6⟩ := retB_yes hR))
        obtain ⟨w7, hw7⟩ : ∃ w7, w7 = w6.alloc (.cells #[.int .i64 P.i, .int .i64 P.x, .slice A1 n1 c1] 42) := ⟨_, rfl⟩
        obtain ⟨bb, hbb⟩ : ∃ bb, bb = w6.heap.size := ⟨_, rfl⟩
        have bx7 : Box w7 bb [.int .i64 P.i, .int .i64 P.x, .slice A1 n1 c1] := by rw [hw7, hbb]; exact box_new w6 [.int .i64 P.i, .int .i64 P.x, .slice A1 n1 c1] 42
        have hb67 : Below w6.heap.size w6 w7 := by rw [hw7]; exact (Below.refl _ _).alloc (Nat.le_refl _) _
        rw [← hw7, ← hbb]
        have hb57 : Below w5.heap.size w5 w7 := hb6.trans (hb67.mono hb6.size)
        have hb07 : Below w0.heap.size w0 w7 := HB5.out.trans (hb57.mono HB5.out.size)
        have hbbl : bb < w7.heap.size := bx7.1
        have hsbb : s < bb := by have := hb6.size; omega
        clear hw7
        have HB07 := Lib.hid hb07
        have HFI := Lib.hid (sfind_is s w0.heap.size P a4 [] noAd [] d w7 (HST.out.below hb57) (by have := HF.out.h; omega))
        rw [← HR.out] at HFI
        clear hb67 hb57 hb07 bx7 ho1 hn1 hb6
        go_wp2_with (first
          | (go_at_call 36; refine (rdigest_is true d HDB.out _).mono ?_; rintro e w' ⟨rfl, rfl⟩)
          | (go_at_call 84; refine HFI.out.mono ?_; rintro e w' ⟨rfl, rfl⟩))
        go_ret2
        exact ⟨s, rfl, .inl ⟨by decide, by rw [HG.out]; exact HB0.out.trans (HB07.out.mono hgw)⟩⟩
      · exact absurd (by rw [hse, if_neg hd]) hne
  · have HSE : Hid (sealE P d = makeE P) := by show _ = _; rw [sealE, if_pos hmk]
    obtain ⟨E, hE⟩ : ∃ E, E = makeE P := ⟨_, rfl⟩
    have HE := Lib.hid hE
    rw [HSE.out, ← hE]
    rw [← hE] at hmk
    have j1 : (E == 0) = false := by simp [hmk]
    have j2 : (E != 0) = true := by simp [hmk]
    have HK := Lib.hid hmk
    clear hE hne hmk
    go_enter Tryz.func51, Tryz.ntmps51
    go_upto_region 1 with fail
    rw [HG.out, HW0.out]
    go_upto_region 2 with (first
      | (refine wpList_load_box rfl 27 _ rfl g rfl (wkC P a) (HX0.out) _ Tryz.underlying27 rfl size_wk ?_)
      | (go_at_call 15; refine (rcopyWk_any P a w0 (HIN.out _ (Below.refl _ _)) (HF.out.more (by decide))).mono ?_; rintro e w4 ⟨a4, rfl, hn4, hb4⟩; dsimp only [wkV, Ad.v]))
    obtain ⟨w5, hw5⟩ : ∃ w5, w5 = w4.alloc (.cells #[.int .i64 P.i, .int .i64 P.N, .int .i64 P.x, .slice a4.O.A a4.O.n a4.O.c, .int .i64 P.g, .int .i64 P.c, .slice a4.W.A a4.W.n a4.W.c, .slice a4.H.A a4.H.n a4.H.c, .slice a4.R.A a4.R.n a4.R.c, .slice none 0 0] 75) := ⟨_, rfl⟩
    obtain ⟨s, hs⟩ : ∃ s, s = w4.heap.size := ⟨_, rfl⟩
    rw [← hw5, ← hs]
    have hst : StAt s w0.heap.size w5 P a4 [] noAd [] := by rw [hw5, hs]; exact st_new hn4 hb4.size
    have hb5 : Below w0.heap.size w0 w5 := by rw [hw5]; exact hb4.alloc hb4.size _
    have HST := Lib.hid hst
    have HB5 := Lib.hid hb5
    have hs0 : w0.heap.size ≤ s := by rw [hs]; exact hb4.size
    have hs5 : s < w5.heap.size := hst.box.1
    have hbz := box_new w5 zeroBC 42
    have HBZ := Lib.hid hbz
    have HMK := Lib.hid (rmake_any P a w5 (HIN.out _ hb5) (HF.out.more (by decide)))
    clear hw5 hs hst hb5 hn4 hb4 hbz
    rw [← HE.out] at HMK
    go_upto_region 3 with (first
      | (refine wpList_load_box rfl 27 _ rfl g rfl (wkC P a) (HX0.out.below HB5.out hl0) _ Tryz.underlying27 rfl size_wk ?_)
      | (go_at_call 46; refine HMK.out.mono ?_; intro e w6 hR; obtain ⟨x1, x2, A1, n1, c1, rfl, hb6⟩ := retB_no hR))
    obtain ⟨w7, hw7⟩ : ∃ w7, w7 = w6.alloc (.cells #[.int .i64 x1, .int .i64 x2, .slice A1 n1 c1] 42) := ⟨_, rfl⟩
    obtain ⟨bb, hbb⟩ : ∃ bb, bb = w6.heap.size := ⟨_, rfl⟩
    have bx7 : Box w7 bb [.int .i64 x1, .int .i64 x2, .slice A1 n1 c1] := by rw [hw7, hbb]; exact box_new w6 [.int .i64 x1, .int .i64 x2, .slice A1 n1 c1] 42
    have hb67 : Below w6.heap.size w6 w7 := by rw [hw7]; exact (Below.refl _ _).alloc (Nat.le_refl _) _
    rw [← hw7, ← hbb]
    have hb57 : Below w5.heap.size w5 w7 := hb6.trans (hb67.mono hb6.size)
    have hb07 : Below w0.heap.size w0 w7 := HB5.out.trans (hb57.mono HB5.out.size)
    have hbbl : bb < w7.heap.size := bx7.1
    have hsbb : s < bb := by have := hb6.size; omega
    clear hw7
    have HB07 := Lib.hid hb07
    clear hb67 hb57 hb07 bx7 hb6
    go_wp2_with fail
    go_ret2
    exact ⟨s, rfl, .inl ⟨HK.out, by rw [HG.out]; exact HB0.out.trans (HB07.out.mono hgw)⟩⟩

end Go.Proofs.YteepobghdpnabaaGreat
namespace Go.Proofs.YteepobghdpnabaaGreat
open Go.RowKit

def StOk (Q : WkD) (l : List OtD) (w : World) (e : Ending) (w' : World) : Prop := ∃ (s B : Nat) (a : WkA) (o : Ad) (ms : List (OtD × Ad)), e = .returned (.tuple #[.pointer (some ⟨s, 0, none⟩), .int .i64 0]) ∧ w.heap.size ≤ B ∧ StAt s B w' Q a l o ms ∧ Below w.heap.size w w'
def StNo (E : Int) (w : World) (e : Ending) (w' : World) : Prop := ∃ s : Nat, e = .returned (.tuple #[.pointer (some ⟨s, 0, none⟩), .int .i64 E]) ∧ Below w.heap.size w w'
theorem StTo2.ok {Q : WkD} {l : List OtD} {w : World} {e : Ending} {w' : World} (h : StTo2 Q l 0 w e w') : StOk Q l w e w' := by
 obtain ⟨s, he, h | ⟨B, a, o, ms, hB, hst, hb⟩⟩ := h
 ·exact absurd rfl h.1
 ·exact ⟨s, B, a, o, ms, he, hB, hst, hb⟩
theorem StTo2.no {Q : WkD} {l : List OtD} {E : Int} {w : World} {e : Ending} {w' : World} (h : StTo2 Q l E w e w') : StNo E w e w' := by
 obtain ⟨s, he, h | ⟨B, a, o, ms, hB, hst, hb⟩⟩ := h
 ·exact ⟨s, he, h.2⟩
 ·exact ⟨s, he, hb⟩

end Go.Proofs.YteepobghdpnabaaGreat
namespace Go.Proofs.YteepobghdpnabaaGreat
open Go.RowKit Go

theorem zready_7_11 {P : Program} {md : Region.Mode} {Q : Exit → Act → World → Prop} {S : World → Prop} {o0 o1 o2 o3 o4 o5 o6 o7 o8 o9 o10 o11 : Oper} {rest : List Oper} {fuel : Nat} {listed : Array Bool} {a : Act} {w : World}
  (hr : Region.ready md (o0 :: o1 :: o2 :: o3 :: o4 :: o5 :: o6 :: o7 :: o8 :: o9 :: o10 :: o11 :: rest).toArray listed = [7, 11])
  (h7 : ∀ K' : Act → World → Prop, Shut (∀ a w, S w → (S w → wpAnyH P md (o0 :: o1 :: o2 :: o3 :: o4 :: o5 :: o6 :: o7 :: o8 :: o9 :: o10 :: o11 :: rest).toArray Q S fuel (listed.setIfInBounds 7 true) a w) → K' a w) → if Region.wanted o7 (yielded (o0 :: o1 :: o2 :: o3 :: o4 :: o5 :: o6 :: o7 :: o8 :: o9 :: o10 :: o11 :: rest).toArray a.tmps) = true then Oper.wp P o7 a w K' Q else K' (a.put o7.dst undef) w)
  (h11 : ∀ K' : Act → World → Prop, Shut (∀ a w, S w → (S w → wpAnyH P md (o0 :: o1 :: o2 :: o3 :: o4 :: o5 :: o6 :: o7 :: o8 :: o9 :: o10 :: o11 :: rest).toArray Q S fuel (listed.setIfInBounds 11 true) a w) → K' a w) → if Region.wanted o11 (yielded (o0 :: o1 :: o2 :: o3 :: o4 :: o5 :: o6 :: o7 :: o8 :: o9 :: o10 :: o11 :: rest).toArray a.tmps) = true then Oper.wp P o11 a w K' Q else K' (a.put o11.dst undef) w) :
  wpAnyH P md (o0 :: o1 :: o2 :: o3 :: o4 :: o5 :: o6 :: o7 :: o8 :: o9 :: o10 :: o11 :: rest).toArray Q S (fuel + 1) listed a w :=
 wpAnyH_ready hr (by simp) (AllReadyH.cons (i := 7) (o := o7) rfl h7 (AllReadyH.cons (i := 11) (o := o11) rfl h11 AllReadyH.nil))
theorem zready_7_13 {P : Program} {md : Region.Mode} {Q : Exit → Act → World → Prop} {S : World → Prop} {o0 o1 o2 o3 o4 o5 o6 o7 o8 o9 o10 o11 o12 o13 : Oper} {rest : List Oper} {fuel : Nat} {listed : Array Bool} {a : Act} {w : World}
  (hr : Region.ready md (o0 :: o1 :: o2 :: o3 :: o4 :: o5 :: o6 :: o7 :: o8 :: o9 :: o10 :: o11 :: o12 :: o13 :: rest).toArray listed = [7, 13])
  (h7 : ∀ K' : Act → World → Prop, Shut (∀ a w, S w → (S w → wpAnyH P md (o0 :: o1 :: o2 :: o3 :: o4 :: o5 :: o6 :: o7 :: o8 :: o9 :: o10 :: o11 :: o12 :: o13 :: rest).toArray Q S fuel (listed.setIfInBounds 7 true) a w) → K' a w) → if Region.wanted o7 (yielded (o0 :: o1 :: o2 :: o3 :: o4 :: o5 :: o6 :: o7 :: o8 :: o9 :: o10 :: o11 :: o12 :: o13 :: rest).toArray a.tmps) = true then Oper.wp P o7 a w K' Q else K' (a.put o7.dst undef) w)
  (h13 : ∀ K' : Act → World → Prop, Shut (∀ a w, S w → (S w → wpAnyH P md (o0 :: o1 :: o2 :: o3 :: o4 :: o5 :: o6 :: o7 :: o8 :: o9 :: o10 :: o11 :: o12 :: o13 :: rest).toArray Q S fuel (listed.setIfInBounds 13 true) a w) → K' a w) → if Region.wanted o13 (yielded (o0 :: o1 :: o2 :: o3 :: o4 :: o5 :: o6 :: o7 :: o8 :: o9 :: o10 :: o11 :: o12 :: o13 :: rest).toArray a.tmps) = true then Oper.wp P o13 a w K' Q else K' (a.put o13.dst undef) w) :
  wpAnyH P md (o0 :: o1 :: o2 :: o3 :: o4 :: o5 :: o6 :: o7 :: o8 :: o9 :: o10 :: o11 :: o12 :: o13 :: rest).toArray Q S (fuel + 1) listed a w :=
 wpAnyH_ready hr (by simp) (AllReadyH.cons (i := 7) (o := o7) rfl h7 (AllReadyH.cons (i := 13) (o := o13) rfl h13 AllReadyH.nil))

section
variable {α : Type} {K : Kd α} {w w1 w2 : World} {a a' o : Ad} {ms : List (α × Ad)} {B : Nat}
theorem RowOwn.pushF (h : RowOwn K B w a ms) (hb : Below w.heap.size w w1) {x : α} (ho : w1.ownsRow B K.e2 K.s2 o.v o.n (K.bd x)) (hl : K.len x = o.n) (hf : ∀ z ∈ ms, ∀ k, z.2.v.ownBlock = some k → o.v.ownBlock ≠ some k) {b : Obj} (hg : (w1.alloc b).grownBy w2 a.v.ownBlock)
  (hr : w2.ownsRow B K.e K.s a'.v a'.n (cellsK K ms ++ K.cells x o.v)) (hn : a'.n = a.n + 1) : RowOwn K B w2 a' (ms ++ [(x, o)]) := by
 have hT : Touch (fun k => a.v.ownBlock = some k) w1 w2 := ((Touch.refl (fun k => a.v.ownBlock = some k) w1).alloc b).on (Touch.grown hg fun k hk => hk)
 have h1 := h.below hb
 refine ⟨by rw [cellsK_append, cellsK_one]; exact hr, by rw [List.length_append, h.len, hn]; rfl, fun y hy => ?_, ?_⟩
 ·rcases List.mem_append.1 hy with hy | hy
  ·exact ⟨own_kept (h1.sub y hy).1 fun k hk hl => hT.block k hl fun hf => h1.apart hy hf hk, (h1.sub y hy).2⟩
  ·rw [List.mem_singleton] at hy
   subst hy
   exact ⟨own_kept ho fun k hk hl => hT.block k hl fun hf => own_unlike h1.row ho K.ne hf hk, hl⟩
 ·rw [List.pairwise_append]
  refine ⟨h.nod, List.pairwise_singleton _ _, fun x hx y hy k k1 k2 => ?_⟩
  rw [List.mem_singleton] at hy
  subst hy
  exact hf x hx k k1 k2
theorem RowOwn.pushG (h : RowOwn K B w1 a ms) {x : α} (ho : w1.ownsRow B K.e2 K.s2 o.v o.n (K.bd x)) (hl : K.len x = o.n) (hf : ∀ z ∈ ms, ∀ k, z.2.v.ownBlock = some k → o.v.ownBlock ≠ some k) (hg : w1.grownBy w2 a.v.ownBlock)
  (hr : w2.ownsRow B K.e K.s a'.v a'.n (cellsK K ms ++ K.cells x o.v)) (hn : a'.n = a.n + 1) : RowOwn K B w2 a' (ms ++ [(x, o)]) := by
 have hT : Touch (fun k => a.v.ownBlock = some k) w1 w2 := Touch.grown hg fun k hk => hk
 refine ⟨by rw [cellsK_append, cellsK_one]; exact hr, by rw [List.length_append, h.len, hn]; rfl, fun y hy => ?_, ?_⟩
 ·rcases List.mem_append.1 hy with hy | hy
  ·exact ⟨own_kept (h.sub y hy).1 fun k hk hl => hT.block k hl fun hf => h.apart hy hf hk, (h.sub y hy).2⟩
  ·rw [List.mem_singleton] at hy
   subst hy
   exact ⟨own_kept ho fun k hk hl => hT.block k hl fun hf => own_unlike h.row ho K.ne hf hk, hl⟩
 ·rw [List.pairwise_append]
  refine ⟨h.nod, List.pairwise_singleton _ _, fun x hx y hy k k1 k2 => ?_⟩
  rw [List.mem_singleton] at hy
  subst hy
  exact hf x hx k k1 k2
end
section
variable {g B : Nat} {w w' : World} {P : WkD} {a : WkA} {l : List OtD} {o ao : Ad} {ms : List (OtD × Ad)} {L : List TxD}
theorem StAt.setO (h : StAt g B w P a l o ms) (hb : Box w' g (wkC { P with O := L } { a with O := ao } ++ [o.v])) (ht : Touch (fun k => k = g) w w') (hS : SlIn w ao L.length (txs L)) (hat : ∀ k, ao.at_ k → a.O.at_ k) : StAt g B w' { P with O := L } { a with O := ao } l o ms := by
 have hc := h.pg.core.touch ht (fun k hk ho => h.far0 k (.inl ho) hk)
 have hfa : ∀ k, ao.at_ k → k ≠ g := fun k hk => h.far0 k (.inr (.inl (hat k hk)))
 refine ⟨hb, ⟨⟨hc.waits, hc.eW, hc.held, hc.eH, hc.ready, hc.rL, hc.apR⟩, hS.touch ht (fun x hx hf => hfa _ ⟨x, hx, rfl⟩ hf), fun x hx => ?_⟩, h.out.touch ht (fun k hk hf => h.far0 k (.inr (.inr (.inl hk))) hf) (fun y hy k hk hf => h.far0 k (.inr (.inr (.inr ⟨y, hy, hk⟩))) hf), h.eO, ?_, h.ap, h.gB, by have := h.le; have := ht.size; omega⟩
 ·obtain ⟨x', hx', hxb⟩ := hat x.block ⟨x, hx, rfl⟩
  obtain ⟨cur, hcur⟩ := h.pg.typ x' hx'
  rw [hxb] at hcur
  exact ⟨cur, (ht.block _ (lt_of_block hcur) (hfa _ ⟨x, hx, rfl⟩)).trans hcur⟩
 ·rintro k (hk | hk | hk)
  ·exact h.far0 k (.inl hk)
  ·exact hfa k hk
  ·exact h.far0 k (.inr (.inr hk))
end
theorem slIn_rest {w : World} {A : Option Addr} {n c p : Nat} {L : List TxD} (h : SlIn w ⟨A, n, c⟩ L.length (txs L)) (hp : p ≤ n) : SlIn w ⟨restA A c p 4, n - p, c - p⟩ (L.drop p).length (txs (L.drop p)) := by
  have hl : L.length = n := h.len
  have hc : n ≤ c := h.cap
  have hm : c ≤ maxLen := h.max
  refine ⟨by rw [List.length_drop]; simp only; omega, by simp only; omega, by simp only; omega, ?_⟩
  intro hne
  have hpn : p < n := by
    rcases Nat.lt_or_ge p n with h1 | h1
    · exact h1
    · rw [List.drop_of_length_le (by omega)] at hne
      exact absurd rfl hne
  obtain ⟨b, off, hA, hb, hcl⟩ := h.rd.open_ (by rw [txs_length, hl]; omega)
  simp only at hA
  subst hA
  refine ⟨b, off + p * 4, ?_, hb, fun i v hi => ?_⟩
  · show restA _ _ _ _ = _
    rw [restA, if_neg (by omega)]
    rfl
  · rw [Nat.add_assoc]
    refine hcl _ v ?_
    rw [← hi, ← List.getElem?_drop]
    congr 1
    conv => lhs; rw [← List.take_append_drop p L, txs_append]
    rw [List.drop_left' (by rw [txs_length, List.length_take, hl]; omega)]
theorem restA_at {A : Option Addr} {n c p s : Nat} {k : Nat} (h : Ad.at_ ⟨restA A c p s, n - p, c - p⟩ k) : Ad.at_ ⟨A, n, c⟩ k := by
 obtain ⟨x, hx, hk⟩ := h
 simp only [restA] at hx
 split at hx
 ·exact ⟨x, hx, hk⟩
 ·cases A with
  | none => cases hx
  | some y =>
   simp only [Option.map_some, Option.some.injEq] at hx
   exact ⟨y, rfl, by rw [← hk, ← hx]⟩
theorem riseI_insR {l : List Int} {d : Int} (h : RiseI l) (hd : d ∉ l) : RiseI (insAt l (posI l d) d) := by
  have hp := posI_le l d
  obtain ⟨p, hpe⟩ : ∃ p, p = posI l d := ⟨_, rfl⟩
  have hlen : (l.take p).length = p := by rw [List.length_take]; omega
  refine riseI_of fun i x y hx hy => ?_
  rw [← hpe] at hx hy hp
  unfold insAt at hx hy
  rcases Nat.lt_or_ge (i + 1) p with h1 | h1
  · rw [List.getElem?_append_left (by omega), List.getElem?_take, if_pos (by omega)] at hx
    rw [List.getElem?_append_left (by omega), List.getElem?_take, if_pos h1] at hy
    exact h i (i + 1) x y (by omega) hx hy
  · rcases Nat.lt_or_ge i p with h2 | h2
    · have e : i + 1 = p := by omega
      rw [List.getElem?_append_left (by omega), List.getElem?_take, if_pos (by omega)] at hx
      rw [List.getElem?_append_right (by omega), hlen, e, Nat.sub_self] at hy
      simp at hy
      rw [← hy]
      exact posI_below (by omega) hx
    · rw [List.getElem?_append_right (by omega), hlen] at hx hy
      rw [show i + 1 - p = (i - p) + 1 by omega, List.getElem?_cons_succ, List.getElem?_drop] at hy
      rcases Nat.eq_zero_or_pos (i - p) with h3 | h3
      · rw [h3] at hx hy
        simp at hx
        rw [Nat.add_zero, hpe] at hy
        have h4 := posI_at hy
        rw [← hx]
        rcases Int.lt_or_eq_of_le h4 with h5 | h5
        · exact h5
        · exact absurd (by rw [h5]; exact List.mem_of_getElem? hy) hd
      · obtain ⟨q, hq⟩ : ∃ q, i - p = q + 1 := ⟨i - p - 1, by omega⟩
        rw [hq] at hx hy
        rw [List.getElem?_cons_succ, List.getElem?_drop] at hx
        exact h (p + q) (p + (q + 1)) x y (by omega) hx hy
theorem seal_rise {P : WkD} {d : Int} (h : MayW P) : RiseI (sealM P d).ds := by
 obtain ⟨P2, h2⟩ : ∃ P2, P2 = holdW { P with O := P.O.drop 8, x := P.x + 1, g := 0 } d P.i P.x (makeL P) := ⟨_, rfl⟩
 have e : sealM P d = waitW P2 d := by rw [h2]; rfl
 have a2 := holdW_same (P := { P with O := P.O.drop 8, x := P.x + 1, g := 0 }) (d := d) (a := P.i) (n := P.x) (L := makeL P)
 rw [← h2] at a2
 have hr : RiseI P2.ds := by rw [WkD.ds, a2.2.2.1]; exact h.drise
 rw [e]
 unfold waitW
 split
 ·exact hr
 ·rename_i hd
  show RiseI ((insAt P2.W (posI P2.ds d) ⟨d, [P2.i]⟩).map WtD.d)
  have : (insAt P2.W (posI P2.ds d) ⟨d, [P2.i]⟩).map WtD.d = insAt P2.ds (posI P2.ds d) d := by simp [insAt, WkD.ds, List.map_take, List.map_drop]
  rw [this]
  exact riseI_insR hr hd

end Go.Proofs.YteepobghdpnabaaGreat
