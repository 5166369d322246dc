/-
 Package worker's Back.
-/
import Derived.Lib.Hide
import Derived.Lib.MinMax
import Derived.Test.YteepobghdpnabaaGreatKBab
import Derived.Test.YteepobghdpnabaaGreatKBaf
import Derived.Test.YteepobghdpnabaaGreatKBq
import Derived.Test.YteepobghdpnabaaGreatKBae
import Derived.Test.YteepobghdpnabaaGreatKBp
import Derived.Test.YteepobghdpnabaaGreatKBaa
import Derived.Test.YteepobghdpnabaaGreatKBx
namespace Go.Proofs.YteepobghdpnabaaGreat
open Go.RowKit

theorem backL_snoc : ∀ (R l b : List Int) (d : Int), backL R (l ++ [d]) b = if digB d = true ∧ d ∉ R ∧ d ∉ backL R l b then backL R l b ++ [d] else backL R l b
 | _, [], _, _ => rfl
 | R, x :: r, b, d => by
  rw [List.cons_append, backL, backL]
  exact backL_snoc R r _ d
theorem backL_next {R l : List Int} {k : Nat} {d : Int} (h : l[k]? = some d) : backL R (l.take (k + 1)) [] = if digB d = true ∧ d ∉ R ∧ d ∉ backL R (l.take k) [] then backL R (l.take k) [] ++ [d] else backL R (l.take k) [] := by
 rw [take_nxt h, backL_snoc]
structure BL (D b : Nat) (w : World) (R l : List Int) (o : Ad) (k m : Nat) (wr : World) : Prop where
 row : wr.ownsRow D 3 1 o.v o.n (i64s (backL R (l.take k) []))
 len : (backL R (l.take k) []).length = o.n
 set : SetIs wr b m (R ++ backL R (l.take k) [])
 bel : Below D w wr
 bD : D ≤ b
section
variable {D b k m : Nat} {w wr w1 w2 : World} {R l : List Int} {o o' : Ad} {d : Int}
theorem BL.below (h : BL D b w R l o k m wr) (hb : Below wr.heap.size wr w1) (hD : D ≤ wr.heap.size) : BL D b w R l o k m w1 :=
 ⟨ownS_below h.row hb, h.len, h.set.below hb, h.bel.trans (hb.mono hD), h.bD⟩
theorem BL.skip (h : BL D b w R l o k m wr) (hd : l[k]? = some d) (hn : ¬ (digB d = true ∧ d ∉ R ∧ d ∉ backL R (l.take k) [])) : BL D b w R l o (k + 1) m wr := by
 have e := backL_next (R := R) hd
 rw [if_neg hn] at e
 exact ⟨by rw [e]; exact h.row, by rw [e]; exact h.len, by rw [e]; exact h.set, h.bel, h.bD⟩
theorem BL.apart (h : BL D b w R l o k m wr) : ∀ j, o.v.ownBlock = some j → j ≠ b := fun j hj e => by
 subst e
 obtain ⟨D', ⟨es, clock, hmp, _⟩, _⟩ := h.set
 obtain ⟨cur, hcur⟩ := own_typeZ h.row hj
 rw [hmp] at hcur
 cases hcur
theorem BL.push (h : BL D b w R l o k m wr) (hD : D ≤ wr.heap.size) (hd : l[k]? = some d) (h1 : digB d = true) (h2 : d ∉ R) (h3 : d ∉ backL R (l.take k) []) (hg : wr.grownBy w1 (some b)) (hs : SetIs w1 b (m + 1) ((R ++ backL R (l.take k) []) ++ [d])) {ob : Obj}
  (ho : w2.ownsRow D 3 1 o'.v o'.n (i64s (backL R (l.take k) []) ++ [.int .i64 d])) (hg2 : (w1.alloc ob).grownBy w2 o.v.ownBlock) (hn : o'.n = o.n + 1) : BL D b w R l o' (k + 1) (m + 1) w2 := by
 have e := backL_next (R := R) hd
 rw [if_pos ⟨h1, h2, h3⟩] at e
 have T1 : Touch (fun j => j = b) wr w1 := Touch.grown hg fun j hj => by cases hj; rfl
 have hT : Touch (fun j => o.v.ownBlock = some j) w1 w2 := ((Touch.refl (fun j => o.v.ownBlock = some j) w1).alloc ob).on (Touch.grown hg2 fun j hj => hj)
 have hsz := T1.size
 refine ⟨by rw [e, i64s_append]; exact ho, by rw [e, List.length_append, h.len, hn]; rfl, ?_, (h.bel.trans (T1.below (fun j hj => by have := h.bD; omega) hD)).trans (hT.below (fun j hj => (own_lt h.row hj).2) (by omega)), h.bD⟩
 rw [e, ← List.append_assoc]
 exact hs.block (hT.block b hs.lt fun hf => h.apart b hf rfl)
end

end Go.Proofs.YteepobghdpnabaaGreat
namespace Go.Proofs.YteepobghdpnabaaGreat
open Go.RowKit

def StTo2 (Q : WkD) (l : List OtD) (E : Int) (w : World) (e : Ending) (w' : World) : Prop := ∃ s : Nat, e = .returned (.tuple #[.pointer (some ⟨s, 0, none⟩), .int .i64 E]) ∧ ((E ≠ 0 ∧ Below w.heap.size w w') ∨ (∃ (B : Nat) (a : WkA) (o : Ad) (ms : List (OtD × Ad)), w.heap.size ≤ B ∧ StAt s B w' Q a l o ms ∧ Below w.heap.size w w'))
end Go.Proofs.YteepobghdpnabaaGreat
namespace Go.Proofs.YteepobghdpnabaaGreat
open Go.RowKit

def StOk (Q : WkD) (l : List OtD) (w : World) (e : Ending) (w' : World) : Prop := ∃ (s B : Nat) (a : WkA) (o : Ad) (ms : List (OtD × Ad)), e = .returned (.tuple #[.pointer (some ⟨s, 0, none⟩), .int .i64 0]) ∧ w.heap.size ≤ B ∧ StAt s B w' Q a l o ms ∧ Below w.heap.size w w'
def StNo (E : Int) (w : World) (e : Ending) (w' : World) : Prop := ∃ s : Nat, e = .returned (.tuple #[.pointer (some ⟨s, 0, none⟩), .int .i64 E]) ∧ Below w.heap.size w w'
theorem StTo2.ok {Q : WkD} {l : List OtD} {w : World} {e : Ending} {w' : World} (h : StTo2 Q l 0 w e w') : StOk Q l w e w' := by
 obtain ⟨s, he, h | ⟨B, a, o, ms, hB, hst, hb⟩⟩ := h
 ·exact absurd rfl h.1
 ·exact ⟨s, B, a, o, ms, he, hB, hst, hb⟩
theorem StTo2.no {Q : WkD} {l : List OtD} {E : Int} {w : World} {e : Ending} {w' : World} (h : StTo2 Q l E w e w') : StNo E w e w' := by
 obtain ⟨s, he, h | ⟨B, a, o, ms, hB, hst, hb⟩⟩ := h
 ·exact ⟨s, he, h.2⟩
 ·exact ⟨s, he, hb⟩

end Go.Proofs.YteepobghdpnabaaGreat
namespace Go.Proofs.YteepobghdpnabaaGreat
open Go.RowKit Go

section
variable {α : Type} {K : Kd α} {w w1 w2 : World} {a a' o : Ad} {ms : List (α × Ad)} {B : Nat}
end
section
variable {g B : Nat} {w w' : World} {P : WkD} {a : WkA} {l : List OtD} {o ao : Ad} {ms : List (OtD × Ad)} {L : List TxD}
theorem StAt.setO (h : StAt g B w P a l o ms) (hb : Box w' g (wkC { P with O := L } { a with O := ao } ++ [o.v])) (ht : Touch (fun k => k = g) w w') (hS : SlIn w ao L.length (txs L)) (hat : ∀ k, ao.at_ k → a.O.at_ k) : StAt g B w' { P with O := L } { a with O := ao } l o ms := by
 have hc := h.pg.core.touch ht (fun k hk ho => h.far0 k (.inl ho) hk)
 have hfa : ∀ k, ao.at_ k → k ≠ g := fun k hk => h.far0 k (.inr (.inl (hat k hk)))
 refine ⟨hb, ⟨⟨hc.waits, hc.eW, hc.held, hc.eH, hc.ready, hc.rL, hc.apR⟩, hS.touch ht (fun x hx hf => hfa _ ⟨x, hx, rfl⟩ hf), fun x hx => ?_⟩, h.out.touch ht (fun k hk hf => h.far0 k (.inr (.inr (.inl hk))) hf) (fun y hy k hk hf => h.far0 k (.inr (.inr (.inr ⟨y, hy, hk⟩))) hf), h.eO, ?_, h.ap, h.gB, by have := h.le; have := ht.size; omega⟩
 ·obtain ⟨x', hx', hxb⟩ := hat x.block ⟨x, hx, rfl⟩
  obtain ⟨cur, hcur⟩ := h.pg.typ x' hx'
  rw [hxb] at hcur
  exact ⟨cur, (ht.block _ (lt_of_block hcur) (hfa _ ⟨x, hx, rfl⟩)).trans hcur⟩
 ·rintro k (hk | hk | hk)
  ·exact h.far0 k (.inl hk)
  ·exact hfa k hk
  ·exact h.far0 k (.inr (.inr hk))
end
end Go.Proofs.YteepobghdpnabaaGreat
namespace Go.Proofs.YteepobghdpnabaaGreat
open Go.RowKit

structure SameL (m m' : MsgD) : Prop where
 L : m'.L = m.L
 hB : m'.hB = m.hB
 hP : m'.hP = m.hP
 cB : m'.cB = m.cB
 cP : m'.cP = m.cP
 cS : m'.cS = m.cS
 D : m'.D = m.D
 k : m'.k = m.k
theorem MsgIn.same {w : World} {m m' : MsgD} {a : MsgA} (h : MsgIn w m a) (s : SameL m m') : MsgIn w m' a :=
 ⟨by rw [s.L]; exact h.zL, by rw [s.L]; exact h.rL, h.kL, h.xL, by rw [s.hB]; exact h.zhB, by rw [s.hB]; exact h.rhB, h.khB, h.xhB, by rw [s.hP]; exact h.zhP, by rw [s.hP]; exact h.rhP, h.khP, h.xhP, by rw [s.cB]; exact h.zcB, by rw [s.cB]; exact h.rcB, h.kcB, h.xcB, by rw [s.cP]; exact h.zcP, by rw [s.cP]; exact h.rcP, h.kcP, h.xcP, by rw [s.cS]; exact h.zcS, by rw [s.cS]; exact h.rcS, h.kcS, h.xcS, by rw [s.D]; exact h.zD, by rw [s.D]; exact h.rD, h.kD, h.xD⟩
structure FitAt (w3 : World) (q : Nat) (m : MsgD) (am : MsgA) (w : World) (M : MsgD) : Prop where
 bel : Below w3.heap.size w3 w
 box : Box w q (msgC M am)
 ok : MsgOk M
 same : SameL m M
theorem FitAt.below {w3 w w' : World} {q : Nat} {m M : MsgD} {am : MsgA} (h : FitAt w3 q m am w M) (hb : Below w.heap.size w w') : FitAt w3 q m am w' M := ⟨h.bel.trans (hb.mono h.bel.size), h.box.below hb h.box.1, h.ok, h.same⟩
end Go.Proofs.YteepobghdpnabaaGreat
