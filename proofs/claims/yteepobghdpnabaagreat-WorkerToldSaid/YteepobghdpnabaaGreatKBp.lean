/-
 The page's worker that goes on, and what it hands out: where it lies; its search, one message more.
-/
import Derived.Great.BuildSlice
import Derived.Test.YteepobghdpnabaaGreatKBg
import Derived.Test.YteepobghdpnabaaGreatKBj
import Derived.Test.YteepobghdpnabaaGreatKBk
import Derived.Test.YteepobghdpnabaaGreatKBn
import Derived.Test.YteepobghdpnabaaGreatKBo
import Derived.Test.YteepobghdpnabaaGreatKBc
import Derived.Test.YteepobghdpnabaaGreatKBf
import Derived.Test.YteepobghdpnabaaGreatKBi
import Derived.Test.YteepobghdpnabaaGreatKBh
namespace Go.Proofs.YteepobghdpnabaaGreat
open Go.RowKit

def stHas (a : WkA) (o : Ad) (ms : List (OtD × Ad)) (k : Nat) : Prop := a.owns k ∨ a.O.at_ k ∨ o.v.ownBlock = some k ∨ ∃ y ∈ ms, y.2.v.ownBlock = some k
structure StAt (g B : Nat) (w : World) (P : WkD) (a : WkA) (l : List OtD) (o : Ad) (ms : List (OtD × Ad)) : Prop where
 box : Box w g (wkC P a ++ [o.v])
 pg : WPg B w P a
 out : RowOwn KM B w o ms
 eO : ms.map Prod.fst = l
 far0 : ∀ k, stHas a o ms k → k ≠ g
 ap : ∀ y ∈ ms, ∀ z ∈ a.hs, ∀ k, y.2.v.ownBlock = some k → z.2.v.ownBlock ≠ some k
 gB : B ≤ g
 le : B ≤ w.heap.size
section
variable {g B : Nat} {w w' w1 w2 : World} {P : WkD} {a : WkA} {l : List OtD} {o o2 ob : Ad} {ms : List (OtD × Ad)}
theorem StAt.below (h : StAt g B w P a l o ms) (hb : Below w.heap.size w w') : StAt g B w' P a l o ms :=
 ⟨h.box.below hb h.box.1, h.pg.below hb, h.out.below hb, h.eO, h.far0, h.ap, h.gB, by have := h.le; have := hb.size; omega⟩
theorem StAt.cells (h : StAt g B w P a l o ms) : w.cell? ⟨g, 0, none⟩ = some (.int .i64 P.i) ∧ w.cell? ⟨g, 1, none⟩ = some (.int .i64 P.N) ∧ w.cell? ⟨g, 2, none⟩ = some (.int .i64 P.x) ∧ w.cell? ⟨g, 3, none⟩ = some (.slice a.O.A a.O.n a.O.c) ∧ w.cell? ⟨g, 4, none⟩ = some (.int .i64 P.g) ∧ w.cell? ⟨g, 5, none⟩ = some (.int .i64 P.c) ∧
  w.cell? ⟨g, 6, none⟩ = some (.slice a.W.A a.W.n a.W.c) ∧ w.cell? ⟨g, 7, none⟩ = some (.slice a.H.A a.H.n a.H.c) ∧ w.cell? ⟨g, 8, none⟩ = some (.slice a.R.A a.R.n a.R.c) ∧ w.cell? ⟨g, 9, none⟩ = some (.slice o.A o.n o.c) :=
 ⟨(h.box.2 0 _ rfl).1, (h.box.2 1 _ rfl).1, (h.box.2 2 _ rfl).1, (h.box.2 3 _ rfl).1, (h.box.2 4 _ rfl).1, (h.box.2 5 _ rfl).1, (h.box.2 6 _ rfl).1, (h.box.2 7 _ rfl).1, (h.box.2 8 _ rfl).1, (h.box.2 9 _ rfl).1⟩
theorem StAt.wk (h : StAt g B w P a l o ms) : Box w g (wkC P a) := ⟨h.box.1, fun j v hj => h.box.2 j v (by rw [List.getElem?_append_left (List.getElem?_eq_some_iff.1 hj).1]; exact hj)⟩
theorem StAt.far (h : StAt g B w P a l o ms) {F : Nat → Prop} (ht : Touch F w w') (hF : ∀ k, F k → k ≠ g ∧ ¬ stHas a o ms k) : StAt g B w' P a l o ms :=
 ⟨h.box.touch ht (fun hf => (hF g hf).1 rfl), h.pg.touch ht (fun k hk ho => (hF k hk).2 (.inl ho)) (fun k hk ho => (hF k hk).2 (.inr (.inl ho))),
  h.out.touch ht (fun k hk hf => (hF k hf).2 (.inr (.inr (.inl hk)))) (fun y hy k hk hf => (hF k hf).2 (.inr (.inr (.inr ⟨y, hy, hk⟩)))), h.eO, h.far0, h.ap, h.gB, by have := h.le; have := ht.size; omega⟩
end

theorem mesZ_have : ∃ ie, Tryz.prog.info? 48 = some ie ∧ ie.zero = some (msgV zeroM zeroA) ∧ ie.size = 18 := by
 have h : (Tryz.prog.info? 48).map (fun i => (i.zero, i.size, i.bytes)) = some (some (msgV zeroM zeroA), 18, 256) := by kernel_rfl
 cases hie : Tryz.prog.info? 48 with
 | none => rw [hie] at h; cases h
 | some ie =>
  rw [hie] at h
  simp only [Option.map_some, Option.some.injEq, Prod.mk.injEq] at h
  exact ⟨ie, rfl, h.1, h.2.1⟩
end Go.Proofs.YteepobghdpnabaaGreat
namespace Go.Proofs.YteepobghdpnabaaGreat
open Go.RowKit Go.ChangeShapes Go.WideShapes Go.Deep

theorem list_uptoG {α : Type} {P : Nat → α → Prop} : ∀ {n : Nat}, (∀ i, i < n → ∃ a, P i a) → ∃ L : List α, L.length = n ∧ ∀ i x, L[i]? = some x → P i x
 | 0, _ => ⟨[], rfl, fun i x hx => by simp at hx⟩
 | n + 1, h => by
  obtain ⟨L, hl, hL⟩ := list_uptoG (n := n) fun i hi => h i (by omega)
  obtain ⟨x, hx⟩ := h n (by omega)
  refine ⟨L ++ [x], by simp [hl], fun i y hy => ?_⟩
  rcases Nat.lt_or_ge i n with hi | hi
  ·exact hL i y (by rwa [List.getElem?_append_left (by omega)] at hy)
  ·rw [List.getElem?_append_right (by omega), hl] at hy
   have h0 : i - n = 0 := by
    rcases Nat.eq_zero_or_pos (i - n) with h0 | h0
    ·exact h0
    ·rw [List.getElem?_eq_none (by simp; omega)] at hy; cases hy
   rw [h0] at hy
   simp at hy
   have : i = n := by omega
   subst this hy
   exact hx
section
variable {α : Type} (cells : α → List Value)
theorem flat_len {sz : Nat} (hs : ∀ x, (cells x).length = sz) (M : List α) : (M.flatMap cells).length = M.length * sz := by
 induction M with
 | nil => simp
 | cons x l ih => rw [List.flatMap_cons, List.length_append, ih, hs, List.length_cons, Nat.succ_mul]; omega
theorem flat_at {sz : Nat} (hs : ∀ x, (cells x).length = sz) : ∀ {M : List α} {i : Nat} {x : α}, M[i]? = some x → ∀ {j : Nat} {v : Value}, (cells x)[j]? = some v → (M.flatMap cells)[i * sz + j]? = some v
 | [], _, _, h, _, _, _ => by simp at h
 | y :: l, 0, x, h, j, v, hv => by
  simp at h
  subst h
  rw [List.flatMap_cons, Nat.zero_mul, Nat.zero_add, List.getElem?_append_left (List.getElem?_eq_some_iff.1 hv).1]
  exact hv
 | y :: l, i + 1, x, h, j, v, hv => by
  have ih := flat_at hs (M := l) (i := i) (by simpa using h) hv
  rw [List.flatMap_cons, List.getElem?_append_right (by rw [hs, Nat.succ_mul]; omega), hs, show (i + 1) * sz + j - sz = i * sz + j by rw [Nat.succ_mul]; omega]
  exact ih
end

theorem open_rowG {α : Type} (cells : α → List Value) (Ok : α → Prop) {sz : Nat} (hs : ∀ x, (cells x).length = sz) (hpos : 0 < sz) {H : Type} {enc : TypeId × Value → H} {P : Program} {w : World} {base : Nat} {spare : Nat → Bool} {held : Bool} {t e : TypeId} {fuel : Nat} {v : Value} {x : DataW H × List MemPlace}
  (ht : P.underlying t = some (.slice e)) (hc : P.cellsOf e = sz)
  (elem : ∀ (fuel : Nat) (cs : List Value) (y : DataW H × List MemPlace), DataW.trod enc P w base spare held fuel e cs = some y → cs.length = sz → (∀ n ∈ y.1.weights P e, n ≤ reachBytes) → ∃ a, cs = cells a ∧ Ok a)
  (h : DataW.trod enc P w base spare held fuel t [v] = some x) (hw : ∀ n ∈ x.1.weights P t, n ≤ reachBytes) :
  ∃ (A : Option Addr) (c : Nat) (M : List α), v = .slice A M.length c ∧ M.length ≤ c ∧ c ≤ maxLen ∧ Rd w A (M.flatMap cells) ∧ ∀ y ∈ M, Ok y := by
 rcases open_slice ht h with ⟨h0, _⟩ | ⟨ad, len, cap, m, n, D, Pl, h0, _, hl, hm, hmm, hz, hi⟩
 ·simp only [List.cons.injEq, and_true] at h0
  subst h0
  exact ⟨none, 0, [], rfl, by simp, by simp [maxLen], Rd.nil _ _, fun y hy => by simp at hy⟩
 ·simp only [List.cons.injEq, and_true] at h0
  subst h0
  have hlm : len ≤ m := by rw [hmm]; split <;> omega
  obtain ⟨M, hML, hM⟩ := list_uptoG (α := α) (P := fun i y => (∀ (j : Nat) (u : Value), (cells y)[j]? = some u → w.cell? (ad.add (i * sz + j)) = some u) ∧ Ok y) (n := len) fun i hil => by
   obtain ⟨cs, hcs, htr⟩ := hi i (by omega)
   rw [hc] at hcs
   obtain ⟨_, hcl, hat⟩ := World.cells?_some hcs
   have hwi : ∀ k ∈ (D i).weights P e, k ≤ reachBytes := fun k hk => hw k (by
    rw [hz]
    exact weights_slice ht (List.mem_map.2 ⟨i, List.mem_range.2 hil, rfl⟩) hk)
   obtain ⟨a, rfl, hok⟩ := elem _ cs _ htr hcl hwi
   exact ⟨a, fun j u hu => by
    have hj : j < sz := by rw [← hs a]; exact (List.getElem?_eq_some_iff.1 hu).1
    have := hat j hj
    rw [Addr.add_add] at this
    rw [this]
    exact hu, hok⟩
  refine ⟨some ad, cap, M, by rw [hML], by omega, hm, rd_of fun i u hu => ?_, fun y hy => ?_⟩
  ·have hil : i < M.length * sz := by
    rcases Nat.lt_or_ge i (M.flatMap cells).length with h' | h'
    ·rwa [flat_len cells hs] at h'
    ·rw [List.getElem?_eq_none h'] at hu; cases hu
   have hq : i / sz < M.length := (Nat.div_lt_iff_lt_mul hpos).2 hil
   have hr : i % sz < sz := Nat.mod_lt _ hpos
   have hdm : i / sz * sz + i % sz = i := by rw [Nat.mul_comm]; exact Nat.div_add_mod i sz
   obtain ⟨y, hy⟩ : ∃ y, M[i / sz]? = some y := ⟨M[i / sz]'hq, by simp [hq]⟩
   obtain ⟨u2, hu2⟩ : ∃ u2, (cells y)[i % sz]? = some u2 := ⟨(cells y)[i % sz]'(by rw [hs]; exact hr), by simp [show i % sz < (cells y).length by rw [hs]; exact hr]⟩
   have e2 := flat_at cells hs hy hu2
   rw [hdm, hu] at e2
   cases e2
   have := (hM _ _ hy).1 _ _ hu2
   rwa [hdm] at this
  ·obtain ⟨i, hi2⟩ := List.getElem?_of_mem hy
   exact (hM i y hi2).2

end Go.Proofs.YteepobghdpnabaaGreat
namespace Go.Proofs.YteepobghdpnabaaGreat
open Go.RowKit

structure ActD where
 Do : Int
 D : Int
 t : TxD
 m : MsgD
 b : MsgA
 fit : Bool
 A : Option Addr
 n : Nat
 c : Nat
 L : List Int
def actC (x : ActD) : List Value := [.int .i64 x.Do, .int .i64 x.D, .int .i64 x.t.s, .int .i64 x.t.q, .string x.t.k, .string x.t.v, .int .i64 x.m.k, .int .i64 x.m.f, .int .i64 x.m.t, .int .i64 x.m.d, .int .i64 x.m.ba, .int .i64 x.m.bn, .slice x.b.AL x.b.nL x.b.cL, .int .i64 x.m.ha, .int .i64 x.m.hr, .slice x.b.AhB x.b.nhB x.b.chB, .slice x.b.AhP x.b.nhP x.b.chP, .int .i64 x.m.ca, .int .i64 x.m.cr, .slice x.b.AcB x.b.ncB x.b.ccB, .slice x.b.AcP x.b.ncP x.b.ccP, .int .i64 x.m.cd, .slice x.b.AcS x.b.ncS x.b.ccS, .slice x.b.AD x.b.nD x.b.cD, .bool x.fit, .slice x.A x.n x.c]
def actV (x : ActD) : Value := .agg #[.int .i64 x.Do, .int .i64 x.D, .int .i64 x.t.s, .int .i64 x.t.q, .string x.t.k, .string x.t.v, .int .i64 x.m.k, .int .i64 x.m.f, .int .i64 x.m.t, .int .i64 x.m.d, .int .i64 x.m.ba, .int .i64 x.m.bn, .slice x.b.AL x.b.nL x.b.cL, .int .i64 x.m.ha, .int .i64 x.m.hr, .slice x.b.AhB x.b.nhB x.b.chB, .slice x.b.AhP x.b.nhP x.b.chP, .int .i64 x.m.ca, .int .i64 x.m.cr, .slice x.b.AcB x.b.ncB x.b.ccB, .slice x.b.AcP x.b.ncP x.b.ccP, .int .i64 x.m.cd, .slice x.b.AcS x.b.ncS x.b.ccS, .slice x.b.AD x.b.nD x.b.cD, .bool x.fit, .slice x.A x.n x.c]
theorem actC_len (x : ActD) : (actC x).length = 26 := rfl
structure ActIn (w : World) (x : ActD) : Prop where
 wDo : I64 x.Do
 wD : I64 x.D
 t : TxOk x.t
 m : MsgIn w x.m x.b
 ok : MsgOk x.m
 few : MsgFew 140737488351232 x.b
 z : x.L.length = x.n
 r : Rd w x.A (i64s x.L)
 k : x.n ≤ x.c
 c : x.c ≤ maxLen
theorem ActIn.below {w w' : World} {x : ActD} (h : ActIn w x) (hb : Below w.heap.size w w') : ActIn w' x := ⟨h.wDo, h.wD, h.t, h.m.below hb, h.ok, h.few, h.z, h.r.below hb, h.k, h.c⟩
theorem ActIn.sl {w : World} {x : ActD} (h : ActIn w x) : SlIn w ⟨x.A, x.n, x.c⟩ x.L.length (i64s x.L) := ⟨h.z, h.k, h.c, h.r⟩
structure ScrZ where
 P : WkD
 a : WkA
 A : Option Addr
 n : Nat
 c : Nat
 L : List ActD
def scrC (s : ScrZ) : List Value := [.int .i64 s.P.i, .int .i64 s.P.N, .int .i64 s.P.x, .slice s.a.O.A s.a.O.n s.a.O.c, .int .i64 s.P.g, .int .i64 s.P.c, .slice s.a.W.A s.a.W.n s.a.W.c, .slice s.a.H.A s.a.H.n s.a.H.c, .slice s.a.R.A s.a.R.n s.a.R.c, .slice s.A s.n s.c]
def scrV (s : ScrZ) : Value := .agg #[.int .i64 s.P.i, .int .i64 s.P.N, .int .i64 s.P.x, .slice s.a.O.A s.a.O.n s.a.O.c, .int .i64 s.P.g, .int .i64 s.P.c, .slice s.a.W.A s.a.W.n s.a.W.c, .slice s.a.H.A s.a.H.n s.a.H.c, .slice s.a.R.A s.a.R.n s.a.R.c, .slice s.A s.n s.c]
structure WkFit (P : WkD) : Prop where
 o : P.O.length ≤ 140737488351232
 ot : ∀ t ∈ P.O, t.k.size ≤ 140737488351232 ∧ t.v.size ≤ 140737488351232
 w : P.W.length ≤ 140737488351232
 h : P.H.length ≤ 140737488351232
 r : P.R.length ≤ 140737488351232
 s : ∀ x ∈ P.W, x.S.length ≤ 140737488351232
 l : ∀ x ∈ P.H, x.L.length ≤ 140737488351232
 lt : ∀ x ∈ P.H, ∀ t ∈ x.L, t.k.size ≤ 140737488351232 ∧ t.v.size ≤ 140737488351232
structure ScrIn (w : World) (s : ScrZ) : Prop where
 wk : WIn w s.P s.a
 fit : WkFit s.P
 z : s.L.length = s.n
 r : Rd w s.A (s.L.flatMap actC)
 k : s.n ≤ s.c
 c : s.c ≤ maxLen
 acts : ∀ x ∈ s.L, ActIn w x
 small : s.n ≤ 140737488351232
 ls : ∀ x ∈ s.L, x.n ≤ 140737488351232
theorem ScrIn.below {w w' : World} {s : ScrZ} (h : ScrIn w s) (hb : Below w.heap.size w w') : ScrIn w' s :=
 ⟨h.wk.below hb, h.fit, h.z, h.r.below hb, h.k, h.c, fun x hx => (h.acts x hx).below hb, h.small, h.ls⟩
theorem ScrIn.at_ {w : World} {s : ScrZ} (h : ScrIn w s) {k : Nat} (hk : k < s.n) : ∃ (b off : Nat) (x : ActD), s.A = some ⟨b, off, none⟩ ∧ s.L[k]? = some x ∧ x ∈ s.L ∧ b < w.heap.size ∧ w.rangeAt b (off + k * 26) (actC x) := by
 have hk' : k < s.L.length := by rw [h.z]; exact hk
 obtain ⟨x, hx⟩ : ∃ x, s.L[k]? = some x := ⟨s.L[k], by simp [hk']⟩
 obtain ⟨b, off, e, hb, hc⟩ := h.r.open_ (by rw [flat_len actC actC_len]; omega)
 refine ⟨b, off, x, e, hx, List.mem_of_getElem? hx, hb, fun j v hv => ?_⟩
 have := hc _ v (flat_at actC actC_len hx hv)
 rw [Nat.add_assoc]
 exact this
theorem act_tx {w : World} {b o : Nat} {x : ActD} (h : w.rangeAt b o (actC x)) : w.rangeAt b (o + 2) x.t.cells := fun j v hv => by
 have hj : j < 4 := (List.getElem?_eq_some_iff.1 hv).1
 have e : actC x = [.int .i64 x.Do, .int .i64 x.D] ++ (x.t.cells ++ (msgC x.m x.b ++ [.bool x.fit, .slice x.A x.n x.c])) := rfl
 rw [Nat.add_assoc]
 refine h (2 + j) v ?_
 rw [e, List.getElem?_append_right (by simp), List.getElem?_append_left (by simp [TxD.cells]; omega)]
 rw [← hv]
 congr 1
 simp
theorem act_msg {w : World} {b o : Nat} {x : ActD} (h : w.rangeAt b o (actC x)) : w.rangeAt b (o + 6) (msgC x.m x.b) := fun j v hv => by
 have hj : j < 18 := (List.getElem?_eq_some_iff.1 hv).1
 have hl : (msgC x.m x.b).length = 18 := rfl
 have e : actC x = [.int .i64 x.Do, .int .i64 x.D, .int .i64 x.t.s, .int .i64 x.t.q, .string x.t.k, .string x.t.v] ++ (msgC x.m x.b ++ [.bool x.fit, .slice x.A x.n x.c]) := rfl
 rw [Nat.add_assoc]
 refine h (6 + j) v ?_
 rw [e, List.getElem?_append_right (by simp), List.getElem?_append_left (by rw [hl]; simp; omega)]
 rw [← hv]
 congr 1
 simp
theorem box_rangeZ {w : World} {g : Nat} {cs : List Value} (h : Box w g cs) : w.rangeAt g 0 cs := fun j v hv => by
 rw [Nat.zero_add]
 exact (h.2 j v hv).1
theorem size_scr : (Tryz.prog.info? 30).map (·.size) = some 10 := by kernel_rfl
theorem size_act : (Tryz.prog.info? 50).map (·.size) = some 26 := by kernel_rfl
structure LightZ (s : ScrZ) : Prop where
 few : WFew s.P 12000
 acts : ∀ x ∈ s.L, x.L.length ≤ 12000 ∧ MsgFew 2000 x.b

end Go.Proofs.YteepobghdpnabaaGreat
namespace Go.Proofs.YteepobghdpnabaaGreat
open Go.RowKit

structure Grown (k : Nat) (P : WkD) : Prop where
 o : P.O.length ≤ 12000 + k
 w : P.W.length ≤ 12000 + k
 h : P.H.length ≤ 12000 + k
 r : P.R.length + P.W.length ≤ 12001 * (k + 2)
 s : ∀ x ∈ P.W, x.S.length ≤ 12000 + k
 l : ∀ x ∈ P.H, x.L.length ≤ 12000
theorem Grown.few {k : Nat} {P : WkD} (h : Grown k P) (hk : k ≤ 13) : WFew P 300000 :=
 ⟨by have := h.o; omega, by have := h.w; omega, by have := h.h; omega, by have := h.r; omega, fun x hx => by have := h.s x hx; omega, fun x hx => by have := h.l x hx; omega⟩
theorem Grown.few1 {k : Nat} {P : WkD} (h : Grown k P) (hk : k ≤ 13) : WFew P 1000000 :=
 ⟨by have := h.o; omega, by have := h.w; omega, by have := h.h; omega, by have := h.r; omega, fun x hx => by have := h.s x hx; omega, fun x hx => by have := h.l x hx; omega⟩
theorem Grown.few4 {k : Nat} {P : WkD} (h : Grown k P) (hk : k ≤ 13) : WFew P 400000 :=
 ⟨by have := h.o; omega, by have := h.w; omega, by have := h.h; omega, by have := h.r; omega, fun x hx => by have := h.s x hx; omega, fun x hx => by have := h.l x hx; omega⟩
theorem Grown.more {k k' : Nat} {P : WkD} (h : Grown k P) (hk : k ≤ k') : Grown k' P :=
 ⟨by have := h.o; omega, by have := h.w; omega, by have := h.h; omega, by have := h.r; have := Nat.mul_le_mul_left 12001 (show k + 2 ≤ k' + 2 by omega); omega, fun x hx => by have := h.s x hx; omega, h.l⟩
theorem LightZ.grown {s : ScrZ} (h : LightZ s) : Grown 0 s.P :=
 ⟨by have := h.few.o; omega, by have := h.few.w; omega, by have := h.few.h; omega, by have := h.few.r; have := h.few.w; omega, fun x hx => by have := h.few.s x hx; omega, fun x hx => h.few.l x hx⟩
theorem grown_zero (k : Nat) : Grown k zeroW := ⟨by simp [zeroW], by simp [zeroW], by simp [zeroW], by simp [zeroW], fun x hx => by simp [zeroW] at hx, fun x hx => by simp [zeroW] at hx⟩
theorem mem_insAt {α : Type} {l : List α} {k : Nat} {x y : α} (h : y ∈ insAt l k x) : y = x ∨ y ∈ l := by
 unfold insAt at h
 rcases List.mem_append.1 h with h | h
 ·exact .inr (List.mem_of_mem_take h)
 ·rcases List.mem_cons.1 h with h | h
  ·exact .inl h
  ·exact .inr (List.mem_of_mem_drop h)
theorem insAt_le {α : Type} (l : List α) (k : Nat) (x : α) : (insAt l k x).length ≤ l.length + 1 := by
 simp [insAt]; omega
theorem filter_split {α : Type} (p : α → Bool) (l : List α) : (l.filter p).length + (l.filter fun x => !p x).length = l.length := by
 induction l with
 | nil => rfl
 | cons x r ih =>
  rw [List.filter_cons, List.filter_cons]
  cases p x
  ·rw [if_neg (by simp), if_pos (by rfl), List.length_cons, List.length_cons]; omega
  ·rw [if_pos rfl, if_neg (by simp), List.length_cons, List.length_cons]; omega
theorem settle_len (P : WkD) : (settleW P).R.length + (settleW P).W.length ≤ P.R.length + P.W.length := by
 have h1 := filter_split (enoughW P) P.W
 show (P.R ++ ((P.W.filter (enoughW P)).map WtD.d).filter (fun d => decide (d ∉ P.R))).length + (P.W.filter (fun x => !enoughW P x)).length ≤ _
 have h2 := List.length_filter_le (fun d => decide (d ∉ P.R)) ((P.W.filter (enoughW P)).map WtD.d)
 rw [List.length_map] at h2
 rw [List.length_append]
 omega
theorem settle_w (P : WkD) : (settleW P).W.length ≤ P.W.length := List.length_filter_le _ _
theorem Grown.settle {k : Nat} {P : WkD} (h : Grown k P) : Grown k (settleW P) :=
 ⟨h.o, Nat.le_trans (settle_w P) h.w, h.h, Nat.le_trans (settle_len P) h.r, fun x hx => h.s x (List.mem_filter.1 hx).1, h.l⟩
theorem Grown.hold {k : Nat} {P : WkD} (h : Grown k P) (d a n : Int) (L : List TxD) (hL : L.length ≤ 12000) : Grown (k + 1) (holdW P d a n L) := by
 unfold holdW
 split
 ·exact h.more (Nat.le_succ k)
 ·refine ⟨by have := h.o; show P.O.length ≤ _; omega, by have := h.w; show P.W.length ≤ _; omega, ?_, by have := h.r; show P.R.length + P.W.length ≤ _; omega, fun x hx => by have := h.s x hx; omega, ?_⟩
  ·have := insAt_le P.H (posI P.hs d) ⟨d, a, n, L⟩
   have := h.h
   show (insAt P.H (posI P.hs d) _).length ≤ _
   omega
  ·intro x hx
   rcases mem_insAt hx with rfl | hx
   ·exact hL
   ·exact h.l x hx
theorem Grown.add {k : Nat} {P : WkD} (h : Grown k P) (t : TxD) : Grown (k + 1) (addW P t) :=
 ⟨by have := h.o; show (P.O ++ [t]).length ≤ _; rw [List.length_append]; simp; omega, by have := h.w; show P.W.length ≤ _; omega, by have := h.h; show P.H.length ≤ _; omega, by have := h.r; show P.R.length + P.W.length ≤ _; omega, fun x hx => by have := h.s x hx; omega, h.l⟩
theorem with_le (l : List Int) (n : Int) : (withI l n).length ≤ l.length + 1 := by
 unfold withI
 split
 ·omega
 ·exact insAt_le _ _ _
theorem Grown.take {k : Nat} {P : WkD} (h : Grown k P) (m : MsgD) (hL : m.L.length ≤ 12000) : Grown (k + 1) (takeW P m) := by
 unfold takeW
 split
 ·exact h.hold _ _ _ _ hL
 ·split
  ·refine Grown.settle ⟨by have := h.o; show P.O.length ≤ _; omega, ?_, by have := h.h; show P.H.length ≤ _; omega, ?_, ?_, h.l⟩
   ·have := h.w
    show (P.W.map _).length ≤ _
    rw [List.length_map]; omega
   ·have := h.r
    show P.R.length + (P.W.map _).length ≤ _
    rw [List.length_map]; omega
   ·intro x hx
    obtain ⟨y, hy, rfl⟩ := List.mem_map.1 hx
    have h1 := h.s y hy
    split
    ·have := with_le y.S m.f
     show (withI y.S m.f).length ≤ _
     omega
    ·omega
  ·exact h.more (Nat.le_succ k)
/-! ### what is handed out -/
def ShortO (l : List OtD) : Prop := l.length ≤ 1000000 ∧ ∀ y ∈ l, y.L.length ≤ 12000
theorem short_none : ShortO [] := ⟨by simp, fun y hy => by simp at hy⟩
/-! ### a step stands while only one block of another sort turns -/
end Go.Proofs.YteepobghdpnabaaGreat
namespace Go.Proofs.YteepobghdpnabaaGreat
open Go.RowKit

set_option maxHeartbeats 4000000 in
theorem grow_factsH (B g n i gx : Nat) (xs us : List Value) (w : World) (h : w.ownsRow B 70 4 (.slice (some ⟨g, 0, none⟩) n n) n xs) (hB : B ≤ w.heap.size) (hi : i < n) (hn : n ≤ 1000000) (h1 : ∀ v ∈ xs, v.oneCell' = true)
  (hu : us.length = 4) (hgx : w.heap[gx]? = some (.cells us.toArray 70 (0, 0))) (hu1 : ∀ v ∈ us, v.oneCell' = true) :
  ∃ (G : Nat) (w1 w2 w3 : World), n + 1 ≤ G ∧ G ≤ maxLen ∧
   (∀ ty, (Builtin.append_ #[24, 3] ty #[.slice (some ⟨g, 0, none⟩) i n, .int .i64 ((n : Int) + 1 - (i : Int))]).run Tryz.prog w = .ok (.slice (some ⟨w.heap.size, 0, none⟩) (n + 1) G) w1) ∧
   (∀ ty dc, (Builtin.copy_ #[24, 24] ty #[.slice (some ⟨w.heap.size, i * 4, none⟩) (n + 1 - i) dc, .slice (some ⟨gx, 0, none⟩) 1 1]).run Tryz.prog w1 = .ok (goInt (1 : Nat)) w2) ∧
   (∀ ty dc sc, (Builtin.copy_ #[24, 24] ty #[.slice (some ⟨w.heap.size, (i + 1) * 4, none⟩) (n - i) dc, .slice (some ⟨g, i * 4, none⟩) (n - i) sc]).run Tryz.prog w2.drew = .ok (goInt (n - i : Nat)) w3) ∧
   w3.ownsRow B 70 4 (.slice (some ⟨w.heap.size, 0, none⟩) (n + 1) G) (n + 1) (putInH xs us i) ∧ w.grownBy w3 none := by
 obtain ⟨cur, hg, hb, hnc, hcm, hcs, hx⟩ := row_open h
 obtain ⟨i0, hi0, hz0, hz1, hz2⟩ := info_parts info_zheld
 have hgl : g < w.heap.size := (Array.getElem?_eq_some_iff.1 hg).1
 have hgxl : gx < w.heap.size := (Array.getElem?_eq_some_iff.1 hgx).1
 have hgd : w.drew.heap[g]? = some (.cells cur 70 (0, 0)) := hg
 have hcl : cur.toList.length = n * 4 := by rw [Array.length_toList, hcs]
 have hcur1 : ∀ v ∈ cur.toList, v.oneCell' = true := fun v hv => h1 v (by rw [← hx, List.take_of_length_le (by omega)]; exact hv)
 have hold : (Builtin.firstCells i0.size i (.slice (some ⟨g, 0, none⟩) i n)).run Tryz.prog w.drew = .ok (cur.toList.take (i * 4)).toArray w.drew := by
  have := run_loadCells_list (P := Tryz.prog) w.drew ⟨g, 0, none⟩ ((cur.toList.drop 0).take (i * 4)) (cells_part hgd 0 (i * 4))
  simp only [List.drop_zero] at this
  have hl : (cur.toList.take (i * 4)).length = i * 4 := by rw [List.length_take]; omega
  rw [hl] at this
  simp only [Builtin.firstCells, hz1]
  exact this
 have hap : ∀ ty, (Builtin.append_ #[24, 3] ty #[.slice (some ⟨g, 0, none⟩) i n, .int .i64 ((n : Int) + 1 - (i : Int))]).run Tryz.prog w = .ok (.slice (some ⟨w.heap.size, 0, none⟩) (n + 1) (grownCap w (n + 1) n 70)) (w.drew.alloc (.cells ((cur.toList.take (i * 4)).toArray ++ Builtin.zeroCells zheld.cells (n + 1 - i) ++ Builtin.zeroCells zheld.cells (grownCap w (n + 1) n 70 - (n + 1))) 70)) := fun ty => by
  have := Lib.run_append_grow_zeros (P := Tryz.prog) w 24 3 ty 70 i0 _ .i64 .i64 Tryz.underlying24 Tryz.underlying3 hi0 hz0 (some ⟨g, 0, none⟩) i n (cur.toList.take (i * 4)) hold (n + 1 - i) (by omega) (by omega) (by omega) (by omega) (by rw [hz2]; omega) (by rw [hz2, show i + (n + 1 - i) = n + 1 by omega]; exact growslice_fits (by omega) (by omega))
  rw [show i + (n + 1 - i) = n + 1 by omega] at this
  rw [show ((n : Int) + 1 - (i : Int)) = ((n + 1 - i : Nat) : Int) by omega]
  exact this
 obtain ⟨G, hG⟩ : ∃ G, G = grownCap w (n + 1) n 70 := ⟨_, rfl⟩
 rw [← hG] at hap
 have hGn : n + 1 ≤ G := by rw [hG]; exact grownCap_ge w _ _ _
 have hGm : G ≤ maxLen := by rw [hG]; exact grownCap_le_maxLen w _ _ _ (by unfold maxLen; omega)
 obtain ⟨row, hrow⟩ : ∃ row : Array Value, row = (cur.toList.take (i * 4)).toArray ++ Builtin.zeroCells zheld.cells (n + 1 - i) ++ Builtin.zeroCells zheld.cells (G - (n + 1)) := ⟨_, rfl⟩
 rw [← hrow] at hap
 have hzc : zheld.cells.size = 4 := rfl
 have hrs : row.size = G * 4 := by
  rw [hrow]
  simp only [Array.size_append, size_zeroCells, hzc, List.size_toArray, List.length_take, hcl]
  omega
 have hrl : row.toList.length = G * 4 := by rw [Array.length_toList, hrs]
 have hr0 : row.toList.take (i * 4) = cur.toList.take (i * 4) := by
  rw [hrow]
  simp only [Array.toList_append, List.append_assoc]
  rw [List.take_append_of_le_length (by simp; omega), List.take_take, Nat.min_self]
 have hap2 : ∃ w1, (∀ ty, (Builtin.append_ #[24, 3] ty #[.slice (some ⟨g, 0, none⟩) i n, .int .i64 ((n : Int) + 1 - (i : Int))]).run Tryz.prog w = .ok (.slice (some ⟨w.heap.size, 0, none⟩) (n + 1) G) w1) ∧ w1 = w.drew.alloc (.cells row 70) := ⟨_, hap, rfl⟩
 obtain ⟨w1, hap1, hw1⟩ := hap2
 have hN1 : w1.heap[w.heap.size]? = some (.cells row 70 (0, 0)) := by rw [hw1]; exact heap_alloc_new w.drew _
 have hold1 : ∀ k, k < w.heap.size → w1.heap[k]? = w.heap[k]? := fun k hk => by rw [hw1]; exact (World.grownBy_alloc w.drew _ none).block k hk (by simp)
 have hs1 : w1.heap.size = w.heap.size + 1 := by rw [hw1]; simp
 obtain ⟨row2, hrow2⟩ : ∃ row2, row2 = over row (i * 4) us := ⟨_, rfl⟩
 obtain ⟨w2, hw2⟩ : ∃ w2, w2 = w1.setRow w.heap.size row2 := ⟨_, rfl⟩
 have hr2s : row2.size = row.size := by rw [hrow2]; exact over_size (by omega)
 have hN2 : w2.heap[w.heap.size]? = some (.cells row2 70 (0, 0)) := by rw [hw2, hrow2]; exact row_over _ hN1 _ _
 have hold2 : ∀ k, k < w.heap.size → w2.heap[k]? = w.heap[k]? := fun k hk => by rw [hw2, setRow_other _ _ _ _ (by omega)]; exact hold1 k hk
 have hN2d : w2.drew.heap[w.heap.size]? = some (.cells row2 70 (0, 0)) := hN2
 have hg2 : w2.drew.heap[g]? = some (.cells cur 70 (0, 0)) := by show w2.heap[g]? = _; rw [hold2 g hgl]; exact hg
 have hcp1 : ∀ ty dc, (Builtin.copy_ #[24, 24] ty #[.slice (some ⟨w.heap.size, i * 4, none⟩) (n + 1 - i) dc, .slice (some ⟨gx, 0, none⟩) 1 1]).run Tryz.prog w1 = .ok (goInt (1 : Nat)) w2 := by
  intro ty dc
  have := run_copy_in (P := Tryz.prog) w1 (t := 24) (ty := ty) Tryz.underlying24 hi0 hN1 (o := i * 4) (D := some ⟨w.heap.size, i * 4, none⟩) (A := some ⟨gx, 0, none⟩) (dn := n + 1 - i) (dc := dc) (k := 1) (kc := 1) (m := 1) (cs := us)
   (by simp only [Nat.min_def]; split <;> omega) (by rw [hz1]; omega) (fun _ => ⟨rfl, _, rfl, fun j v hj => by rw [Addr.add_lit, cell_of_row _ _ _ us.toArray 70 (0, 0) (by rw [hold1 gx hgxl]; exact hgx)]; simpa using hj⟩) (by rw [hz1, hrs]; omega) hu1
  rw [← hrow2, ← hw2] at this
  exact this
 obtain ⟨cs1, hcs1⟩ : ∃ cs1, cs1 = (cur.toList.drop (i * 4)).take ((n - i) * 4) := ⟨_, rfl⟩
 have hlen : cs1.length = (n - i) * 4 := by rw [hcs1]; simp; omega
 obtain ⟨row3, hrow3⟩ : ∃ row3, row3 = over row2 ((i + 1) * 4) cs1 := ⟨_, rfl⟩
 obtain ⟨w3, hw3⟩ : ∃ w3, w3 = w2.drew.setRow w.heap.size row3 := ⟨_, rfl⟩
 have hcp2 : ∀ ty dc sc, (Builtin.copy_ #[24, 24] ty #[.slice (some ⟨w.heap.size, (i + 1) * 4, none⟩) (n - i) dc, .slice (some ⟨g, i * 4, none⟩) (n - i) sc]).run Tryz.prog w2.drew = .ok (goInt (n - i : Nat)) w3 := by
  intro ty dc sc
  have := run_copy_in (P := Tryz.prog) w2.drew (t := 24) (ty := ty) Tryz.underlying24 hi0 hN2d (o := (i + 1) * 4) (D := some ⟨w.heap.size, (i + 1) * 4, none⟩) (A := some ⟨g, i * 4, none⟩) (dn := n - i) (dc := dc) (k := n - i) (kc := sc) (m := n - i) (cs := cs1)
   (by simp only [Nat.min_def]; split <;> omega) (by rw [hz1]; exact hlen) (fun _ => ⟨rfl, _, rfl, by rw [hcs1]; exact cells_part hg2 _ _⟩) (by rw [hz1, hr2s, hrs]; omega) (by rw [hcs1]; exact one_part hcur1)
  rw [← hrow3, ← hw3] at this
  exact this
 refine ⟨G, w1, w2, w3, hGn, hGm, hap1, hcp1, hcp2, ?_, ?_⟩
 ·refine row_shut (cur := row3) (by rw [hw3, hrow3]; exact row_over _ hN2d _ _) hB hGn hGm (by rw [hrow3, over_size (by rw [hr2s, hrs]; omega), hr2s, hrs]) ?_
  have hr2l : row2.toList.length = G * 4 := by rw [Array.length_toList, hr2s, hrs]
  have htk : row2.toList.take ((i + 1) * 4) = xs.take (i * 4) ++ us := by
   have hxl : xs.length = n * 4 := by rw [← hx, List.length_take]; omega
   have hA : row.toList.take (i * 4) = xs.take (i * 4) := by rw [hr0, ← hx, List.take_take, Nat.min_eq_left (by omega : i * 4 ≤ n * 4)]
   have l1 : (xs.take (i * 4) ++ us).length = (i + 1) * 4 := by rw [List.length_append, List.length_take, hxl, hu]; omega
   rw [hrow2, over_list, hA, List.take_append_of_le_length (by omega), List.take_of_length_le (by omega)]
  have hxl : xs.length = n * 4 := by rw [← hx, List.length_take]; omega
  have l1 : (xs.take (i * 4) ++ us).length = (i + 1) * 4 := by rw [List.length_append, List.length_take, hxl, hu]; omega
  have l2 : (xs.take (i * 4) ++ us ++ cs1).length = (n + 1) * 4 := by rw [List.length_append, l1, hlen]; omega
  rw [hrow3, over_list, htk, putInH, List.take_append_of_le_length (by omega), List.take_of_length_le (by omega), hcs1, ← hx, List.drop_take, show (n - i) * 4 = n * 4 - i * 4 by omega]
 ·rw [hw3]
  refine ⟨by rw [setRow_os]; show w2.os = _; rw [hw2, setRow_os, hw1]; rfl, by rw [setRow_tape]; show w2.tape = _; rw [hw2, setRow_tape, hw1]; rfl, by rw [setRow_output]; show w2.output = _; rw [hw2, setRow_output, hw1]; rfl, by rw [setRow_size]; show _ ≤ w2.heap.size; rw [hw2, setRow_size, hs1]; omega, fun k hk _ => by rw [setRow_other _ _ _ _ (by omega)]; exact hold2 k hk⟩

end Go.Proofs.YteepobghdpnabaaGreat
namespace Go.Proofs.YteepobghdpnabaaGreat
open Go.RowKit

set_option maxRecDepth 100000 in
set_option maxHeartbeats 8000000 in
theorem insert_growH (B g n i gx : Nat) (xs us : List Value) (w : World) (h : w.ownsRow B 70 4 (.slice (some ⟨g, 0, none⟩) n n) n xs) (hB : B ≤ w.heap.size) (hi : i < n) (hn : n ≤ 1000000) (h1 : ∀ v ∈ xs, v.oneCell' = true)
  (hu : us.length = 4) (hgx : w.heap[gx]? = some (.cells us.toArray 70 (0, 0))) (hu1 : ∀ v ∈ us, v.oneCell' = true) :
  Calls Tryz.prog 126 #[.slice (some ⟨g, 0, none⟩) n n, .int .i64 i, .slice (some ⟨gx, 0, none⟩) 1 1] w fun e w' =>
   ∃ G, e = .returned (.slice (some ⟨w.heap.size, 0, none⟩) (n + 1) G) ∧ w'.ownsRow B 70 4 (.slice (some ⟨w.heap.size, 0, none⟩) (n + 1) G) (n + 1) (putInH xs us i) ∧ w.grownBy w' none := by
 obtain ⟨G, w1, w2, w3, hG1, hG2, hap, hcp1, hcp2, hown, hgr⟩ := grow_factsH B g n i gx xs us w h hB hi hn h1 hu hgx hu1
 have HA := Lib.hid hap
 have H1 := Lib.hid hcp1
 have H2 := Lib.hid hcp2
 have HO := Lib.hid hown
 unfold maxLen at hG2
 clear hap hcp1 hcp2 hown h hgx hu hu1 h1 hB
 obtain ⟨N, hN⟩ : ∃ N, N = w.heap.size := ⟨_, rfl⟩
 rw [← hN] at HA H1 H2 HO ⊢
 clear hN
 have e1 : (0 : Int) ≤ (i : Int) := by omega
 have e2 : (i : Int) ≤ (n : Int) := by omega
 have e3 : ¬ ((i : Int) = (n : Int)) := by omega
 have e4 : (n : Int) < (n : Int) + 1 := by omega
 have e6 : ((i : Int) + 1).toNat = i + 1 := by omega
 have e7 : (0 : Int) ≤ (i : Int) + 1 := by omega
 have e8 : (i : Int) + 1 ≤ (n : Int) + 1 := by omega
 have e9 : (i : Int) ≤ (n : Int) + 1 := by omega
 have f1 : ¬ (n = i) := by omega
 have f2 : ¬ (G = i) := by omega
 have f3 : ¬ (G = i + 1) := by omega
 have f4 : i ≤ n + 1 := by omega
 have f5 : ((n : Int) + 1).toNat = n + 1 := by omega
 have f7 : i + 1 ≤ n + 1 := by omega
 have f8 : i ≤ n := by omega
 go_enter Tryz.func126, Tryz.ntmps126
 go_wp2_with (first | (at_builtin; refine wpList_app_run (o := ⟨some 40, _, _, _, _, _⟩) _ rfl (.tmp 34) (.tmp 39) 24 3 rfl rfl rfl (HA.out _) ?_) | refine wpList_copy_run (o := ⟨some 45, _, _, _, _, _⟩) _ rfl (.tmp 43) (.tmp 44) 24 24 rfl rfl rfl (H1.out _ _) ?_)
 have g1 : IntKind.i64.wrap ((i : Int) + 1) = (i : Int) + 1 := IntWalk.i64_in _ (by omega)
 go_still_tail 8, (by kernel_rfl)
 change wpList _ _ _ _ _ w2.drew
 go_wp2_with (first | refine wpList_copy_run (o := ⟨some 54, _, _, _, _, _⟩) _ rfl (.tmp 50) (.tmp 53) 24 24 rfl rfl rfl (H2.out _ _ _) ?_)
 go_ret
 exact ⟨G, rfl, HO.out, hgr⟩

end Go.Proofs.YteepobghdpnabaaGreat
