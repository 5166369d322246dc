/-
  A slice of structs that came in, laid open: each element by what opens one.
-/
import Derived.Test.YteepobghdpnabaaGreatKWorkerTicksc
import Derived.Test.YteepobghdpnabaaGreatKWorkerTicksg
import Derived.Test.YteepobghdpnabaaGreatKWorkerTicksk
import Derived.Test.YteepobghdpnabaaGreatKWorkerTickst
namespace Go.Proofs.YteepobghdpnabaaGreat
open Go.RowKit Go.ChangeShapes Go.WideShapes Go.Deep

/-- a list is made of what stands at each index -/
theorem list_uptoG {α : Type} {P : Nat → α → Prop} : ∀ {n : Nat}, (∀ i, i < n → ∃ a, P i a) → ∃ L : List α, L.length = n ∧ ∀ i x, L[i]? = some x → P i x
  | 0, _ => ⟨[], rfl, fun i x hx => by simp at hx⟩
  | n + 1, h => by
    obtain ⟨L, hl, hL⟩ := list_uptoG (n := n) fun i hi => h i (by omega)
    obtain ⟨x, hx⟩ := h n (by omega)
    refine ⟨L ++ [x], by simp [hl], fun i y hy => ?_⟩
    rcases Nat.lt_or_ge i n with hi | hi
    · exact hL i y (by rwa [List.getElem?_append_left (by omega)] at hy)
    · rw [List.getElem?_append_right (by omega), hl] at hy
      have h0 : i - n = 0 := by
        rcases Nat.eq_zero_or_pos (i - n) with h0 | h0
        · exact h0
        · rw [List.getElem?_eq_none (by simp; omega)] at hy; cases hy
      rw [h0] at hy
      simp at hy
      have : i = n := by omega
      subst this hy
      exact hx
section
variable {α : Type} (cells : α → List Value)
theorem flat_len {sz : Nat} (hs : ∀ x, (cells x).length = sz) (M : List α) : (M.flatMap cells).length = M.length * sz := by
  induction M with
  | nil => simp
  | cons x l ih => rw [List.flatMap_cons, List.length_append, ih, hs, List.length_cons, Nat.succ_mul]; omega
theorem flat_at {sz : Nat} (hs : ∀ x, (cells x).length = sz) : ∀ {M : List α} {i : Nat} {x : α}, M[i]? = some x → ∀ {j : Nat} {v : Value}, (cells x)[j]? = some v → (M.flatMap cells)[i * sz + j]? = some v
  | [], _, _, h, _, _, _ => by simp at h
  | y :: l, 0, x, h, j, v, hv => by
    simp at h
    subst h
    rw [List.flatMap_cons, Nat.zero_mul, Nat.zero_add, List.getElem?_append_left (List.getElem?_eq_some_iff.1 hv).1]
    exact hv
  | y :: l, i + 1, x, h, j, v, hv => by
    have ih := flat_at hs (M := l) (i := i) (by simpa using h) hv
    rw [List.flatMap_cons, List.getElem?_append_right (by rw [hs, Nat.succ_mul]; omega), hs, show (i + 1) * sz + j - sz = i * sz + j by rw [Nat.succ_mul]; omega]
    exact ih
end

theorem open_rowG {α : Type} (cells : α → List Value) (Ok : α → Prop) {sz : Nat} (hs : ∀ x, (cells x).length = sz) (hpos : 0 < sz) {H : Type} {enc : TypeId × Value → H} {P : Program} {w : World} {base : Nat} {spare : Nat → Bool} {held : Bool} {t e : TypeId} {fuel : Nat} {v : Value} {x : DataW H × List MemPlace}
    (ht : P.underlying t = some (.slice e)) (hc : P.cellsOf e = sz)
    (elem : ∀ (fuel : Nat) (cs : List Value) (y : DataW H × List MemPlace), DataW.trod enc P w base spare held fuel e cs = some y → cs.length = sz → (∀ n ∈ y.1.weights P e, n ≤ reachBytes) → ∃ a, cs = cells a ∧ Ok a)
    (h : DataW.trod enc P w base spare held fuel t [v] = some x) (hw : ∀ n ∈ x.1.weights P t, n ≤ reachBytes) :
    ∃ (A : Option Addr) (c : Nat) (M : List α), v = .slice A M.length c ∧ M.length ≤ c ∧ c ≤ maxLen ∧ Rd w A (M.flatMap cells) ∧ ∀ y ∈ M, Ok y := by
  rcases open_slice ht h with ⟨h0, _⟩ | ⟨ad, len, cap, m, n, D, Pl, h0, _, hl, hm, hmm, hz, hi⟩
  · simp only [List.cons.injEq, and_true] at h0
    subst h0
    exact ⟨none, 0, [], rfl, by simp, by simp [maxLen], Rd.nil _ _, fun y hy => by simp at hy⟩
  · simp only [List.cons.injEq, and_true] at h0
    subst h0
    have hlm : len ≤ m := by rw [hmm]; split <;> omega
    obtain ⟨M, hML, hM⟩ := list_uptoG (α := α) (P := fun i y => (∀ (j : Nat) (u : Value), (cells y)[j]? = some u → w.cell? (ad.add (i * sz + j)) = some u) ∧ Ok y) (n := len) fun i hil => by
      obtain ⟨cs, hcs, htr⟩ := hi i (by omega)
      rw [hc] at hcs
      obtain ⟨_, hcl, hat⟩ := World.cells?_some hcs
      have hwi : ∀ k ∈ (D i).weights P e, k ≤ reachBytes := fun k hk => hw k (by
        rw [hz]
        exact weights_slice ht (List.mem_map.2 ⟨i, List.mem_range.2 hil, rfl⟩) hk)
      obtain ⟨a, rfl, hok⟩ := elem _ cs _ htr hcl hwi
      exact ⟨a, fun j u hu => by
        have hj : j < sz := by rw [← hs a]; exact (List.getElem?_eq_some_iff.1 hu).1
        have := hat j hj
        rw [Addr.add_add] at this
        rw [this]
        exact hu, hok⟩
    refine ⟨some ad, cap, M, by rw [hML], by omega, hm, rd_of fun i u hu => ?_, fun y hy => ?_⟩
    · have hil : i < M.length * sz := by
        rcases Nat.lt_or_ge i (M.flatMap cells).length with h' | h'
        · rwa [flat_len cells hs] at h'
        · rw [List.getElem?_eq_none h'] at hu; cases hu
      have hq : i / sz < M.length := (Nat.div_lt_iff_lt_mul hpos).2 hil
      have hr : i % sz < sz := Nat.mod_lt _ hpos
      have hdm : i / sz * sz + i % sz = i := by rw [Nat.mul_comm]; exact Nat.div_add_mod i sz
      obtain ⟨y, hy⟩ : ∃ y, M[i / sz]? = some y := ⟨M[i / sz]'hq, by simp [hq]⟩
      obtain ⟨u2, hu2⟩ : ∃ u2, (cells y)[i % sz]? = some u2 := ⟨(cells y)[i % sz]'(by rw [hs]; exact hr), by simp [show i % sz < (cells y).length by rw [hs]; exact hr]⟩
      have e2 := flat_at cells hs hy hu2
      rw [hdm, hu] at e2
      cases e2
      have := (hM _ _ hy).1 _ _ hu2
      rwa [hdm] at this
    · obtain ⟨i, hi2⟩ := List.getElem?_of_mem hy
      exact (hM i y hi2).2

end Go.Proofs.YteepobghdpnabaaGreat
namespace Go.Proofs.YteepobghdpnabaaGreat
open Go.RowKit

/-- an act, and where its lists lie -/
structure ActD where
  Do : Int
  D : Int
  t : TxD
  m : MsgD
  b : MsgA
  fit : Bool
  A : Option Addr
  n : Nat
  c : Nat
  L : List Int
def actC (x : ActD) : List Value := [.int .i64 x.Do, .int .i64 x.D, .int .i64 x.t.s, .int .i64 x.t.q, .string x.t.k, .string x.t.v, .int .i64 x.m.k, .int .i64 x.m.f, .int .i64 x.m.t, .int .i64 x.m.d, .int .i64 x.m.ba, .int .i64 x.m.bn, .slice x.b.AL x.b.nL x.b.cL, .int .i64 x.m.ha, .int .i64 x.m.hr, .slice x.b.AhB x.b.nhB x.b.chB, .slice x.b.AhP x.b.nhP x.b.chP, .int .i64 x.m.ca, .int .i64 x.m.cr, .slice x.b.AcB x.b.ncB x.b.ccB, .slice x.b.AcP x.b.ncP x.b.ccP, .int .i64 x.m.cd, .slice x.b.AcS x.b.ncS x.b.ccS, .slice x.b.AD x.b.nD x.b.cD, .bool x.fit, .slice x.A x.n x.c]
def actV (x : ActD) : Value := .agg #[.int .i64 x.Do, .int .i64 x.D, .int .i64 x.t.s, .int .i64 x.t.q, .string x.t.k, .string x.t.v, .int .i64 x.m.k, .int .i64 x.m.f, .int .i64 x.m.t, .int .i64 x.m.d, .int .i64 x.m.ba, .int .i64 x.m.bn, .slice x.b.AL x.b.nL x.b.cL, .int .i64 x.m.ha, .int .i64 x.m.hr, .slice x.b.AhB x.b.nhB x.b.chB, .slice x.b.AhP x.b.nhP x.b.chP, .int .i64 x.m.ca, .int .i64 x.m.cr, .slice x.b.AcB x.b.ncB x.b.ccB, .slice x.b.AcP x.b.ncP x.b.ccP, .int .i64 x.m.cd, .slice x.b.AcS x.b.ncS x.b.ccS, .slice x.b.AD x.b.nD x.b.cD, .bool x.fit, .slice x.A x.n x.c]
theorem actC_len (x : ActD) : (actC x).length = 26 := rfl
structure ActIn (w : World) (x : ActD) : Prop where
  wDo : I64 x.Do
  wD : I64 x.D
  t : TxOk x.t
  m : MsgIn w x.m x.b
  ok : MsgOk x.m
  few : MsgFew 140737488351232 x.b
  z : x.L.length = x.n
  r : Rd w x.A (i64s x.L)
  k : x.n ≤ x.c
  c : x.c ≤ maxLen
theorem ActIn.below {w w' : World} {x : ActD} (h : ActIn w x) (hb : Below w.heap.size w w') : ActIn w' x := ⟨h.wDo, h.wD, h.t, h.m.below hb, h.ok, h.few, h.z, h.r.below hb, h.k, h.c⟩
theorem ActIn.sl {w : World} {x : ActD} (h : ActIn w x) : SlIn w ⟨x.A, x.n, x.c⟩ x.L.length (i64s x.L) := ⟨h.z, h.k, h.c, h.r⟩
/-- a script -/
structure ScrZ where
  P : WkD
  a : WkA
  A : Option Addr
  n : Nat
  c : Nat
  L : List ActD
def scrC (s : ScrZ) : List Value := [.int .i64 s.P.i, .int .i64 s.P.N, .int .i64 s.P.x, .slice s.a.O.A s.a.O.n s.a.O.c, .int .i64 s.P.g, .int .i64 s.P.c, .slice s.a.W.A s.a.W.n s.a.W.c, .slice s.a.H.A s.a.H.n s.a.H.c, .slice s.a.R.A s.a.R.n s.a.R.c, .slice s.A s.n s.c]
def scrV (s : ScrZ) : Value := .agg #[.int .i64 s.P.i, .int .i64 s.P.N, .int .i64 s.P.x, .slice s.a.O.A s.a.O.n s.a.O.c, .int .i64 s.P.g, .int .i64 s.P.c, .slice s.a.W.A s.a.W.n s.a.W.c, .slice s.a.H.A s.a.H.n s.a.H.c, .slice s.a.R.A s.a.R.n s.a.R.c, .slice s.A s.n s.c]
/-- what is open and held weighs no more than it can -/
structure WkFit (P : WkD) : Prop where
  o : P.O.length ≤ 140737488351232
  ot : ∀ t ∈ P.O, t.k.size ≤ 140737488351232 ∧ t.v.size ≤ 140737488351232
  w : P.W.length ≤ 140737488351232
  h : P.H.length ≤ 140737488351232
  r : P.R.length ≤ 140737488351232
  s : ∀ x ∈ P.W, x.S.length ≤ 140737488351232
  l : ∀ x ∈ P.H, x.L.length ≤ 140737488351232
  lt : ∀ x ∈ P.H, ∀ t ∈ x.L, t.k.size ≤ 140737488351232 ∧ t.v.size ≤ 140737488351232
structure ScrIn (w : World) (s : ScrZ) : Prop where
  wk : WIn w s.P s.a
  fit : WkFit s.P
  z : s.L.length = s.n
  r : Rd w s.A (s.L.flatMap actC)
  k : s.n ≤ s.c
  c : s.c ≤ maxLen
  acts : ∀ x ∈ s.L, ActIn w x
  small : s.n ≤ 140737488351232
  ls : ∀ x ∈ s.L, x.n ≤ 140737488351232
theorem ScrIn.below {w w' : World} {s : ScrZ} (h : ScrIn w s) (hb : Below w.heap.size w w') : ScrIn w' s :=
  ⟨h.wk.below hb, h.fit, h.z, h.r.below hb, h.k, h.c, fun x hx => (h.acts x hx).below hb, h.small, h.ls⟩
/-- an act of a script, as it lies -/
theorem ScrIn.at_ {w : World} {s : ScrZ} (h : ScrIn w s) {k : Nat} (hk : k < s.n) : ∃ (b off : Nat) (x : ActD), s.A = some ⟨b, off, none⟩ ∧ s.L[k]? = some x ∧ x ∈ s.L ∧ b < w.heap.size ∧ w.rangeAt b (off + k * 26) (actC x) := by
  have hk' : k < s.L.length := by rw [h.z]; exact hk
  obtain ⟨x, hx⟩ : ∃ x, s.L[k]? = some x := ⟨s.L[k], by simp [hk']⟩
  obtain ⟨b, off, e, hb, hc⟩ := h.r.open_ (by rw [flat_len actC actC_len]; omega)
  refine ⟨b, off, x, e, hx, List.mem_of_getElem? hx, hb, fun j v hv => ?_⟩
  have := hc _ v (flat_at actC actC_len hx hv)
  rw [Nat.add_assoc]
  exact this
/-- an act's transaction, and its message, as they lie -/
theorem act_tx {w : World} {b o : Nat} {x : ActD} (h : w.rangeAt b o (actC x)) : w.rangeAt b (o + 2) x.t.cells := fun j v hv => by
  have hj : j < 4 := (List.getElem?_eq_some_iff.1 hv).1
  have e : actC x = [.int .i64 x.Do, .int .i64 x.D] ++ (x.t.cells ++ (msgC x.m x.b ++ [.bool x.fit, .slice x.A x.n x.c])) := rfl
  rw [Nat.add_assoc]
  refine h (2 + j) v ?_
  rw [e, List.getElem?_append_right (by simp), List.getElem?_append_left (by simp [TxD.cells]; omega)]
  rw [← hv]
  congr 1
  simp
theorem act_msg {w : World} {b o : Nat} {x : ActD} (h : w.rangeAt b o (actC x)) : w.rangeAt b (o + 6) (msgC x.m x.b) := fun j v hv => by
  have hj : j < 18 := (List.getElem?_eq_some_iff.1 hv).1
  have hl : (msgC x.m x.b).length = 18 := rfl
  have e : actC x = [.int .i64 x.Do, .int .i64 x.D, .int .i64 x.t.s, .int .i64 x.t.q, .string x.t.k, .string x.t.v] ++ (msgC x.m x.b ++ [.bool x.fit, .slice x.A x.n x.c]) := rfl
  rw [Nat.add_assoc]
  refine h (6 + j) v ?_
  rw [e, List.getElem?_append_right (by simp), List.getElem?_append_left (by rw [hl]; simp; omega)]
  rw [← hv]
  congr 1
  simp
theorem box_rangeZ {w : World} {g : Nat} {cs : List Value} (h : Box w g cs) : w.rangeAt g 0 cs := fun j v hv => by
  rw [Nat.zero_add]
  exact (h.2 j v hv).1
theorem size_scr : (Tryz.prog.info? 30).map (·.size) = some 10 := by kernel_rfl
theorem size_act : (Tryz.prog.info? 50).map (·.size) = some 26 := by kernel_rfl
/-- a script that is not let go -/
structure LightZ (s : ScrZ) : Prop where
  few : WFew s.P 12000
  acts : ∀ x ∈ s.L, x.L.length ≤ 12000 ∧ MsgFew 2000 x.b

end Go.Proofs.YteepobghdpnabaaGreat
namespace Go.Proofs.YteepobghdpnabaaGreat
open Go.RowKit

/-- a worker behind so many acts on a light one -/
structure Grown (k : Nat) (P : WkD) : Prop where
  o : P.O.length ≤ 12000 + k
  w : P.W.length ≤ 12000 + k
  h : P.H.length ≤ 12000 + k
  r : P.R.length + P.W.length ≤ 12001 * (k + 2)
  s : ∀ x ∈ P.W, x.S.length ≤ 12000 + k
  l : ∀ x ∈ P.H, x.L.length ≤ 12000
theorem Grown.few {k : Nat} {P : WkD} (h : Grown k P) (hk : k ≤ 13) : WFew P 300000 :=
  ⟨by have := h.o; omega, by have := h.w; omega, by have := h.h; omega, by have := h.r; omega, fun x hx => by have := h.s x hx; omega, fun x hx => by have := h.l x hx; omega⟩
theorem Grown.few1 {k : Nat} {P : WkD} (h : Grown k P) (hk : k ≤ 13) : WFew P 1000000 :=
  ⟨by have := h.o; omega, by have := h.w; omega, by have := h.h; omega, by have := h.r; omega, fun x hx => by have := h.s x hx; omega, fun x hx => by have := h.l x hx; omega⟩
theorem Grown.few4 {k : Nat} {P : WkD} (h : Grown k P) (hk : k ≤ 13) : WFew P 400000 :=
  ⟨by have := h.o; omega, by have := h.w; omega, by have := h.h; omega, by have := h.r; omega, fun x hx => by have := h.s x hx; omega, fun x hx => by have := h.l x hx; omega⟩
theorem Grown.more {k k' : Nat} {P : WkD} (h : Grown k P) (hk : k ≤ k') : Grown k' P :=
  ⟨by have := h.o; omega, by have := h.w; omega, by have := h.h; omega, by have := h.r; have := Nat.mul_le_mul_left 12001 (show k + 2 ≤ k' + 2 by omega); omega, fun x hx => by have := h.s x hx; omega, h.l⟩
theorem LightZ.grown {s : ScrZ} (h : LightZ s) : Grown 0 s.P :=
  ⟨by have := h.few.o; omega, by have := h.few.w; omega, by have := h.few.h; omega, by have := h.few.r; have := h.few.w; omega, fun x hx => by have := h.few.s x hx; omega, fun x hx => h.few.l x hx⟩
theorem grown_zero (k : Nat) : Grown k zeroW := ⟨by simp [zeroW], by simp [zeroW], by simp [zeroW], by simp [zeroW], fun x hx => by simp [zeroW] at hx, fun x hx => by simp [zeroW] at hx⟩
theorem mem_insAt {α : Type} {l : List α} {k : Nat} {x y : α} (h : y ∈ insAt l k x) : y = x ∨ y ∈ l := by
  unfold insAt at h
  rcases List.mem_append.1 h with h | h
  · exact .inr (List.mem_of_mem_take h)
  · rcases List.mem_cons.1 h with h | h
    · exact .inl h
    · exact .inr (List.mem_of_mem_drop h)
theorem insAt_le {α : Type} (l : List α) (k : Nat) (x : α) : (insAt l k x).length ≤ l.length + 1 := by
  simp [insAt]; omega
theorem filter_split {α : Type} (p : α → Bool) (l : List α) : (l.filter p).length + (l.filter fun x => !p x).length = l.length := by
  induction l with
  | nil => rfl
  | cons x r ih =>
    rw [List.filter_cons, List.filter_cons]
    cases p x
    · rw [if_neg (by simp), if_pos (by rfl), List.length_cons, List.length_cons]; omega
    · rw [if_pos rfl, if_neg (by simp), List.length_cons, List.length_cons]; omega
theorem settle_len (P : WkD) : (settleW P).R.length + (settleW P).W.length ≤ P.R.length + P.W.length := by
  have h1 := filter_split (enoughW P) P.W
  show (P.R ++ ((P.W.filter (enoughW P)).map WtD.d).filter (fun d => decide (d ∉ P.R))).length + (P.W.filter (fun x => !enoughW P x)).length ≤ _
  have h2 := List.length_filter_le (fun d => decide (d ∉ P.R)) ((P.W.filter (enoughW P)).map WtD.d)
  rw [List.length_map] at h2
  rw [List.length_append]
  omega
theorem settle_w (P : WkD) : (settleW P).W.length ≤ P.W.length := List.length_filter_le _ _
theorem Grown.settle {k : Nat} {P : WkD} (h : Grown k P) : Grown k (settleW P) :=
  ⟨h.o, Nat.le_trans (settle_w P) h.w, h.h, Nat.le_trans (settle_len P) h.r, fun x hx => h.s x (List.mem_filter.1 hx).1, h.l⟩
theorem Grown.hold {k : Nat} {P : WkD} (h : Grown k P) (d a n : Int) (L : List TxD) (hL : L.length ≤ 12000) : Grown (k + 1) (holdW P d a n L) := by
  unfold holdW
  split
  · exact h.more (Nat.le_succ k)
  · refine ⟨by have := h.o; show P.O.length ≤ _; omega, by have := h.w; show P.W.length ≤ _; omega, ?_, by have := h.r; show P.R.length + P.W.length ≤ _; omega, fun x hx => by have := h.s x hx; omega, ?_⟩
    · have := insAt_le P.H (posI P.hs d) ⟨d, a, n, L⟩
      have := h.h
      show (insAt P.H (posI P.hs d) _).length ≤ _
      omega
    · intro x hx
      rcases mem_insAt hx with rfl | hx
      · exact hL
      · exact h.l x hx
theorem Grown.add {k : Nat} {P : WkD} (h : Grown k P) (t : TxD) : Grown (k + 1) (addW P t) :=
  ⟨by have := h.o; show (P.O ++ [t]).length ≤ _; rw [List.length_append]; simp; omega, by have := h.w; show P.W.length ≤ _; omega, by have := h.h; show P.H.length ≤ _; omega, by have := h.r; show P.R.length + P.W.length ≤ _; omega, fun x hx => by have := h.s x hx; omega, h.l⟩
theorem with_le (l : List Int) (n : Int) : (withI l n).length ≤ l.length + 1 := by
  unfold withI
  split
  · omega
  · exact insAt_le _ _ _
theorem Grown.take {k : Nat} {P : WkD} (h : Grown k P) (m : MsgD) (hL : m.L.length ≤ 12000) : Grown (k + 1) (takeW P m) := by
  unfold takeW
  split
  · exact h.hold _ _ _ _ hL
  · split
    · refine Grown.settle ⟨by have := h.o; show P.O.length ≤ _; omega, ?_, by have := h.h; show P.H.length ≤ _; omega, ?_, ?_, h.l⟩
      · have := h.w
        show (P.W.map _).length ≤ _
        rw [List.length_map]; omega
      · have := h.r
        show P.R.length + (P.W.map _).length ≤ _
        rw [List.length_map]; omega
      · intro x hx
        obtain ⟨y, hy, rfl⟩ := List.mem_map.1 hx
        have h1 := h.s y hy
        split
        · have := with_le y.S m.f
          show (withI y.S m.f).length ≤ _
          omega
        · omega
    · exact h.more (Nat.le_succ k)
theorem Grown.tick {k : Nat} {P : WkD} (h : Grown k P) : Grown (k + 1) (tickW P) := (show Grown k (tickW P) from ⟨h.o, h.w, h.h, h.r, h.s, h.l⟩).more (Nat.le_succ k)
/-! ### what is handed out -/
def ShortO (l : List OtD) : Prop := l.length ≤ 1000000 ∧ ∀ y ∈ l, y.L.length ≤ 12000
theorem toW_len (P : WkD) (S : List Int) : (toW P S).length ≤ P.N.toNat := by
  unfold toW
  refine Nat.le_trans (List.length_filter_le _ _) ?_
  rw [List.length_map, List.length_range]
  exact Nat.le_refl _
theorem askW_lenL (P : WkD) (d a n : Int) (L : List TxD) (S : List Int) : (askW P d a n L S).length ≤ P.N.toNat := by
  unfold askW
  rw [List.length_map]
  exact toW_len P S
theorem askW_mem {P : WkD} {d a n : Int} {L : List TxD} {S : List Int} {y : OtD} (h : y ∈ askW P d a n L S) : y.L = L := by
  obtain ⟨k, _, rfl⟩ := List.mem_map.1 h
  rfl
theorem nodes16 {P : WkD} (h : MayW P) : P.N.toNat ≤ 16 := by
  have := h.nodes
  simp [mayB] at this
  omega
theorem lookH_mem : ∀ {l : List HlD} {d : Int} {x : HlD}, lookH l d = some x → x ∈ l
  | [], _, _, h => by simp [lookH] at h
  | y :: r, d, x, h => by
    rw [lookH] at h
    split at h
    · cases h; exact List.mem_cons_self
    · exact List.mem_cons_of_mem _ (lookH_mem h)
theorem flat_short {α : Type} (f : α → List OtD) (c : Nat) : ∀ (l : List α), (∀ x ∈ l, (f x).length ≤ c) → (l.flatMap f).length ≤ l.length * c
  | [], _ => by simp
  | x :: r, h => by
    have h1 := flat_short f c r fun y hy => h y (List.mem_cons_of_mem _ hy)
    have h2 := h x List.mem_cons_self
    rw [List.flatMap_cons, List.length_append, List.length_cons, Nat.succ_mul]
    omega
theorem retry_short {k : Nat} {P : WkD} (hg : Grown k P) (hk : k ≤ 13) (h : MayW P) : ShortO (retryO P) := by
  constructor
  · have h2 := hg.w
    unfold retryO
    refine Nat.le_trans (flat_short _ 16 _ (fun x _ => ?_)) (show P.W.length * 16 ≤ 1000000 by omega)
    have h2 := nodes16 h
    split
    · rename_i y _
      have := askW_lenL P x.d y.a y.n y.L x.S
      omega
    · simp
  · intro y hy
    obtain ⟨x, _, hx⟩ := List.mem_flatMap.1 hy
    split at hx
    · rename_i z hz
      rw [askW_mem hx]
      exact hg.l z (lookH_mem hz)
    · simp at hx
theorem tick_short {k : Nat} {P : WkD} (hg : Grown k P) (hk : k ≤ 13) (h : MayW P) : ShortO (tickO P) := by
  unfold tickO
  split
  · exact retry_short hg hk h
  · exact ⟨by simp, fun y hy => by simp at hy⟩
theorem short_none : ShortO [] := ⟨by simp, fun y hy => by simp at hy⟩
/-! ### a step stands while only one block of another sort turns -/
end Go.Proofs.YteepobghdpnabaaGreat
