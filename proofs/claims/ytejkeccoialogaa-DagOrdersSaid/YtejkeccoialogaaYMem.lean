/-
  Certificates in memory: one, and a row of them, read or owned.
-/
import Derived.Test.YtejkeccoialogaaYPlain
import Derived.Test.YtejkeccoialogaaHEqC
import Derived.Test.YtejkeccoialogaaSl
import Derived.WalkSpells
import Derived.BigQuiet
import Derived.Deep.QuietTactic
import Derived.Deep.DeepCutAuto
import Derived.Deep.CutRange
namespace Go.Proofs.Ytejkeccoialogaa
open Go.RowKit

/-- where a certificate's lists lie -/
structure CrtA where
  B : Ad
  P : Ad
  S : Ad
def zeroCA : CrtA := ⟨noAd, noAd, noAd⟩
def crtC (x : CrtD) (a : CrtA) : List Value := [.int .i64 x.a, .int .i64 x.r, .slice a.B.A a.B.n a.B.c, .slice a.P.A a.P.n a.P.c, .int .i64 x.d, .slice a.S.A a.S.n a.S.c]
def crtV (x : CrtD) (a : CrtA) : Value := .agg #[.int .i64 x.a, .int .i64 x.r, .slice a.B.A a.B.n a.B.c, .slice a.P.A a.P.n a.P.c, .int .i64 x.d, .slice a.S.A a.S.n a.S.c]
def dagV (N L : Int) (o : Ad) : Value := .agg #[.int .i64 N, .int .i64 L, .slice o.A o.n o.c]
/-- numbers of the language, lists of a length that fits -/
structure CrtFit (x : CrtD) : Prop where
  wa : I64 x.a
  wr : I64 x.r
  wd : I64 x.d
  wB : I64s x.B
  wP : I64s x.P
  wS : I64s x.S
  lB : x.B.length ≤ 100000
  lP : x.P.length ≤ 100000
  lS : x.S.length ≤ 100000
/-- one that reads -/
structure CIn (w : World) (x : CrtD) (a : CrtA) : Prop where
  b : SlIn w a.B x.B.length (i64s x.B)
  p : SlIn w a.P x.P.length (i64s x.P)
  s : SlIn w a.S x.S.length (i64s x.S)
def CrtA.has (a : CrtA) (k : Nat) : Prop := a.B.v.ownBlock = some k ∨ a.P.v.ownBlock = some k ∨ a.S.v.ownBlock = some k
/-- one whose lists the call owns, each apart -/
structure CNew (B : Nat) (w : World) (x : CrtD) (a : CrtA) : Prop where
  b : w.ownsRow B 3 1 a.B.v a.B.n (i64s x.B)
  p : w.ownsRow B 3 1 a.P.v a.P.n (i64s x.P)
  s : w.ownsRow B 3 1 a.S.v a.S.n (i64s x.S)
  lb : x.B.length = a.B.n
  lp : x.P.length = a.P.n
  ls : x.S.length = a.S.n
  bp : ∀ k, a.B.v.ownBlock = some k → a.P.v.ownBlock ≠ some k
  bs : ∀ k, a.B.v.ownBlock = some k → a.S.v.ownBlock ≠ some k
  ps : ∀ k, a.P.v.ownBlock = some k → a.S.v.ownBlock ≠ some k
section
variable {w w' : World} {x : CrtD} {a : CrtA} {B B' : Nat} {F : Nat → Prop}
theorem CIn.below (h : CIn w x a) (hb : Below w.heap.size w w') : CIn w' x a := ⟨h.b.below hb, h.p.below hb, h.s.below hb⟩
theorem CIn.drew (h : CIn w x a) : CIn w.drew x a := ⟨h.b.drew, h.p.drew, h.s.drew⟩
theorem CIn.numsB (h : CIn w x a) (hf : CrtFit x) : NumsIn w a.B.A a.B.c a.B.n x.B := ⟨h.b.len, h.b.rd, h.b.cap, h.b.max, hf.wB⟩
theorem CIn.numsP (h : CIn w x a) (hf : CrtFit x) : NumsIn w a.P.A a.P.c a.P.n x.P := ⟨h.p.len, h.p.rd, h.p.cap, h.p.max, hf.wP⟩
theorem CIn.numsS (h : CIn w x a) (hf : CrtFit x) : NumsIn w a.S.A a.S.c a.S.n x.S := ⟨h.s.len, h.s.rd, h.s.cap, h.s.max, hf.wS⟩
theorem CIn.hdr (h : CIn w x a) (hf : CrtFit x) : HdrIn w a.B.A a.B.c a.B.n x.B a.P.A a.P.c a.P.n x.P := ⟨h.numsB hf, h.numsP hf, by have := hf.lB; have := h.b.len; omega, by have := hf.lP; have := h.p.len; omega⟩
theorem cIn_zero (w : World) : CIn w zeroC6 zeroCA := ⟨slIn_none w, slIn_none w, slIn_none w⟩
theorem i64_nul : I64 0 := by unfold I64; omega
theorem i64s_nil : I64s [] := fun x h => by simp at h
theorem fit_zero : CrtFit zeroC6 := ⟨i64_nul, i64_nul, i64_nul, i64s_nil, i64s_nil, i64s_nil, by simp [zeroC6], by simp [zeroC6], by simp [zeroC6]⟩
theorem CNew.in_ (h : CNew B w x a) : CIn w x a := ⟨slIn_own h.b h.lb, slIn_own h.p h.lp, slIn_own h.s h.ls⟩
theorem CNew.below (h : CNew B w x a) (hb : Below w.heap.size w w') : CNew B w' x a := ⟨own_below h.b hb, own_below h.p hb, own_below h.s hb, h.lb, h.lp, h.ls, h.bp, h.bs, h.ps⟩
theorem CNew.more (h : CNew B w x a) (hB : B' ≤ B) : CNew B' w x a := ⟨own_more h.b hB, own_more h.p hB, own_more h.s hB, h.lb, h.lp, h.ls, h.bp, h.bs, h.ps⟩
theorem CNew.lt (h : CNew B w x a) {k : Nat} (hk : a.has k) : k < w.heap.size ∧ B ≤ k := by
  rcases hk with hk | hk | hk
  · exact own_lt h.b hk
  · exact own_lt h.p hk
  · exact own_lt h.s hk
theorem CNew.kept (h : CNew B w x a) (hk : ∀ g, a.has g → g < w.heap.size → w'.heap[g]? = w.heap[g]?) : CNew B w' x a :=
  ⟨own_kept h.b fun g hg => hk g (.inl hg), own_kept h.p fun g hg => hk g (.inr (.inl hg)), own_kept h.s fun g hg => hk g (.inr (.inr hg)), h.lb, h.lp, h.ls, h.bp, h.bs, h.ps⟩
theorem CNew.touch (h : CNew B w x a) (ht : Touch F w w') (hF : ∀ k, F k → ¬ a.has k) : CNew B w' x a := h.kept fun g hg hl => ht.block g hl fun hf => hF g hf hg
theorem cNew_zero (B : Nat) (w : World) : CNew B w zeroC6 zeroCA := ⟨World.ownsRow_nil _ _ _ _, World.ownsRow_nil _ _ _ _, World.ownsRow_nil _ _ _ _, rfl, rfl, rfl, (fun k hk => by cases hk), (fun k hk => by cases hk), (fun k hk => by cases hk)⟩
/-- its block's type -/
theorem CNew.typ (h : CNew B w x a) {k : Nat} (hk : a.has k) : ∃ cur, w.heap[k]? = some (.cells cur 3 (0, 0)) := by
  rcases hk with hk | hk | hk
  · exact own_typeZ h.b hk
  · exact own_typeZ h.p hk
  · exact own_typeZ h.s hk
end

/-! ### rows -/
def cellsY (ms : List (CrtD × CrtA)) : List Value := ms.flatMap fun x => crtC x.1 x.2
theorem cellsY_length (ms : List (CrtD × CrtA)) : (cellsY ms).length = ms.length * 6 := by
  induction ms with
  | nil => rfl
  | cons x l ih =>
    have e : cellsY (x :: l) = crtC x.1 x.2 ++ cellsY l := rfl
    rw [e, List.length_append, ih, List.length_cons]
    show 6 + _ = _
    omega
theorem cellsY_append (a b : List (CrtD × CrtA)) : cellsY (a ++ b) = cellsY a ++ cellsY b := by simp [cellsY]
theorem cellsY_one (x : CrtD × CrtA) : cellsY [x] = crtC x.1 x.2 := by simp [cellsY]
theorem cellsY_take (ms : List (CrtD × CrtA)) (k : Nat) : (cellsY ms).take (k * 6) = cellsY (ms.take k) := by
  rcases Nat.lt_or_ge k ms.length with h | h
  · conv => lhs; rw [← List.take_append_drop k ms, cellsY_append]
    rw [List.take_append_of_le_length (by rw [cellsY_length, List.length_take, Nat.min_eq_left (by omega)]; exact Nat.le_refl _), List.take_of_length_le (by rw [cellsY_length, List.length_take, Nat.min_eq_left (by omega)]; exact Nat.le_refl _)]
  · rw [List.take_of_length_le h, List.take_of_length_le (by rw [cellsY_length]; omega)]
theorem cellsY_drop (ms : List (CrtD × CrtA)) (k : Nat) : (cellsY ms).drop (k * 6) = cellsY (ms.drop k) := by
  rcases Nat.lt_or_ge k ms.length with h | h
  · conv => lhs; rw [← List.take_append_drop k ms, cellsY_append]
    rw [List.drop_append_of_le_length (by rw [cellsY_length, List.length_take, Nat.min_eq_left (by omega)]; exact Nat.le_refl _), List.drop_of_length_le (by rw [cellsY_length, List.length_take, Nat.min_eq_left (by omega)]; exact Nat.le_refl _), List.nil_append]
  · rw [List.drop_of_length_le h, List.drop_of_length_le (by rw [cellsY_length]; omega)]
    rfl
theorem cellsY_at {ms : List (CrtD × CrtA)} {i : Nat} {x : CrtD × CrtA} (h : ms[i]? = some x) {j : Nat} {v : Value} (hv : (crtC x.1 x.2)[j]? = some v) : (cellsY ms)[i * 6 + j]? = some v := by
  obtain ⟨hl, he⟩ := List.getElem?_eq_some_iff.1 h
  have e : cellsY ms = cellsY (ms.take i) ++ (crtC x.1 x.2 ++ cellsY (ms.drop (i + 1))) := by
    conv => lhs; rw [← List.take_append_drop i ms, cellsY_append, List.drop_eq_getElem_cons hl, he]
    rfl
  have hj : j < 6 := (List.getElem?_eq_some_iff.1 hv).1
  rw [e, List.getElem?_append_right (by rw [cellsY_length, List.length_take]; omega), cellsY_length, List.length_take, Nat.min_eq_left (by omega), show i * 6 + j - i * 6 = j by omega, List.getElem?_append_left (show j < 6 from hj)]
  exact hv
theorem cellsY_oneCell (ms : List (CrtD × CrtA)) : ∀ u ∈ cellsY ms, u.oneCell' = true := fun u hu => by
  obtain ⟨x, _, hx⟩ := List.mem_flatMap.1 hu
  exact List.all_eq_true.1 (show (crtC x.1 x.2).all (·.oneCell') = true from rfl) u hx

/-- a row of certificates that reads -/
structure RowY (w : World) (o : Ad) (ms : List (CrtD × CrtA)) : Prop where
  row : SlIn w o ms.length (cellsY ms)
  sub : ∀ x ∈ ms, CIn w x.1 x.2
  fit : ∀ x ∈ ms, CrtFit x.1
  few : ms.length ≤ 1000000
/-- a row of them that the call owns -/
structure OwnY (B : Nat) (w : World) (o : Ad) (ms : List (CrtD × CrtA)) : Prop where
  row : w.ownsRow B 37 6 o.v o.n (cellsY ms)
  len : ms.length = o.n
  sub : ∀ x ∈ ms, CNew B w x.1 x.2
  nod : ms.Pairwise fun x y => ∀ k, x.2.has k → ¬ y.2.has k
section
variable {w w' : World} {o : Ad} {ms : List (CrtD × CrtA)} {B B' : Nat} {F : Nat → Prop}
theorem RowY.below (h : RowY w o ms) (hb : Below w.heap.size w w') : RowY w' o ms := ⟨h.row.below hb, fun x hx => (h.sub x hx).below hb, h.fit, h.few⟩
theorem RowY.drew (h : RowY w o ms) : RowY w.drew o ms := ⟨h.row.drew, fun x hx => (h.sub x hx).drew, h.fit, h.few⟩
theorem rowY_none (w : World) : RowY w noAd [] := ⟨slIn_none w, fun x hx => by simp at hx, fun x hx => by simp at hx, by simp⟩
theorem OwnY.in_ (h : OwnY B w o ms) (hf : ∀ x ∈ ms, CrtFit x.1) (hl : ms.length ≤ 1000000) : RowY w o ms := ⟨slIn_own h.row h.len, fun x hx => (h.sub x hx).in_, hf, hl⟩
theorem ownY_none (w : World) (B : Nat) : OwnY B w noAd [] := ⟨World.ownsRow_nil _ _ _ _, rfl, fun x hx => by simp at hx, List.Pairwise.nil⟩
theorem OwnY.below (h : OwnY B w o ms) (hb : Below w.heap.size w w') : OwnY B w' o ms := ⟨ownS_below h.row hb, h.len, fun x hx => (h.sub x hx).below hb, h.nod⟩
theorem OwnY.more (h : OwnY B w o ms) (hB : B' ≤ B) : OwnY B' w o ms := ⟨ownS_more h.row hB, h.len, fun x hx => (h.sub x hx).more hB, h.nod⟩
/-- the row and its certificates' lists lie apart -/
theorem OwnY.apart (h : OwnY B w o ms) {x : CrtD × CrtA} (hx : x ∈ ms) {k : Nat} (hk : o.v.ownBlock = some k) : ¬ x.2.has k := fun hh => by
  obtain ⟨cur, h1⟩ := own_typeZ h.row hk
  obtain ⟨cur', h2⟩ := (h.sub x hx).typ hh
  rw [h1] at h2
  cases h2
/-- the cells at an index -/
theorem RowY.cells (h : RowY w o ms) {i : Nat} {x : CrtD × CrtA} (hx : ms[i]? = some x) : ∃ b off, o.A = some ⟨b, off, none⟩ ∧ b < w.heap.size ∧ ∀ wX, Below w.heap.size w wX →
    wX.cell? ⟨b, off + i * 6, none⟩ = some (.int .i64 x.1.a) ∧ wX.cell? ⟨b, off + i * 6 + 1, none⟩ = some (.int .i64 x.1.r) ∧ wX.cell? ⟨b, off + i * 6 + 2, none⟩ = some (.slice x.2.B.A x.2.B.n x.2.B.c) ∧ wX.cell? ⟨b, off + i * 6 + 3, none⟩ = some (.slice x.2.P.A x.2.P.n x.2.P.c) ∧ wX.cell? ⟨b, off + i * 6 + 4, none⟩ = some (.int .i64 x.1.d) ∧ wX.cell? ⟨b, off + i * 6 + 5, none⟩ = some (.slice x.2.S.A x.2.S.n x.2.S.c) := by
  have hl := (List.getElem?_eq_some_iff.1 hx).1
  obtain ⟨b, off, e, hb, hc⟩ := h.row.rd.open_ (by rw [cellsY_length]; omega)
  have key : ∀ wX, Below w.heap.size w wX → ∀ j v, (crtC x.1 x.2)[j]? = some v → wX.cell? ⟨b, off + i * 6 + j, none⟩ = some v := fun wX hw j v hv => by
    rw [Nat.add_assoc]
    exact (hw.cell (p := ⟨b, off + (i * 6 + j), none⟩) hb).trans (hc _ _ (cellsY_at hx hv))
  exact ⟨b, off, e, hb, fun wX hw => ⟨key wX hw 0 _ rfl, key wX hw 1 _ rfl, key wX hw 2 _ rfl, key wX hw 3 _ rfl, key wX hw 4 _ rfl, key wX hw 5 _ rfl⟩⟩
end

/-- a graph's certificates in memory -/
def GIn (w : World) (o : Ad) (l : List CrtD) : Prop := ∃ ms, RowY w o ms ∧ ms.map Prod.fst = l
section
variable {w w' : World} {o : Ad} {l : List CrtD}
theorem GIn.below (h : GIn w o l) (hb : Below w.heap.size w w') : GIn w' o l := by
  obtain ⟨ms, h1, h2⟩ := h
  exact ⟨ms, h1.below hb, h2⟩
theorem GIn.drew (h : GIn w o l) : GIn w.drew o l := by
  obtain ⟨ms, h1, h2⟩ := h
  exact ⟨ms, h1.drew, h2⟩
theorem GIn.len (h : GIn w o l) : l.length = o.n := by
  obtain ⟨ms, h1, h2⟩ := h
  rw [← h2, List.length_map, h1.row.len]
theorem GIn.few (h : GIn w o l) : o.n ≤ 1000000 := by
  obtain ⟨ms, h1, h2⟩ := h
  rw [← h1.row.len]; exact h1.few
theorem GIn.cap (h : GIn w o l) : o.n ≤ o.c ∧ o.c ≤ maxLen := by
  obtain ⟨ms, h1, h2⟩ := h
  exact ⟨h1.row.cap, h1.row.max⟩
theorem GIn.fit (h : GIn w o l) {x : CrtD} (hx : x ∈ l) : CrtFit x := by
  obtain ⟨ms, h1, h2⟩ := h
  rw [← h2] at hx
  obtain ⟨y, hy, rfl⟩ := List.mem_map.1 hx
  exact h1.fit y hy
theorem gIn_none (w : World) : GIn w noAd [] := ⟨[], rowY_none w, rfl⟩
/-- a certificate of a row: its cells, and its lists -/
structure CrtAt (w : World) (b off i : Nat) (x : CrtD) (a : CrtA) : Prop where
  c0 : w.cell? ⟨b, off + i * 6, none⟩ = some (.int .i64 x.a)
  c1 : w.cell? ⟨b, off + i * 6 + 1, none⟩ = some (.int .i64 x.r)
  c2 : w.cell? ⟨b, off + i * 6 + 2, none⟩ = some (.slice a.B.A a.B.n a.B.c)
  c3 : w.cell? ⟨b, off + i * 6 + 3, none⟩ = some (.slice a.P.A a.P.n a.P.c)
  c4 : w.cell? ⟨b, off + i * 6 + 4, none⟩ = some (.int .i64 x.d)
  c5 : w.cell? ⟨b, off + i * 6 + 5, none⟩ = some (.slice a.S.A a.S.n a.S.c)
  in_ : CIn w x a
theorem GIn.get (h : GIn w o l) {i : Nat} {x : CrtD} (hx : l[i]? = some x) : ∃ (b off : Nat) (a : CrtA), o.A = some ⟨b, off, none⟩ ∧ b < w.heap.size ∧ CrtFit x ∧ ∀ wX, Below w.heap.size w wX → CrtAt wX b off i x a := by
  have hfit := h.fit (List.mem_of_getElem? hx)
  obtain ⟨ms, h1, h2⟩ := h
  rw [← h2, List.getElem?_map] at hx
  cases hm : ms[i]? with
  | none => rw [hm] at hx; cases hx
  | some z =>
    rw [hm] at hx
    simp only [Option.map_some, Option.some.injEq] at hx
    subst hx
    obtain ⟨b, off, e, hb, hc⟩ := h1.cells hm
    exact ⟨b, off, z.2, e, hb, hfit, fun wX hw => by
      obtain ⟨c0, c1, c2, c3, c4, c5⟩ := hc wX hw
      exact ⟨c0, c1, c2, c3, c4, c5, (h1.sub z (List.mem_of_getElem? hm)).below hw⟩⟩
end

/-- the cells of a block that holds a certificate, a graph -/
theorem crt_cells {w : World} {g : Nat} {x : CrtD} {a : CrtA} (h : Box w g (crtC x a)) : w.cell? ⟨g, 0, none⟩ = some (.int .i64 x.a) ∧ w.cell? ⟨g, 1, none⟩ = some (.int .i64 x.r) ∧ w.cell? ⟨g, 2, none⟩ = some (.slice a.B.A a.B.n a.B.c) ∧ w.cell? ⟨g, 3, none⟩ = some (.slice a.P.A a.P.n a.P.c) ∧ w.cell? ⟨g, 4, none⟩ = some (.int .i64 x.d) ∧ w.cell? ⟨g, 5, none⟩ = some (.slice a.S.A a.S.n a.S.c) :=
  ⟨(h.2 0 _ rfl).1, (h.2 1 _ rfl).1, (h.2 2 _ rfl).1, (h.2 3 _ rfl).1, (h.2 4 _ rfl).1, (h.2 5 _ rfl).1⟩
def dagC (N L : Int) (o : Ad) : List Value := [.int .i64 N, .int .i64 L, .slice o.A o.n o.c]
theorem dag_cells {w : World} {g : Nat} {N L : Int} {o : Ad} (h : Box w g (dagC N L o)) : w.cell? ⟨g, 0, none⟩ = some (.int .i64 N) ∧ w.cell? ⟨g, 1, none⟩ = some (.int .i64 L) ∧ w.cell? ⟨g, 2, none⟩ = some (.slice o.A o.n o.c) :=
  ⟨(h.2 0 _ rfl).1, (h.2 1 _ rfl).1, (h.2 2 _ rfl).1⟩
/-- a graph and a certificate in blocks of their own, as parameters are -/
theorem two_new (w : World) (N L : Int) (o : Ad) (x : CrtD) (a : CrtA) (t t' : TypeId) {w1 : World} (h : w1 = (w.alloc (.cells (dagC N L o).toArray t)).alloc (.cells (crtC x a).toArray t')) :
    Below w.heap.size w w1 ∧ w1.heap.size = w.heap.size + 2 ∧ Box w1 w.heap.size (dagC N L o) ∧ Box w1 (w.heap.size + 1) (crtC x a) := by
  subst h
  refine ⟨((Below.refl _ _).alloc (Nat.le_refl _) _).alloc (by simp) _, by simp, ?_, ?_⟩
  · exact (box_new w (dagC N L o) t).below (B := (w.alloc (.cells (dagC N L o).toArray t)).heap.size) ((Below.refl _ _).alloc (Nat.le_refl _) _) (by simp)
  · have := box_new (w.alloc (.cells (dagC N L o).toArray t)) (crtC x a) t'
    simpa using this

end Go.Proofs.Ytejkeccoialogaa
