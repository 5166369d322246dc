/-
  Blocks of cells (Box), a struct out of a block and into it at once, lists in memory (Ad, SlIn), rows told apart. Of no program.
-/
import Derived.Test.YtejkeccoialogaaFoot
import Derived.Deep.MidRow
namespace Go.Proofs.Ytejkeccoialogaa
open Go.RowKit

/-- a block's cells, which may be written -/
def Box (w : World) (g : Nat) (vs : List Value) : Prop := g < w.heap.size ∧ ∀ i v, vs[i]? = some v → w.cell? ⟨g, i, none⟩ = some v ∧ w.frozen? ⟨g, i, none⟩ = false
theorem Box.lt {w : World} {g : Nat} {vs : List Value} (h : Box w g vs) : g < w.heap.size := h.1
theorem Box.below {w w' : World} {g B : Nat} {vs : List Value} (h : Box w g vs) (hb : Below B w w') (hg : g < B) : Box w' g vs :=
  ⟨by have := hb.size; have := h.1; omega, fun i v hv => ⟨(hb.cell (p := ⟨g, i, none⟩) hg).trans (h.2 i v hv).1, (hb.frozen (p := ⟨g, i, none⟩) hg).trans (h.2 i v hv).2⟩⟩
theorem box_new (w : World) (vs : List Value) (t : TypeId) : Box (w.alloc (.cells vs.toArray t)) w.heap.size vs :=
  ⟨by simp, fun i v hv => ⟨by rw [World.cell?_alloc_at _ _ _ _ rfl]; simpa using hv, by rw [World.frozen?, heap_alloc_new]; simp⟩⟩
theorem Box.set {w : World} {g j : Nat} {u : Value} {vs : List Value} (h : Box w g vs) (hj : j < vs.length) : Box (w.setCell ⟨g, j, none⟩ u) g (vs.set j u) := by
  refine ⟨by simpa using h.1, fun i v hv => ?_⟩
  rw [World.frozen?_setCell]
  by_cases hij : i = j
  · subst hij
    rw [List.getElem?_set_self hj] at hv
    simp only [Option.some.injEq] at hv
    subst hv
    obtain ⟨v0, hv0⟩ : ∃ v0, vs[i]? = some v0 := ⟨vs[i], by simp [hj]⟩
    exact ⟨World.cell?_setCell_same _ _ _ (h.2 i v0 hv0).1, (h.2 i v0 hv0).2⟩
  · rw [List.getElem?_set_ne (by omega)] at hv
    exact ⟨(World.cell?_setCell_other _ _ _ _ (by simp)).trans (h.2 i v hv).1, (h.2 i v hv).2⟩
theorem Box.far {w : World} {g g' j : Nat} {u : Value} {vs : List Value} (h : Box w g vs) (hne : g ≠ g') : Box (w.setCell ⟨g', j, none⟩ u) g vs :=
  ⟨by simpa using h.1, fun i v hv => ⟨(World.cell?_setCell_other _ _ _ _ (by simp)).trans (h.2 i v hv).1, by rw [World.frozen?_setCell]; exact (h.2 i v hv).2⟩⟩


theorem take_set_up {α : Type} {l : List α} {j : Nat} {v : α} (h : j < l.length) : (l.set j v).take (j + 1) = l.take j ++ [v] := by
  rw [List.take_add_one, List.getElem?_set_self h, List.take_set_of_le (Nat.le_refl _)]
  rfl
theorem drop_set_up {α : Type} {l : List α} {j k : Nat} {v : α} (h : j < k) : (l.set j v).drop k = l.drop k := by
  rw [List.drop_set_of_lt h]
theorem box_setCells {g : Nat} : ∀ (cs : List Value) (j : Nat) (vs : List Value) (w : World), Box w g vs → j + cs.length ≤ vs.length → Box (w.setCells g j cs) g (vs.take j ++ cs ++ vs.drop (j + cs.length))
  | [], j, vs, _, h, _ => by
    have e : vs.take j ++ [] ++ vs.drop (j + ([] : List Value).length) = vs := by simp
    rw [e]
    exact h
  | v :: r, j, vs, w, h, hl => by
    simp only [List.length_cons] at hl
    have ih := box_setCells r (j + 1) (vs.set j v) (w.setCell ⟨g, j, none⟩ v) (h.set (by omega)) (by rw [List.length_set]; omega)
    rw [take_set_up (by omega), drop_set_up (by omega)] at ih
    have e : vs.take j ++ (v :: r) ++ vs.drop (j + (v :: r).length) = vs.take j ++ [v] ++ r ++ vs.drop (j + 1 + r.length) := by
      rw [List.length_cons, show j + (r.length + 1) = j + 1 + r.length by omega]
      simp
    rw [e]
    exact ih
theorem touch_setCells {F : Nat → Prop} {g : Nat} (hF : F g) : ∀ (cs : List Value) (j : Nat) (w0 w : World), Touch F w0 w → Touch F w0 (w.setCells g j cs)
  | [], _, _, _, h => h
  | v :: r, j, w0, _, h => touch_setCells hF r (j + 1) w0 _ (h.set (.inl hF) v)

section
variable {P : Program} {w : World}
theorem wpList_load_box {ops : Array Oper} {rest : List Oper} {op : Oper} {a : Act} {Q : Exit → Act → World → Prop} (hgd : op.guard = none) (ty : TypeId) (x : Operand) (ho : op.op = .load ty x)
    (g : Nat) (hx : a.eval x = .pointer (some ⟨g, 0, none⟩)) (cs : List Value) (hb : Box w g cs) (d : TypeDesc) (hu : P.underlying ty = some d) (hd : d.isRow = true) (hi : (P.info? ty).map (·.size) = some cs.length)
    (h : wpList P ops Q rest (a.put op.dst (.agg cs.toArray)) w) : wpList P ops Q (op :: rest) a w :=
  wpList_load_mid hgd ty x ho g 0 hx cs d (fun j v hv => by rw [Nat.zero_add]; exact (hb.2 j v hv).1) hu hd hi h
theorem wp_load_box {op : Oper} {a : Act} {K : Act → World → Prop} {Q : Exit → Act → World → Prop} (ty : TypeId) (x : Operand) (ho : op.op = .load ty x)
    (g : Nat) (hx : a.eval x = .pointer (some ⟨g, 0, none⟩)) (cs : List Value) (hb : Box w g cs) (d : TypeDesc) (hu : P.underlying ty = some d) (hd : d.isRow = true) (hi : (P.info? ty).map (·.size) = some cs.length)
    (h : K (a.put op.dst (.agg cs.toArray)) w) : op.wp P a w K Q :=
  wp_load_mid ty x ho g 0 hx cs d (fun j v hv => by rw [Nat.zero_add]; exact (hb.2 j v hv).1) hu hd hi h
/-- at an operation that is asked for -/
theorem wpList_load_boxG {ops : Array Oper} {rest : List Oper} {op : Oper} {a : Act} {Q : Exit → Act → World → Prop} (ty : TypeId) (x : Operand) (ho : op.op = .load ty x)
    (g : Nat) (hx : a.eval x = .pointer (some ⟨g, 0, none⟩)) (hw : Region.wanted op (yielded ops a.tmps) = true) (cs : List Value) (hb : Box w g cs) (d : TypeDesc) (hu : P.underlying ty = some d) (hd : d.isRow = true) (hi : (P.info? ty).map (·.size) = some cs.length)
    (h : wpList P ops Q rest (a.put op.dst (.agg cs.toArray)) w) : wpList P ops Q (op :: rest) a w := by
  rw [wpList, if_pos hw]
  exact .inl (wp_load_box ty x ho g hx cs hb d hu hd hi h)
theorem there_box {g j n : Nat} {vs : List Value} (hb : Box w g vs) (hl : j + n ≤ vs.length) : w.there g j n := fun i hi => by
  obtain ⟨v, hv⟩ : ∃ v, vs[j + i]? = some v := ⟨vs[j + i], by simp [show j + i < vs.length by omega]⟩
  exact ⟨by rw [(hb.2 _ v hv).1]; rfl, (hb.2 _ v hv).2⟩
theorem wpList_store_box {ops : Array Oper} {rest : List Oper} {op : Oper} {a : Act} {Q : Exit → Act → World → Prop} (hgd : op.guard = none) (ty : TypeId) (x y : Operand) (ho : op.op = .store ty x y)
    (g j : Nat) (cs vs us : List Value) (hx : a.eval x = .pointer (some ⟨g, j, none⟩)) (hy : a.eval y = .agg cs.toArray) (hb : Box w g vs) (hl : j + cs.length ≤ vs.length) (hus : us = vs.take j ++ cs ++ vs.drop (j + cs.length))
    (hi : (P.info? ty).map (·.size) = some cs.length) (h1 : cs.all (·.oneCell') = true)
    (h : ∀ w', Box w' g us → (∀ F : Nat → Prop, F g → Touch F w w') → wpList P ops Q rest (a.put op.dst undef) w') : wpList P ops Q (op :: rest) a w :=
  wpList_store_mid hgd ty x y ho g j cs.toArray hx hy (by rw [List.size_toArray]; exact there_box hb hl) (by rw [List.size_toArray]; exact hi) (all_oneCell_toArray fun v hv => List.all_eq_true.1 h1 v hv)
    (h _ (by rw [hus]; exact box_setCells cs j vs w hb hl) (fun F hF => touch_setCells hF cs j w w (Touch.refl F w)))
/-- an operation that runs to a value -/
theorem wpList_run_to {ops : Array Oper} {rest : List Oper} {o : Oper} {a : Act} {Q : Exit → Act → World → Prop} (hg : o.guard = none) (t : TypeId) (_ : o.op = .alloc t) (v : Value) (w' : World) (hrun : (execOp a.eval o).run P w = .ok (.value v) w')
    (h : wpList P ops Q rest (a.put o.dst v) w') : wpList P ops Q (o :: rest) a w := by
  refine wpList_plain hg fun K hK => ?_
  unfold Oper.wp
  rw [hrun, Oper.upon_value]
  exact hK _ _ h
/-- one cell -/
theorem box_set_one {g j : Nat} {u : Value} {vs us : List Value} (hb : Box w g vs) (hj : j < vs.length) (hus : us = vs.set j u) : Box (w.setCell ⟨g, j, none⟩ u) g us := by rw [hus]; exact hb.set hj
end


/-- a row stands when only other blocks turn -/
theorem own_touch {F : Nat → Prop} {w w' : World} {B s n : Nat} {e : TypeId} {v : Value} {xs : List Value} (h : w.ownsRow B e s v n xs) (ht : Touch F w w') (hF : ∀ k, F k → k < B) : w'.ownsRow B e s v n xs :=
  own_kept h fun g hg hl => ht.block g hl fun hf => by have := (own_lt h hg).2; have := hF g hf; omega
theorem Touch.on {F : Nat → Prop} {w w' w'' : World} (h : Touch F w w') (k : Touch F w' w'') : Touch F w w'' := h.trans k fun _ h => .inl h
theorem Box.touch {F : Nat → Prop} {w w' : World} {g : Nat} {vs : List Value} (h : Box w g vs) (ht : Touch F w w') (hg : ¬ F g) : Box w' g vs :=
  ⟨by have := ht.size; have := h.1; omega, fun i v hv => ⟨(ht.cell h.1 hg).trans (h.2 i v hv).1, (ht.frozen h.1 hg).trans (h.2 i v hv).2⟩⟩
theorem rd_of_own {w : World} {B n c : Nat} {e : TypeId} {A : Option Addr} {xs : List Value} (h : w.ownsRow B e 1 (.slice A n c) n xs) : n ≤ c ∧ c ≤ maxLen ∧ Rd w A xs := by
  obtain ⟨_, _, e, h1, h2, h3, _, _⟩ := own_val h
  cases e
  exact ⟨h1, h2, h3⟩
theorem rd_of_ownS {w : World} {B n c s : Nat} {e : TypeId} {A : Option Addr} {xs : List Value} (h : w.ownsRow B e s (.slice A n c) n xs) : n ≤ c ∧ c ≤ maxLen ∧ Rd w A xs := by
  obtain ⟨_, _, e, h1, h2, h3, _, _⟩ := ownS_slice h
  cases e
  exact ⟨h1, h2, h3⟩

theorem own_typeZ {w : World} {B e s n : Nat} {v : Value} {xs : List Value} (h : w.ownsRow B e s v n xs) {b : Nat} (hb : v.ownBlock = some b) : ∃ cur, w.heap[b]? = some (.cells cur e (0, 0)) := by
  rcases h.2 with ⟨rfl, _⟩ | ⟨g', cap, cur, rfl, hB, hh, _⟩
  · simp [Value.ownBlock] at hb
  · have : g' = b := by simpa [Value.ownBlock] using hb
    subst this
    exact ⟨cur, hh⟩
/-- rows of unlike elements lie in unlike blocks -/
theorem own_unlike {w : World} {B B' e e' s s' n n' : Nat} {v v' : Value} {xs xs' : List Value} (h : w.ownsRow B e s v n xs) (h' : w.ownsRow B' e' s' v' n' xs') (he : e ≠ e') {b : Nat} (hb : v.ownBlock = some b) : v'.ownBlock ≠ some b := fun hb' => by
  obtain ⟨cur, h1⟩ := own_typeZ h hb
  obtain ⟨cur', h2⟩ := own_typeZ h' hb'
  rw [h1] at h2
  cases h2
  exact he rfl

/-- where a list lies -/
structure Ad where
  A : Option Addr
  n : Nat
  c : Nat
def Ad.v (a : Ad) : Value := .slice a.A a.n a.c
def noAd : Ad := ⟨none, 0, 0⟩
/-- a list that reads as cells -/
structure SlIn (w : World) (a : Ad) (l : Nat) (xs : List Value) : Prop where
  len : l = a.n
  cap : a.n ≤ a.c
  max : a.c ≤ maxLen
  rd : Rd w a.A xs
section
variable {w w' : World} {a : Ad} {l : Nat} {xs : List Value} {B e s : Nat}
theorem SlIn.below (h : SlIn w a l xs) (hb : Below w.heap.size w w') : SlIn w' a l xs := ⟨h.len, h.cap, h.max, h.rd.below hb⟩
theorem SlIn.touch {F : Nat → Prop} (h : SlIn w a l xs) (ht : Touch F w w') (hF : ∀ x, a.A = some x → ¬ F x.block) : SlIn w' a l xs :=
  ⟨h.len, h.cap, h.max, h.rd.kept ht.size fun x hx hl => ht.block _ hl (hF x hx)⟩
theorem SlIn.drew (h : SlIn w a l xs) : SlIn w.drew a l xs := ⟨h.len, h.cap, h.max, h.rd⟩
theorem slIn_none (w : World) : SlIn w noAd 0 [] := ⟨rfl, Nat.le_refl _, by simp [noAd, maxLen], Rd.nil _ _⟩
theorem slIn_own {B : Nat} (h : w.ownsRow B e s a.v a.n xs) (hl : l = a.n) : SlIn w a l xs := by
  obtain ⟨h1, h2, h3⟩ := rd_of_ownS (A := a.A) (c := a.c) h
  exact ⟨hl, h1, h2, h3⟩
end

/-- is a block one that is read? -/
def Ad.at_ (a : Ad) (k : Nat) : Prop := ∃ x, a.A = some x ∧ x.block = k

theorem own_setCells {B n c g s : Nat} {e : TypeId} : ∀ (cs : List Value) (j : Nat) (xs : List Value) (w : World), w.ownsRow B e s (.slice (some ⟨g, 0, none⟩) n c) n xs → j + cs.length ≤ xs.length → (w.setCells g j cs).ownsRow B e s (.slice (some ⟨g, 0, none⟩) n c) n (xs.take j ++ cs ++ xs.drop (j + cs.length))
  | [], j, xs, _, h, _ => by
    have e : xs.take j ++ [] ++ xs.drop (j + ([] : List Value).length) = xs := by simp
    rw [e]
    exact h
  | v :: r, j, xs, w, h, hl => by
    simp only [List.length_cons] at hl
    have ih := own_setCells r (j + 1) (xs.set j v) (w.setCell ⟨g, j, none⟩ v) (h.stored j v).1 (by rw [List.length_set]; omega)
    rw [take_set_up (by omega), drop_set_up (by omega)] at ih
    have e : xs.take j ++ (v :: r) ++ xs.drop (j + (v :: r).length) = xs.take j ++ [v] ++ r ++ xs.drop (j + 1 + r.length) := by
      simp only [List.length_cons, List.append_assoc, List.cons_append, List.nil_append]
      rw [show j + (r.length + 1) = j + 1 + r.length by omega]
    rw [e]
    exact ih
theorem row_box {w : World} {B n c g s : Nat} {e : TypeId} {xs : List Value} (h : w.ownsRow B e s (.slice (some ⟨g, 0, none⟩) n c) n xs) : Box w g xs :=
  ⟨(own_lt h rfl).1, fun j v hj => by
    obtain ⟨hl, he⟩ := List.getElem?_eq_some_iff.1 hj
    have hl' : j < n * s := by have := h.1; omega
    exact ⟨(h.cellAt j hl').trans hj, h.frozenAt j⟩⟩
section
variable {P : Program} {w : World}
theorem wpList_store_row {ops : Array Oper} {rest : List Oper} {op : Oper} {a : Act} {Q : Exit → Act → World → Prop} (hgd : op.guard = none) (ty : TypeId) (x y : Operand) (ho : op.op = .store ty x y)
    (B n c g s j : Nat) (e : TypeId) (cs xs : List Value) (hx : a.eval x = .pointer (some ⟨g, j, none⟩)) (hy : a.eval y = .agg cs.toArray) (hb : w.ownsRow B e s (.slice (some ⟨g, 0, none⟩) n c) n xs) (hl : j + cs.length ≤ xs.length)
    (hi : (P.info? ty).map (·.size) = some cs.length) (h1 : cs.all (·.oneCell') = true)
    (h : ∀ w', w'.ownsRow B e s (.slice (some ⟨g, 0, none⟩) n c) n (xs.take j ++ cs ++ xs.drop (j + cs.length)) → (∀ F : Nat → Prop, F g → Touch F w w') → wpList P ops Q rest (a.put op.dst undef) w') : wpList P ops Q (op :: rest) a w :=
  wpList_store_mid hgd ty x y ho g j cs.toArray hx hy (by rw [List.size_toArray]; exact there_box (row_box hb) hl) (by rw [List.size_toArray]; exact hi) (all_oneCell_toArray fun v hv => List.all_eq_true.1 h1 v hv)
    (h _ (own_setCells cs j xs w hb hl) (fun F hF => touch_setCells hF cs j w w (Touch.refl F w)))
end

end Go.Proofs.Ytejkeccoialogaa
