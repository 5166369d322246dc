/-
  An invariant of a statement whose order is open; and the statement that copies a batch four times into four new variables.
-/
import Derived.Test.YtkkamcdilpcehaaPage
import Derived.Orders
import Derived.OneCell
namespace Go.Proofs.Ytkkamcdilpcehaa
open Go.RowKit

/-! ### an invariant over all orders -/
/-- how many operations are still to come -/
def left (l : List Bool) : Nat := l.countP (fun b => !b)
theorem left_set : ∀ (l : List Bool) (i : Nat), l[i]? = some false → left (l.set i true) + 1 = left l
  | [], _, h => by simp at h
  | b :: l, 0, h => by
    simp at h; subst h
    simp [left]
  | b :: l, i + 1, h => by
    have := left_set l i (by simpa using h)
    cases b <;> simp [left] at this ⊢ <;> omega
theorem left_none {l : List Bool} (h : left l = 0) (i : Nat) : l[i]? ≠ some false := fun e => by
  have := left_set l i e
  omega
theorem getD_false {l : Array Bool} {i : Nat} (h : l.getD i true = false) : l.toList[i]? = some false := by
  rcases Nat.lt_or_ge i l.size with h' | h'
  · simp [h'] at h ⊢; exact h
  · simp [Array.getElem?_eq_none h'] at h

theorem wpAny_inv {P : Program} {md : Region.Mode} {ops : Array Oper} {Q : Exit → Act → World → Prop} (J : Array Bool → Act → World → Prop)
    (hback : ∀ (i : Nat) (o : Oper), ops[i]? = some o → ∀ e ∈ o.after, e.on < i)
    (hstep : ∀ (listed : Array Bool) (a : Act) (w : World) (i : Nat) (o : Oper), listed.size = ops.size → ops[i]? = some o → listed.getD i true = false → (∀ e ∈ o.after, Region.binds md e = true → listed.getD e.on false = true) → J listed a w → wpOp P ops Q i (J (listed.setIfInBounds i true)) a w)
    (hend : ∀ (listed : Array Bool) (a : Act) (w : World), (∀ i, i < ops.size → listed.getD i false = true) → J listed a w → Q .normal a w) :
    ∀ (fuel : Nat) (listed : Array Bool) (a : Act) (w : World), listed.size = ops.size → left listed.toList ≤ fuel → J listed a w → wpAny P md ops Q fuel listed a w := by
  have hall : ∀ (listed : Array Bool), listed.size = ops.size → Region.ready md ops listed = [] → ∀ n i, i < n → i < ops.size → listed.getD i false = true := by
    intro listed hs hr n
    induction n with
    | zero => intro i hi; omega
    | succ n ih =>
      intro i hi hio
      cases hl : listed.getD i false with
      | true => rfl
      | false =>
        have hio' : i < listed.size := by omega
        have hm : i ∈ Region.ready md ops listed := mem_ready.2 ⟨by simp [hio'] at hl ⊢; exact hl, ops[i], by simp [hio], fun e he _ => by
          have hlt := hback i ops[i] (by simp [hio]) e he
          exact ih e.on (by omega) (by omega)⟩
        rw [hr] at hm; cases hm
  intro fuel
  induction fuel with
  | zero =>
    intro listed a w hs hl hJ
    have hr : Region.ready md ops listed = [] := by
      rw [List.eq_nil_iff_forall_not_mem]
      intro j hj
      exact left_none (by omega) j (getD_false (mem_ready.1 hj).1)
    exact ⟨hr, hend listed a w (fun i hi => hall listed hs hr (i + 1) i (by omega) hi) hJ⟩
  | succ fuel ih =>
    intro listed a w hs hl hJ
    refine ⟨fun hr => hend listed a w (fun i hi => hall listed hs hr (i + 1) i (by omega) hi) hJ, fun i hi => ?_⟩
    obtain ⟨h0, o, ho, hd⟩ := mem_ready.1 hi
    have hc := left_set listed.toList i (getD_false h0)
    refine wpOp_mono (fun a' w' hJ' => ih (listed.setIfInBounds i true) a' w' (by simpa using hs) (by rw [Array.toList_setIfInBounds]; omega) hJ') (hstep listed a w i o hs ho h0 hd hJ)

theorem listed_or {listed : Array Bool} {i j : Nat} (h : (listed.setIfInBounds i true).getD j false = true) : j = i ∨ listed.getD j false = true := by
  by_cases hij : i = j
  · exact .inl hij.symm
  · rw [getD_set_ne false hij] at h
    exact .inr h

/-! ### slots -/
theorem put_same {a : Act} {d : Nat} (h : d < a.tmps.size) (v : Value) : (a.put (some d) v).tmps[d]? = some v := by simp [Act.put, h]
theorem put_other {a : Act} {d s : Nat} (h : d ≠ s) (v : Value) : (a.put (some d) v).tmps[s]? = a.tmps[s]? := by simp [Act.put, Array.getElem?_setIfInBounds_ne h]
theorem put_size (a : Act) (d : Option Nat) (v : Value) : (a.put d v).tmps.size = a.tmps.size := by cases d <;> simp [Act.put]
theorem eval_slot {a : Act} {s : Nat} {v : Value} (h : a.tmps[s]? = some v) : a.eval (.tmp s) = v := by simp [Act.eval, h]

/-! ### the four kinds of operation -/
section
variable {o : Oper} {a : Act} {w : World} {K : Act → World → Prop} {Q : Exit → Act → World → Prop} {s d g : Nat} {x0 x1 x2 y0 y1 y2 : Value}

theorem load3_wp (ho : o.op = .load 26 (.tmp s)) (hs : a.tmps[s]? = some (.pointer (some ⟨g, 0, none⟩))) (c0 : w.cell? ⟨g, 0, none⟩ = some x0) (c1 : w.cell? ⟨g, 1, none⟩ = some x1) (c2 : w.cell? ⟨g, 2, none⟩ = some x2)
    (h : K (a.put o.dst (.agg #[x0, x1, x2])) w) : o.wp Try.prog a w K Q := by
  have he := eval_slot hs
  unfold Oper.wp execOp
  simp only [ho]
  go_simp
  exact h
theorem alloc_wp (ho : o.op = .alloc 26) (h : K (a.put o.dst (.pointer (some ⟨w.heap.size, 0, none⟩))) (w.alloc (.cells #[.int .i64 0, .int .i64 0, .slice none 0 0] 26))) : o.wp Try.prog a w K Q := by
  unfold Oper.wp execOp
  simp only [ho]
  go_simp
  exact h
theorem store3_wp {k0 k1 : IntKind} {n0 n1 : Int} {A : Option Addr} {n c : Nat} (ho : o.op = .store 26 (.tmp s) (.tmp d)) (hd0 : o.dst = none) (hs : a.tmps[s]? = some (.pointer (some ⟨g, 0, none⟩))) (hd : a.tmps[d]? = some (.agg #[.int k0 n0, .int k1 n1, .slice A n c]))
    (c0 : w.cell? ⟨g, 0, none⟩ = some y0) (c1 : w.cell? ⟨g, 1, none⟩ = some y1) (c2 : w.cell? ⟨g, 2, none⟩ = some y2) (f0 : w.frozen? ⟨g, 0, none⟩ = false) (f1 : w.frozen? ⟨g, 1, none⟩ = false) (f2 : w.frozen? ⟨g, 2, none⟩ = false)
    (h : K a (((w.setCell ⟨g, 0, none⟩ (.int k0 n0)).setCell ⟨g, 1, none⟩ (.int k1 n1)).setCell ⟨g, 2, none⟩ (.slice A n c))) : o.wp Try.prog a w K Q := by
  have he := eval_slot hs
  have hf := eval_slot hd
  unfold Oper.wp execOp
  simp only [ho]
  go_simp
  exact h
theorem copy_wp {t : TypeId} {v : Value} (ho : o.op = .call { callee := .value (.func 13), args := #[.tmp s], argTypes := #[t] }) (hs : a.tmps[s]? = some v) {R : Ending → World → Prop} (hc : Calls Try.prog 13 #[v] w R)
    (h : ∀ e w', R e w' → ∃ u, e = .returned u ∧ K (a.put o.dst u) w') : o.wp Try.prog a w K Q := by
  have he := eval_slot hs
  unfold Oper.wp execOp
  simp only [ho]
  go_simp
  refine hc.mono fun e w' hr => ?_
  obtain ⟨u, rfl, hk⟩ := h e w' hr
  exact hk
end

/-! ### what is known on the way -/
theorem listed_not {listed : Array Bool} {i j : Nat} (h : (listed.setIfInBounds i true).getD j false = false) : listed.getD j false = false := by
  cases hl : listed.getD j false with
  | false => rfl
  | true => rw [getD_set_true hl] at h; exact h
theorem listed_self {listed : Array Bool} {i : Nat} (h : listed.getD i true = false) : (listed.setIfInBounds i true).getD i false = true := by
  have := getD_false h
  have hl : i < listed.size := by
    rcases Nat.lt_or_ge i listed.size with h' | h'
    · exact h'
    · simp [Array.getElem?_eq_none h'] at h
  simp [hl]
theorem unlisted {listed : Array Bool} {i : Nat} (h : listed.getD i true = false) : listed.getD i false = false := by
  have hl : i < listed.size := by
    rcases Nat.lt_or_ge i listed.size with h' | h'
    · exact h'
    · simp [Array.getElem?_eq_none h'] at h
  simp [hl] at h ⊢; exact h

/-- a batch's variable -/
def IsB (w : World) (g : Nat) : Prop := ∃ cs f, w.heap[g]? = some (.cells cs 26 f)
theorem IsB.set {w : World} {a : Addr} {u : Value} {g : Nat} (h : IsB w g) : IsB (w.setCell a u) g := by
  obtain ⟨cs, f, h⟩ := h
  by_cases ha : g = a.block
  · subst ha
    refine ⟨if a.spot.isSome then cs else cs.setIfInBounds a.off u, f, ?_⟩
    show (w.heap.modify a.block _)[a.block]? = _
    rw [Array.getElem?_modify, if_pos rfl, h]
    rfl
  · exact ⟨cs, f, (Below.heap_setCell _ _ _ _ ha).trans h⟩
/-- a variable of three cells that may be written -/
def Box3 (w : World) (g : Nat) (y0 y1 : Int) (y2 : Value) : Prop :=
  (w.cell? ⟨g, 0, none⟩ = some (.int .i64 y0) ∧ w.cell? ⟨g, 1, none⟩ = some (.int .i64 y1) ∧ w.cell? ⟨g, 2, none⟩ = some y2) ∧ (w.frozen? ⟨g, 0, none⟩ = false ∧ w.frozen? ⟨g, 1, none⟩ = false ∧ w.frozen? ⟨g, 2, none⟩ = false) ∧ IsB w g
theorem Box3.below {w w' : World} {g B : Nat} {y0 y1 : Int} {y2 : Value} (h : Box3 w g y0 y1 y2) (hb : Below B w w') (hg : g < B) : Box3 w' g y0 y1 y2 :=
  ⟨⟨(hb.cell (p := ⟨g, 0, none⟩) hg).trans h.1.1, (hb.cell (p := ⟨g, 1, none⟩) hg).trans h.1.2.1, (hb.cell (p := ⟨g, 2, none⟩) hg).trans h.1.2.2⟩, ⟨(hb.frozen (p := ⟨g, 0, none⟩) hg).trans h.2.1.1, (hb.frozen (p := ⟨g, 1, none⟩) hg).trans h.2.1.2.1, (hb.frozen (p := ⟨g, 2, none⟩) hg).trans h.2.1.2.2⟩, by
    obtain ⟨cs, f, e⟩ := h.2.2
    exact ⟨cs, f, (hb.block g hg).trans e⟩⟩
theorem addr_ne {g g' i j : Nat} (h : g ≠ g') : (⟨g, i, none⟩ : Addr) ≠ ⟨g', j, none⟩ := fun e => h (by cases e; rfl)
theorem Box3.set {w : World} {g g' i : Nat} {y0 y1 : Int} {y2 : Value} (h : Box3 w g y0 y1 y2) (hne : g' ≠ g) (u : Value) : Box3 (w.setCell ⟨g', i, none⟩ u) g y0 y1 y2 :=
  ⟨⟨(World.cell?_setCell_other _ _ _ _ (addr_ne hne)).trans h.1.1, (World.cell?_setCell_other _ _ _ _ (addr_ne hne)).trans h.1.2.1, (World.cell?_setCell_other _ _ _ _ (addr_ne hne)).trans h.1.2.2⟩,
    ⟨by rw [World.frozen?_setCell]; exact h.2.1.1, by rw [World.frozen?_setCell]; exact h.2.1.2.1, by rw [World.frozen?_setCell]; exact h.2.1.2.2⟩, h.2.2.set⟩
theorem Box3.store {w : World} {g : Nat} {y0 y1 z0 z1 : Int} {y2 z2 : Value} (h : Box3 w g y0 y1 y2) : Box3 (((w.setCell ⟨g, 0, none⟩ (.int .i64 z0)).setCell ⟨g, 1, none⟩ (.int .i64 z1)).setCell ⟨g, 2, none⟩ z2) g z0 z1 z2 := by
  refine ⟨⟨?_, ?_, ?_⟩, ⟨?_, ?_, ?_⟩, h.2.2.set.set.set⟩
  · rw [World.cell?_setCell_other _ _ _ _ (by simp), World.cell?_setCell_other _ _ _ _ (by simp)]
    exact World.cell?_setCell_same _ _ _ h.1.1
  · rw [World.cell?_setCell_other _ _ _ _ (by simp)]
    exact World.cell?_setCell_same _ _ _ ((World.cell?_setCell_other _ _ _ _ (by simp)).trans h.1.2.1)
  · exact World.cell?_setCell_same _ _ _ ((World.cell?_setCell_other _ _ _ _ (by simp)).trans ((World.cell?_setCell_other _ _ _ _ (by simp)).trans h.1.2.2))
  · rw [World.frozen?_setCell, World.frozen?_setCell, World.frozen?_setCell]; exact h.2.1.1
  · rw [World.frozen?_setCell, World.frozen?_setCell, World.frozen?_setCell]; exact h.2.1.2.1
  · rw [World.frozen?_setCell, World.frozen?_setCell, World.frozen?_setCell]; exact h.2.1.2.2
theorem Box3.new (w : World) : Box3 (w.alloc (.cells #[.int .i64 0, .int .i64 0, .slice none 0 0] 26)) w.heap.size 0 0 (.slice none 0 0) := by
  refine ⟨⟨?_, ?_, ?_⟩, ⟨?_, ?_, ?_⟩, _, _, heap_alloc_new _ _⟩
  all_goals first | (rw [World.cell?_alloc_at _ _ _ _ rfl]; rfl) | (rw [World.frozen?, heap_alloc_new]; simp)

/-- the row that a copy's transactions lie in -/
def rowV (n : Nat) (g c : Nat) : Value := .slice (some ⟨g, 0, none⟩) n c

structure FourK (a0 : Act) (w0 : World) (p q : Nat) (ba bN : Int) (bA : Option Addr) (bc n : Nat) (L : List TxD) (r b c : Nat → Nat) (listed : Array Bool) (a : Act) (w : World) : Prop where
  defers : a.defers = a0.defers
  size : a.tmps.size = a0.tmps.size
  rest : ∀ s, (∀ i, i < 8 → s ≠ p + i) → (∀ k, k < 4 → s ≠ q + k) → a.tmps[s]? = a0.tmps[s]?
  below : Below w0.heap.size w0 w
  loads : ∀ k, k < 4 → listed.getD (2 * k) false = true → a.tmps[p + 2 * k]? = some (.agg #[.int .i64 ba, .int .i64 bN, .slice bA n bc])
  calls : ∀ k, k < 4 → listed.getD (2 * k + 1) false = true → a.tmps[p + 2 * k + 1]? = some (.agg #[.int .i64 ba, .int .i64 bN, rowV n (r k) (c k)]) ∧ w0.heap.size ≤ r k ∧ r k < w.heap.size ∧ w.ownsRow w0.heap.size 34 4 (rowV n (r k) (c k)) n (txs L)
  boxes : ∀ k, k < 4 → listed.getD (8 + k) false = true → a.tmps[q + k]? = some (.pointer (some ⟨b k, 0, none⟩)) ∧ w0.heap.size ≤ b k ∧ b k < w.heap.size
  empty : ∀ k, k < 4 → listed.getD (8 + k) false = true → listed.getD (12 + k) false = false → Box3 w (b k) 0 0 (.slice none 0 0)
  full : ∀ k, k < 4 → listed.getD (8 + k) false = true → listed.getD (12 + k) false = true → Box3 w (b k) ba bN (rowV n (r k) (c k))
  done : ∀ k, k < 4 → listed.getD (12 + k) false = true → listed.getD (2 * k + 1) false = true
  done' : ∀ k, k < 4 → listed.getD (12 + k) false = true → listed.getD (8 + k) false = true
  rr : ∀ k j, k < 4 → j < 4 → listed.getD (2 * k + 1) false = true → listed.getD (2 * j + 1) false = true → k ≠ j → r k ≠ r j
  bb : ∀ k j, k < 4 → j < 4 → listed.getD (8 + k) false = true → listed.getD (8 + j) false = true → k ≠ j → b k ≠ b j
  rb : ∀ k j, k < 4 → j < 4 → listed.getD (2 * k + 1) false = true → listed.getD (8 + j) false = true → r k ≠ b j

section
variable {a0 : Act} {w0 : World} {p q : Nat} {ba bN : Int} {bA : Option Addr} {bc n : Nat} {L : List TxD} {r b c : Nat → Nat} {listed : Array Bool} {a : Act} {w : World} {k : Nat}

theorem FourK.load (h : FourK a0 w0 p q ba bN bA bc n L r b c listed a w) (hk : k < 4) (hq : q + 4 ≤ p) (hz : p + 8 ≤ a0.tmps.size) :
    FourK a0 w0 p q ba bN bA bc n L r b c (listed.setIfInBounds (2 * k) true) (a.put (some (p + 2 * k)) (.agg #[.int .i64 ba, .int .i64 bN, .slice bA n bc])) w where
  defers := h.defers
  size := (put_size _ _ _).trans h.size
  rest := fun s h1 h2 => (put_other (by have := h1 (2 * k) (by omega); omega) _).trans (h.rest s h1 h2)
  below := h.below
  loads := fun j hj hl => by
    by_cases hjk : j = k
    · subst hjk; exact put_same (by rw [h.size]; omega) _
    · exact (put_other (by omega) _).trans (h.loads j hj ((listed_or hl).resolve_left (by omega)))
  calls := fun j hj hl => by
    obtain ⟨h1, h2⟩ := h.calls j hj ((listed_or hl).resolve_left (by omega))
    exact ⟨(put_other (by omega) _).trans h1, h2⟩
  boxes := fun j hj hl => by
    obtain ⟨h1, h2⟩ := h.boxes j hj ((listed_or hl).resolve_left (by omega))
    exact ⟨(put_other (by omega) _).trans h1, h2⟩
  empty := fun j hj hl hn => h.empty j hj ((listed_or hl).resolve_left (by omega)) (listed_not hn)
  full := fun j hj hl hn => h.full j hj ((listed_or hl).resolve_left (by omega)) ((listed_or hn).resolve_left (by omega))
  done := fun j hj hl => getD_set_true (h.done j hj ((listed_or hl).resolve_left (by omega)))
  done' := fun j hj hl => getD_set_true (h.done' j hj ((listed_or hl).resolve_left (by omega)))
  rr := fun i j hi hj h1 h2 => h.rr i j hi hj ((listed_or h1).resolve_left (by omega)) ((listed_or h2).resolve_left (by omega))
  bb := fun i j hi hj h1 h2 => h.bb i j hi hj ((listed_or h1).resolve_left (by omega)) ((listed_or h2).resolve_left (by omega))
  rb := fun i j hi hj h1 h2 => h.rb i j hi hj ((listed_or h1).resolve_left (by omega)) ((listed_or h2).resolve_left (by omega))

/-- a function with one value changed -/
def upd (f : Nat → Nat) (k v : Nat) : Nat → Nat := fun j => if j = k then v else f j
theorem upd_same (f : Nat → Nat) (k v : Nat) : upd f k v k = v := by simp [upd]
theorem upd_other (f : Nat → Nat) {k j : Nat} (v : Nat) (h : j ≠ k) : upd f k v j = f j := by simp [upd, h]

theorem FourK.call (h : FourK a0 w0 p q ba bN bA bc n L r b c listed a w) (hk : k < 4) (hq : q + 4 ≤ p) (hz : p + 8 ≤ a0.tmps.size) (hun : listed.getD (2 * k + 1) true = false) {w' : World} {g cc : Nat} (hb : Below w.heap.size w w')
    (ho : w'.ownsRow w.heap.size 34 4 (rowV n g cc) n (txs L)) (hg0 : w.heap.size ≤ g) (hg1 : g < w'.heap.size) :
    FourK a0 w0 p q ba bN bA bc n L (upd r k g) b (upd c k cc) (listed.setIfInBounds (2 * k + 1) true) (a.put (some (p + 2 * k + 1)) (.agg #[.int .i64 ba, .int .i64 bN, rowV n g cc])) w' where
  defers := h.defers
  size := (put_size _ _ _).trans h.size
  rest := fun s h1 h2 => (put_other (by have := h1 (2 * k + 1) (by omega); omega) _).trans (h.rest s h1 h2)
  below := h.below.trans (hb.mono h.below.size)
  loads := fun j hj hl => (put_other (by omega) _).trans (h.loads j hj ((listed_or hl).resolve_left (by omega)))
  calls := fun j hj hl => by
    by_cases hjk : j = k
    · subst hjk
      rw [upd_same, upd_same]
      exact ⟨put_same (by rw [h.size]; omega) _, Nat.le_trans h.below.size hg0, hg1, ownS_more ho h.below.size⟩
    · rw [upd_other _ _ hjk, upd_other _ _ hjk]
      obtain ⟨h1, h2, h3, h4⟩ := h.calls j hj ((listed_or hl).resolve_left (by omega))
      exact ⟨(put_other (by omega) _).trans h1, h2, Nat.lt_of_lt_of_le h3 hb.size, ownS_below h4 hb⟩
  boxes := fun j hj hl => by
    obtain ⟨h1, h2, h3⟩ := h.boxes j hj ((listed_or hl).resolve_left (by omega))
    exact ⟨(put_other (by omega) _).trans h1, h2, Nat.lt_of_lt_of_le h3 hb.size⟩
  empty := fun j hj hl hn => by
    have hl' := (listed_or hl).resolve_left (by omega)
    exact (h.empty j hj hl' (listed_not hn)).below hb (h.boxes j hj hl').2.2
  full := fun j hj hl hn => by
    have hl' := (listed_or hl).resolve_left (by omega)
    have hn' := (listed_or hn).resolve_left (by omega)
    have hjk : j ≠ k := fun e => by
      have := h.done j hj hn'
      rw [e, unlisted hun] at this; cases this
    rw [upd_other _ _ hjk, upd_other _ _ hjk]
    exact (h.full j hj hl' hn').below hb (h.boxes j hj hl').2.2
  done := fun j hj hl => getD_set_true (h.done j hj ((listed_or hl).resolve_left (by omega)))
  done' := fun j hj hl => getD_set_true (h.done' j hj ((listed_or hl).resolve_left (by omega)))
  rr := fun i j hi hj h1 h2 hij => by
    by_cases hik : i = k
    · have hjk : j ≠ k := by omega
      rw [hik, upd_same, upd_other _ _ hjk]
      have := (h.calls j hj ((listed_or h2).resolve_left (by omega))).2.2.1
      omega
    · rw [upd_other _ _ hik]
      have h1' := (listed_or h1).resolve_left (by omega)
      by_cases hjk : j = k
      · rw [hjk, upd_same]
        have := (h.calls i hi h1').2.2.1
        omega
      · rw [upd_other _ _ hjk]
        exact h.rr i j hi hj h1' ((listed_or h2).resolve_left (by omega)) hij
  bb := fun i j hi hj h1 h2 => h.bb i j hi hj ((listed_or h1).resolve_left (by omega)) ((listed_or h2).resolve_left (by omega))
  rb := fun i j hi hj h1 h2 => by
    have h2' := (listed_or h2).resolve_left (by omega)
    by_cases hik : i = k
    · rw [hik, upd_same]
      have := (h.boxes j hj h2').2.2
      omega
    · rw [upd_other _ _ hik]
      exact h.rb i j hi hj ((listed_or h1).resolve_left (by omega)) h2'

theorem FourK.alloc (h : FourK a0 w0 p q ba bN bA bc n L r b c listed a w) (hk : k < 4) (hq : q + 4 ≤ p) (hz : p + 8 ≤ a0.tmps.size) (hun : listed.getD (12 + k) false = false) :
    FourK a0 w0 p q ba bN bA bc n L r (upd b k w.heap.size) c (listed.setIfInBounds (8 + k) true) (a.put (some (q + k)) (.pointer (some ⟨w.heap.size, 0, none⟩))) (w.alloc (.cells #[.int .i64 0, .int .i64 0, .slice none 0 0] 26)) where
  defers := h.defers
  size := (put_size _ _ _).trans h.size
  rest := fun s h1 h2 => (put_other (by have := h2 k hk; omega) _).trans (h.rest s h1 h2)
  below := h.below.alloc h.below.size _
  loads := fun j hj hl => (put_other (by omega) _).trans (h.loads j hj ((listed_or hl).resolve_left (by omega)))
  calls := fun j hj hl => by
    obtain ⟨h1, h2, h3, h4⟩ := h.calls j hj ((listed_or hl).resolve_left (by omega))
    exact ⟨(put_other (by omega) _).trans h1, h2, by simp; omega, ownS_below h4 ((Below.refl _ _).alloc (Nat.le_refl _) _)⟩
  boxes := fun j hj hl => by
    by_cases hjk : j = k
    · subst hjk
      rw [upd_same]
      exact ⟨put_same (by rw [h.size]; omega) _, h.below.size, by simp⟩
    · rw [upd_other _ _ hjk]
      obtain ⟨h1, h2, h3⟩ := h.boxes j hj ((listed_or hl).resolve_left (by omega))
      exact ⟨(put_other (by omega) _).trans h1, h2, by simp; omega⟩
  empty := fun j hj hl hn => by
    by_cases hjk : j = k
    · subst hjk
      rw [upd_same]
      exact Box3.new w
    · rw [upd_other _ _ hjk]
      have hl' := (listed_or hl).resolve_left (by omega)
      exact (h.empty j hj hl' (listed_not hn)).below ((Below.refl _ _).alloc (Nat.le_refl _) _) (h.boxes j hj hl').2.2
  full := fun j hj hl hn => by
    have hn' := (listed_or hn).resolve_left (by omega)
    have hjk : j ≠ k := fun e => by rw [e, hun] at hn'; cases hn'
    rw [upd_other _ _ hjk]
    have hl' := (listed_or hl).resolve_left (by omega)
    exact (h.full j hj hl' hn').below ((Below.refl _ _).alloc (Nat.le_refl _) _) (h.boxes j hj hl').2.2
  done := fun j hj hl => getD_set_true (h.done j hj ((listed_or hl).resolve_left (by omega)))
  done' := fun j hj hl => getD_set_true (h.done' j hj ((listed_or hl).resolve_left (by omega)))
  rr := fun i j hi hj h1 h2 => h.rr i j hi hj ((listed_or h1).resolve_left (by omega)) ((listed_or h2).resolve_left (by omega))
  bb := fun i j hi hj h1 h2 hij => by
    by_cases hik : i = k
    · have hjk : j ≠ k := by omega
      rw [hik, upd_same, upd_other _ _ hjk]
      have := (h.boxes j hj ((listed_or h2).resolve_left (by omega))).2.2
      omega
    · rw [upd_other _ _ hik]
      have h1' := (listed_or h1).resolve_left (by omega)
      by_cases hjk : j = k
      · rw [hjk, upd_same]
        have := (h.boxes i hi h1').2.2
        omega
      · rw [upd_other _ _ hjk]
        exact h.bb i j hi hj h1' ((listed_or h2).resolve_left (by omega)) hij
  rb := fun i j hi hj h1 h2 => by
    have h1' := (listed_or h1).resolve_left (by omega)
    by_cases hjk : j = k
    · rw [hjk, upd_same]
      have := (h.calls i hi h1').2.2.1
      omega
    · rw [upd_other _ _ hjk]
      exact h.rb i j hi hj h1' ((listed_or h2).resolve_left (by omega))

theorem own_set3 {w : World} {B n g cc g' : Nat} {X : List Value} {u0 u1 u2 : Value} (h : w.ownsRow B 34 4 (rowV n g cc) n X) (hne : g ≠ g') : (((w.setCell ⟨g', 0, none⟩ u0).setCell ⟨g', 1, none⟩ u1).setCell ⟨g', 2, none⟩ u2).ownsRow B 34 4 (rowV n g cc) n X := by
  have hn : (rowV n g cc).ownBlock ≠ some g' := by
    intro e
    simp [rowV, Value.ownBlock] at e
    exact hne e
  exact ownsRow_setCell_other (ownsRow_setCell_other (ownsRow_setCell_other h hn _) hn _) hn _

theorem FourK.store (h : FourK a0 w0 p q ba bN bA bc n L r b c listed a w) (hk : k < 4) (hc : listed.getD (2 * k + 1) false = true) (hbx : listed.getD (8 + k) false = true) (hun : listed.getD (12 + k) true = false) :
    FourK a0 w0 p q ba bN bA bc n L r b c (listed.setIfInBounds (12 + k) true) a (((w.setCell ⟨b k, 0, none⟩ (.int .i64 ba)).setCell ⟨b k, 1, none⟩ (.int .i64 bN)).setCell ⟨b k, 2, none⟩ (rowV n (r k) (c k))) where
  defers := h.defers
  size := h.size
  rest := h.rest
  below := ((h.below.setCell (h.boxes k hk hbx).2.1 _).setCell (h.boxes k hk hbx).2.1 _).setCell (h.boxes k hk hbx).2.1 _
  loads := fun j hj hl => h.loads j hj ((listed_or hl).resolve_left (by omega))
  calls := fun j hj hl => by
    have hl' := (listed_or hl).resolve_left (by omega)
    obtain ⟨h1, h2, h3, h4⟩ := h.calls j hj hl'
    exact ⟨h1, h2, by simpa using h3, own_set3 h4 (h.rb j k hj hk hl' hbx)⟩
  boxes := fun j hj hl => by
    obtain ⟨h1, h2, h3⟩ := h.boxes j hj ((listed_or hl).resolve_left (by omega))
    exact ⟨h1, h2, by simpa using h3⟩
  empty := fun j hj hl hn => by
    have hl' := (listed_or hl).resolve_left (by omega)
    have hjk : k ≠ j := fun e => by
      rw [← e, listed_self hun] at hn; cases hn
    have hne := h.bb k j hk hj hbx hl' hjk
    exact (((h.empty j hj hl' (listed_not hn)).set hne _).set hne _).set hne _
  full := fun j hj hl hn => by
    have hl' := (listed_or hl).resolve_left (by omega)
    by_cases hjk : k = j
    · subst hjk
      exact (h.empty k hk hl' (unlisted hun)).store
    · have hne := h.bb k j hk hj hbx hl' hjk
      exact (((h.full j hj hl' ((listed_or hn).resolve_left (by omega))).set hne _).set hne _).set hne _
  done := fun j hj hl => by
    by_cases hjk : j = k
    · subst hjk; exact getD_set_true hc
    · exact getD_set_true (h.done j hj ((listed_or hl).resolve_left (by omega)))
  done' := fun j hj hl => by
    by_cases hjk : j = k
    · subst hjk; exact getD_set_true hbx
    · exact getD_set_true (h.done' j hj ((listed_or hl).resolve_left (by omega)))
  rr := fun i j hi hj h1 h2 => h.rr i j hi hj ((listed_or h1).resolve_left (by omega)) ((listed_or h2).resolve_left (by omega))
  bb := fun i j hi hj h1 h2 => h.bb i j hi hj ((listed_or h1).resolve_left (by omega)) ((listed_or h2).resolve_left (by omega))
  rb := fun i j hi hj h1 h2 => h.rb i j hi hj ((listed_or h1).resolve_left (by omega)) ((listed_or h2).resolve_left (by omega))
end

/-- what is known when all is done -/
structure FourDone (w0 : World) (ba bN : Int) (n : Nat) (L : List TxD) (r b c : Nat → Nat) (w : World) : Prop where
  below : Below w0.heap.size w0 w
  rows : ∀ k, k < 4 → w0.heap.size ≤ r k ∧ r k < w.heap.size ∧ w.ownsRow w0.heap.size 34 4 (rowV n (r k) (c k)) n (txs L)
  boxes : ∀ k, k < 4 → w0.heap.size ≤ b k ∧ b k < w.heap.size ∧ Box3 w (b k) ba bN (rowV n (r k) (c k))
  rr : ∀ k j, k < 4 → j < 4 → k ≠ j → r k ≠ r j
  bb : ∀ k j, k < 4 → j < 4 → k ≠ j → b k ≠ b j
  rb : ∀ k j, k < 4 → j < 4 → r k ≠ b j

theorem agree_put {x y : Array Value} {S : List Nat} {s : Nat} {v : Value} (hs : x.size = y.size) (h : ∀ t, t ∉ s :: S → x[t]? = y[t]?) (hy : y[s]? = some v) : ∀ t, t ∉ S → (x.setIfInBounds s v)[t]? = y[t]? := fun t ht => by
  by_cases hts : s = t
  · subst hts
    have : s < y.size := by
      rcases Nat.lt_or_ge s y.size with h' | h'
      · exact h'
      · rw [Array.getElem?_eq_none h'] at hy; cases hy
    rw [hy]
    simp [hs, this]
  · rw [Array.getElem?_setIfInBounds_ne hts]
    exact h t (by simp; exact ⟨fun e => hts e.symm, ht⟩)

set_option maxHeartbeats 1000000 in
theorem four_copies {ops : Array Oper} {id : Nat} {a : Act} {w : World} {Q : Exit → Act → World → Prop} {z p q gb : Nat} {ba bN : Int} {bA : Option Addr} {bc n : Nat} {L : List TxD} (h16 : ops.size = 16)
    (hback : ∀ (i : Nat) (o : Oper), ops[i]? = some o → ∀ e ∈ o.after, e.on < i)
    (hld : ∀ k, k < 4 → ∃ o, ops[2 * k]? = some o ∧ o.dst = some (p + 2 * k) ∧ o.op = .load 26 (.tmp z) ∧ o.guard = none)
    (hcl : ∀ k, k < 4 → ∃ o, ops[2 * k + 1]? = some o ∧ o.dst = some (p + 2 * k + 1) ∧ o.op = .call { callee := .value (.func 13), args := #[.tmp (p + 2 * k)], argTypes := #[26] } ∧ o.guard = none ∧ ({ on := 2 * k, ground := .data } : Edge) ∈ o.after)
    (hal : ∀ k, k < 4 → ∃ o, ops[8 + k]? = some o ∧ o.dst = some (q + k) ∧ o.op = .alloc 26 ∧ o.guard = none)
    (hst : ∀ k, k < 4 → ∃ o, ops[12 + k]? = some o ∧ o.dst = none ∧ o.op = .store 26 (.tmp (q + k)) (.tmp (p + 2 * k + 1)) ∧ o.guard = none ∧ ({ on := 8 + k, ground := .data } : Edge) ∈ o.after ∧ ({ on := 2 * k + 1, ground := .data } : Edge) ∈ o.after)
    (hzq : z < q) (hqp : q + 4 ≤ p) (hps : p + 8 ≤ a.tmps.size) (hz : a.tmps[z]? = some (.pointer (some ⟨gb, 0, none⟩))) (hgb : gb < w.heap.size)
    (hc0 : w.cell? ⟨gb, 0, none⟩ = some (.int .i64 ba)) (hc1 : w.cell? ⟨gb, 1, none⟩ = some (.int .i64 bN)) (hc2 : w.cell? ⟨gb, 2, none⟩ = some (.slice bA n bc))
    (hL : L.length = n) (h0n : 0 < n) (hrd : Rd w bA (txs L)) (hnc : n ≤ bc) (hnn : n ≤ 1073741824)
    (hQ : ∀ (r b c : Nat → Nat) (w' : World), FourDone w ba bN n L r b c w' →
      Q .normal { tmps := (((((((((((a.tmps.setIfInBounds p (.agg #[.int .i64 ba, .int .i64 bN, .slice bA n bc])).setIfInBounds (p + 1) (.agg #[.int .i64 ba, .int .i64 bN, rowV n (r 0) (c 0)])).setIfInBounds (p + 2) (.agg #[.int .i64 ba, .int .i64 bN, .slice bA n bc])).setIfInBounds (p + 3) (.agg #[.int .i64 ba, .int .i64 bN, rowV n (r 1) (c 1)])).setIfInBounds (p + 4) (.agg #[.int .i64 ba, .int .i64 bN, .slice bA n bc])).setIfInBounds (p + 5) (.agg #[.int .i64 ba, .int .i64 bN, rowV n (r 2) (c 2)])).setIfInBounds (p + 6) (.agg #[.int .i64 ba, .int .i64 bN, .slice bA n bc])).setIfInBounds (p + 7) (.agg #[.int .i64 ba, .int .i64 bN, rowV n (r 3) (c 3)])).setIfInBounds q (.pointer (some ⟨b 0, 0, none⟩))).setIfInBounds (q + 1) (.pointer (some ⟨b 1, 0, none⟩))).setIfInBounds (q + 2) (.pointer (some ⟨b 2, 0, none⟩))).setIfInBounds (q + 3) (.pointer (some ⟨b 3, 0, none⟩)), defers := a.defers } w') :
    (Code.region id ops true).wp Try.prog Q a w := by
  refine wp_region_any (by kernel_rfl) ?_
  have hw0 : Below w.heap.size w { w with drawn := w.drawn + 1 } := (Below.refl _ _).drew
  refine wpAny_inv (fun listed a' w' => ∃ r b c : Nat → Nat, FourK a { w with drawn := w.drawn + 1 } p q ba bN bA bc n L r b c listed a' w') hback ?_ ?_ _ _ _ _ (by simp) ?_ ?_
  · rintro listed a' w' i o hs ho h0 hd ⟨r, b, c, h⟩
    have hi : i < 16 := by
      rcases Nat.lt_or_ge i ops.size with h' | h'
      · omega
      · rw [Array.getElem?_eq_none h'] at ho; cases ho
    have hbw : Below w.heap.size w w' := hw0.trans h.below
    unfold wpOp
    simp only [ho]
    by_cases hi8 : i < 8
    · by_cases hev : i % 2 = 0
      · obtain ⟨k, rfl⟩ : ∃ k, i = 2 * k := ⟨i / 2, by omega⟩
        obtain ⟨o', ho', h1, h2, h3⟩ := hld k (by omega)
        cases ho.symm.trans ho'
        rw [if_pos (by simp [Region.wanted, h3])]
        refine .inl (load3_wp h2 ((h.rest z (by intro j hj; omega) (by intro j hj; omega)).trans hz) ((hbw.cell (p := ⟨gb, 0, none⟩) hgb).trans hc0) ((hbw.cell (p := ⟨gb, 1, none⟩) hgb).trans hc1) ((hbw.cell (p := ⟨gb, 2, none⟩) hgb).trans hc2) ?_)
        rw [h1]
        exact ⟨r, b, c, h.load (by omega) hqp hps⟩
      · obtain ⟨k, rfl⟩ : ∃ k, i = 2 * k + 1 := ⟨i / 2, by omega⟩
        obtain ⟨o', ho', h1, h2, h3, h4⟩ := hcl k (by omega)
        cases ho.symm.trans ho'
        rw [if_pos (by simp [Region.wanted, h3])]
        have hld' := h.loads k (by omega) (hd _ h4 rfl)
        refine .inl (copy_wp h2 hld' (copyBatch_any ba bN bA bc n L w' hL (hrd.below hbw) hnc hnn) ?_)
        rintro e w'' ⟨A', c', rfl, ho2, hb2⟩
        obtain ⟨g, cc, hv, hg0, hg1⟩ := ho2.form h0n
        cases hv
        refine ⟨_, rfl, ?_⟩
        rw [h1]
        exact ⟨upd r k g, b, upd c k c', h.call (by omega) hqp hps h0 hb2 ho2 hg0 hg1⟩
    · by_cases hi12 : i < 12
      · obtain ⟨k, rfl⟩ : ∃ k, i = 8 + k := ⟨i - 8, by omega⟩
        obtain ⟨o', ho', h1, h2, h3⟩ := hal k (by omega)
        cases ho.symm.trans ho'
        rw [if_pos (by simp [Region.wanted, h3])]
        refine .inl (alloc_wp h2 ?_)
        rw [h1]
        refine ⟨r, upd b k w'.heap.size, c, h.alloc (by omega) hqp hps ?_⟩
        cases hl : listed.getD (12 + k) false with
        | false => rfl
        | true =>
          have := h.done' k (by omega) hl
          rw [unlisted h0] at this; cases this
      · obtain ⟨k, rfl⟩ : ∃ k, i = 12 + k := ⟨i - 12, by omega⟩
        obtain ⟨o', ho', h1, h2, h3, h4, h5⟩ := hst k (by omega)
        cases ho.symm.trans ho'
        rw [if_pos (by simp [Region.wanted, h3])]
        have hbx := hd _ h4 rfl
        have hcx := hd _ h5 rfl
        have hem := h.empty k (by omega) hbx (unlisted h0)
        exact .inl (store3_wp h2 h1 (h.boxes k (by omega) hbx).1 (h.calls k (by omega) hcx).1 hem.1.1 hem.1.2.1 hem.1.2.2 hem.2.1.1 hem.2.1.2.1 hem.2.1.2.2 ⟨r, b, c, h.store (by omega) hcx hbx h0⟩)
  · rintro listed a' w' hall ⟨r, b, c, h⟩
    have hls : ∀ i, i < 16 → listed.getD i false = true := fun i hi => hall i (by omega)
    have hfd : FourDone w ba bN n L r b c w' :=
      { below := hw0.trans h.below
        rows := fun k hk => (h.calls k hk (hls _ (by omega))).2
        boxes := fun k hk => ⟨(h.boxes k hk (hls _ (by omega))).2.1, (h.boxes k hk (hls _ (by omega))).2.2, h.full k hk (hls _ (by omega)) (hls _ (by omega))⟩
        rr := fun k j hk hj => h.rr k j hk hj (hls _ (by omega)) (hls _ (by omega))
        bb := fun k j hk hj => h.bb k j hk hj (hls _ (by omega)) (hls _ (by omega))
        rb := fun k j hk hj => h.rb k j hk hj (hls _ (by omega)) (hls _ (by omega)) }
    have hq := hQ r b c w' hfd
    have l0 := h.loads 0 (by omega) (hls _ (by omega))
    have l1 := h.loads 1 (by omega) (hls _ (by omega))
    have l2 := h.loads 2 (by omega) (hls _ (by omega))
    have l3 := h.loads 3 (by omega) (hls _ (by omega))
    have r0 := (h.calls 0 (by omega) (hls _ (by omega))).1
    have r1 := (h.calls 1 (by omega) (hls _ (by omega))).1
    have r2 := (h.calls 2 (by omega) (hls _ (by omega))).1
    have r3 := (h.calls 3 (by omega) (hls _ (by omega))).1
    have b0 := (h.boxes 0 (by omega) (hls _ (by omega))).1
    have b1 := (h.boxes 1 (by omega) (hls _ (by omega))).1
    have b2 := (h.boxes 2 (by omega) (hls _ (by omega))).1
    have b3 := (h.boxes 3 (by omega) (hls _ (by omega))).1
    have hsz := h.size.symm
    have ag : ∀ t, t ∉ [p, p + 1, p + 2, p + 3, p + 4, p + 5, p + 6, p + 7, q, q + 1, q + 2, q + 3] → a.tmps[t]? = a'.tmps[t]? := fun t ht => by
      simp only [List.mem_cons, List.not_mem_nil, or_false, not_or] at ht
      exact (h.rest t (by intro i hi; omega) (by intro i hi; omega)).symm
    have g0 := agree_put hsz ag l0
    have g1 := agree_put (by simpa using hsz) g0 r0
    have g2 := agree_put (by simpa using hsz) g1 l1
    have g3 := agree_put (by simpa using hsz) g2 r1
    have g4 := agree_put (by simpa using hsz) g3 l2
    have g5 := agree_put (by simpa using hsz) g4 r2
    have g6 := agree_put (by simpa using hsz) g5 l3
    have g7 := agree_put (by simpa using hsz) g6 r3
    have g8 := agree_put (by simpa using hsz) g7 b0
    have g9 := agree_put (by simpa using hsz) g8 b1
    have g10 := agree_put (by simpa using hsz) g9 b2
    have g11 := agree_put (by simpa using hsz) g10 b3
    have he := Array.ext_getElem? fun t => g11 t (by simp)
    rw [he, ← h.defers] at hq
    exact hq
  · rw [Array.toList_replicate]
    exact Nat.le_trans List.countP_le_length (by simp)
  · have hno : ∀ i, (Array.replicate ops.size false).getD i false = false := by
      intro i
      rw [Array.getD_eq_getD_getElem?, Array.getElem?_replicate]
      split <;> rfl
    exact ⟨fun _ => 0, fun _ => 0, fun _ => 0,
      { defers := rfl, size := rfl, rest := fun _ _ _ => rfl, below := Below.refl _ _
        loads := fun k hk hl => by rw [hno] at hl; cases hl
        calls := fun k hk hl => by rw [hno] at hl; cases hl
        boxes := fun k hk hl => by rw [hno] at hl; cases hl
        empty := fun k hk hl => by rw [hno] at hl; cases hl
        full := fun k hk hl => by rw [hno] at hl; cases hl
        done := fun k hk hl => by rw [hno] at hl; cases hl
        done' := fun k hk hl => by rw [hno] at hl; cases hl
        rr := fun k j hk hj hl => by rw [hno] at hl; cases hl
        bb := fun k j hk hj hl => by rw [hno] at hl; cases hl
        rb := fun k j hk hj hl => by rw [hno] at hl; cases hl }⟩

theorem back_of {ops : Array Oper} (h : ((List.range ops.size).all fun i => match ops[i]? with | some o => o.after.toList.all (fun e => decide (e.on < i)) | none => true) = true) : ∀ (i : Nat) (o : Oper), ops[i]? = some o → ∀ e ∈ o.after, e.on < i := by
  intro i o ho e he
  have hi : i < ops.size := by
    rcases Nat.lt_or_ge i ops.size with h' | h'
    · exact h'
    · rw [Array.getElem?_eq_none h'] at ho; cases ho
  have := List.all_eq_true.1 h i (List.mem_range.2 hi)
  simp only [ho, List.all_eq_true, decide_eq_true_eq] at this
  exact this e (by simpa using he)

theorem own_ne {w : World} {B n g : Nat} {v : Value} {X : List Value} (h : w.ownsRow B 34 4 v n X) (hn : 0 < n) (hb : IsB w g) : v.ownBlock ≠ some g := by
  rcases h.2 with ⟨_, h0⟩ | ⟨g', cap, cur, rfl, _, hh, _⟩
  · omega
  · intro e
    simp only [Value.ownBlock, Option.some.injEq] at e
    subst e
    obtain ⟨cs, f, hc⟩ := hb
    rw [hh] at hc
    simp at hc
theorem Box3.set0 {w : World} {g : Nat} {y0 y1 : Int} {y2 : Value} (h : Box3 w g y0 y1 y2) (u : Int) : Box3 (w.setCell ⟨g, 0, none⟩ (.int .i64 u)) g u y1 y2 :=
  ⟨⟨World.cell?_setCell_same _ _ _ h.1.1, (World.cell?_setCell_other _ _ _ _ (by simp)).trans h.1.2.1, (World.cell?_setCell_other _ _ _ _ (by simp)).trans h.1.2.2⟩, ⟨by rw [World.frozen?_setCell]; exact h.2.1.1, by rw [World.frozen?_setCell]; exact h.2.1.2.1, by rw [World.frozen?_setCell]; exact h.2.1.2.2⟩, h.2.2.set⟩
theorem Box3.set1 {w : World} {g : Nat} {y0 y1 : Int} {y2 : Value} (h : Box3 w g y0 y1 y2) (u : Int) : Box3 (w.setCell ⟨g, 1, none⟩ (.int .i64 u)) g y0 u y2 :=
  ⟨⟨(World.cell?_setCell_other _ _ _ _ (by simp)).trans h.1.1, World.cell?_setCell_same _ _ _ h.1.2.1, (World.cell?_setCell_other _ _ _ _ (by simp)).trans h.1.2.2⟩, ⟨by rw [World.frozen?_setCell]; exact h.2.1.1, by rw [World.frozen?_setCell]; exact h.2.1.2.1, by rw [World.frozen?_setCell]; exact h.2.1.2.2⟩, h.2.2.set⟩
theorem Box3.set2 {w : World} {g : Nat} {y0 y1 : Int} {y2 : Value} (h : Box3 w g y0 y1 y2) (u : Value) : Box3 (w.setCell ⟨g, 2, none⟩ u) g y0 y1 u :=
  ⟨⟨(World.cell?_setCell_other _ _ _ _ (by simp)).trans h.1.1, (World.cell?_setCell_other _ _ _ _ (by simp)).trans h.1.2.1, World.cell?_setCell_same _ _ _ h.1.2.2⟩, ⟨by rw [World.frozen?_setCell]; exact h.2.1.1, by rw [World.frozen?_setCell]; exact h.2.1.2.1, by rw [World.frozen?_setCell]; exact h.2.1.2.2⟩, h.2.2.set⟩

/-- four variables and their rows -/
structure Vars (w0 : World) (b : Nat → Nat) (y0 y1 : Nat → Int) (y2 V : Nat → Value) (N : Nat → Nat) (X : Nat → List Value) (w : World) : Prop where
  below : Below w0.heap.size w0 w
  high : ∀ k, k < 4 → w0.heap.size ≤ b k ∧ b k < w.heap.size
  box : ∀ k, k < 4 → Box3 w (b k) (y0 k) (y1 k) (y2 k)
  row : ∀ k, k < 4 → 0 < N k ∧ w.ownsRow w0.heap.size 34 4 (V k) (N k) (X k)
  bb : ∀ k j, k < 4 → j < 4 → k ≠ j → b k ≠ b j
/-- a function with one value changed -/
def chg {α : Type} (f : Nat → α) (k : Nat) (v : α) : Nat → α := fun j => if j = k then v else f j
theorem chg_same {α : Type} (f : Nat → α) (k : Nat) (v : α) : chg f k v k = v := by simp [chg]
theorem chg_other {α : Type} (f : Nat → α) {k j : Nat} (v : α) (h : j ≠ k) : chg f k v j = f j := by simp [chg, h]

section
variable {w0 w w' : World} {b : Nat → Nat} {y0 y1 : Nat → Int} {y2 V : Nat → Value} {N : Nat → Nat} {X : Nat → List Value} {k : Nat}

theorem Vars.later (h : Vars w0 b y0 y1 y2 V N X w) (hb : Below w.heap.size w w') : Vars w0 b y0 y1 y2 V N X w' where
  below := h.below.trans (hb.mono h.below.size)
  high := fun k hk => ⟨(h.high k hk).1, Nat.lt_of_lt_of_le (h.high k hk).2 hb.size⟩
  box := fun k hk => (h.box k hk).below hb (h.high k hk).2
  row := fun k hk => ⟨(h.row k hk).1, ownS_below (h.row k hk).2 hb⟩
  bb := h.bb
theorem own_set {B n i g : Nat} {v u : Value} {xs : List Value} (h : w.ownsRow B 34 4 v n xs) (hn : 0 < n) (hb : IsB w g) : (w.setCell ⟨g, i, none⟩ u).ownsRow B 34 4 v n xs :=
  ownsRow_setCell_other h (own_ne h hn hb) _
theorem Vars.set0 (h : Vars w0 b y0 y1 y2 V N X w) (hk : k < 4) (u : Int) : Vars w0 b (chg y0 k u) y1 y2 V N X (w.setCell ⟨b k, 0, none⟩ (.int .i64 u)) where
  below := h.below.setCell (h.high k hk).1 _
  high := fun j hj => ⟨(h.high j hj).1, by simpa using (h.high j hj).2⟩
  box := fun j hj => by
    by_cases hjk : j = k
    · subst hjk; rw [chg_same]; exact (h.box j hj).set0 u
    · rw [chg_other _ _ hjk]; exact (h.box j hj).set (h.bb k j hk hj (Ne.symm hjk)) _
  row := fun j hj => ⟨(h.row j hj).1, own_set (h.row j hj).2 (h.row j hj).1 (h.box k hk).2.2⟩
  bb := h.bb
theorem Vars.set1 (h : Vars w0 b y0 y1 y2 V N X w) (hk : k < 4) (u : Int) : Vars w0 b y0 (chg y1 k u) y2 V N X (w.setCell ⟨b k, 1, none⟩ (.int .i64 u)) where
  below := h.below.setCell (h.high k hk).1 _
  high := fun j hj => ⟨(h.high j hj).1, by simpa using (h.high j hj).2⟩
  box := fun j hj => by
    by_cases hjk : j = k
    · subst hjk; rw [chg_same]; exact (h.box j hj).set1 u
    · rw [chg_other _ _ hjk]; exact (h.box j hj).set (h.bb k j hk hj (Ne.symm hjk)) _
  row := fun j hj => ⟨(h.row j hj).1, own_set (h.row j hj).2 (h.row j hj).1 (h.box k hk).2.2⟩
  bb := h.bb
theorem Vars.set2 (h : Vars w0 b y0 y1 y2 V N X w) (hk : k < 4) (u : Value) : Vars w0 b y0 y1 (chg y2 k u) V N X (w.setCell ⟨b k, 2, none⟩ u) where
  below := h.below.setCell (h.high k hk).1 _
  high := fun j hj => ⟨(h.high j hj).1, by simpa using (h.high j hj).2⟩
  box := fun j hj => by
    by_cases hjk : j = k
    · subst hjk; rw [chg_same]; exact (h.box j hj).set2 u
    · rw [chg_other _ _ hjk]; exact (h.box j hj).set (h.bb k j hk hj (Ne.symm hjk)) _
  row := fun j hj => ⟨(h.row j hj).1, own_set (h.row j hj).2 (h.row j hj).1 (h.box k hk).2.2⟩
  bb := h.bb
theorem grown_block {g : Nat} {row : Option Nat} (hg : w.grownBy w' row) (hlt : g < w.heap.size) (hne : some g ≠ row) : w'.heap[g]? = w.heap[g]? := hg.block g hlt hne
theorem Box3.grown {g : Nat} {z0 z1 : Int} {z2 : Value} {row : Option Nat} (h : Box3 w g z0 z1 z2) (hg : w.grownBy w' row) (hlt : g < w.heap.size) (hne : some g ≠ row) : Box3 w' g z0 z1 z2 := by
  have e := hg.block g hlt hne
  have c : ∀ i, w'.cell? ⟨g, i, none⟩ = w.cell? ⟨g, i, none⟩ := fun i => World.cell?_of_block (a := ⟨g, i, none⟩) e
  have f : ∀ i, w'.frozen? ⟨g, i, none⟩ = w.frozen? ⟨g, i, none⟩ := fun i => World.frozen?_of_block (a := ⟨g, i, none⟩) e
  refine ⟨⟨(c 0).trans h.1.1, (c 1).trans h.1.2.1, (c 2).trans h.1.2.2⟩, ⟨(f 0).trans h.2.1.1, (f 1).trans h.2.1.2.1, (f 2).trans h.2.1.2.2⟩, ?_⟩
  obtain ⟨cs, fz, hc⟩ := h.2.2
  exact ⟨cs, fz, e.trans hc⟩
/-- a row grows; the other rows are elsewhere -/
theorem Vars.grown (h : Vars w0 b y0 y1 y2 V N X w) (hk : k < 4) (hg : w.grownBy w' (V k).ownBlock) (hb : Below w0.heap.size w0 w') {v : Value} {n : Nat} {xs : List Value} (hn : 0 < n) (ho : w'.ownsRow w0.heap.size 34 4 v n xs)
    (hv : ∀ j, j < 4 → j ≠ k → (V j).ownBlock ≠ (V k).ownBlock) : Vars w0 b y0 y1 y2 (chg V k v) (chg N k n) (chg X k xs) w' where
  below := hb
  high := fun j hj => ⟨(h.high j hj).1, Nat.lt_of_lt_of_le (h.high j hj).2 hg.size⟩
  box := fun j hj => (h.box j hj).grown hg (h.high j hj).2 (fun e => own_ne (h.row k hk).2 (h.row k hk).1 (h.box j hj).2.2 e.symm)
  row := fun j hj => by
    by_cases hjk : j = k
    · subst hjk
      rw [chg_same, chg_same, chg_same]
      exact ⟨hn, ho⟩
    · rw [chg_other _ _ hjk, chg_other _ _ hjk, chg_other _ _ hjk]
      refine ⟨(h.row j hj).1, (h.row j hj).2.1, ?_⟩
      rcases (h.row j hj).2.2 with h0 | ⟨g, cap, cur, hv', hB, hh, h1⟩
      · exact .inl h0
      · refine .inr ⟨g, cap, cur, hv', hB, ?_, h1⟩
        have hlt : g < w.heap.size := by
          rcases Nat.lt_or_ge g w.heap.size with h' | h'
          · exact h'
          · rw [Array.getElem?_eq_none h'] at hh; cases hh
        rw [hg.block g hlt (fun e => hv j hj hjk (by rw [hv', ← e]; rfl))]
        exact hh
  bb := h.bb
theorem FourDone.vars {ba bN : Int} {n : Nat} {L : List TxD} {r b c : Nat → Nat} (h : FourDone w0 ba bN n L r b c w) (hn : 0 < n) : Vars w0 b (fun _ => ba) (fun _ => bN) (fun k => rowV n (r k) (c k)) (fun k => rowV n (r k) (c k)) (fun _ => n) (fun _ => txs L) w where
  below := h.below
  high := fun k hk => ⟨(h.boxes k hk).1, (h.boxes k hk).2.1⟩
  box := fun k hk => (h.boxes k hk).2.2
  row := fun k hk => ⟨hn, (h.rows k hk).2.2⟩
  bb := h.bb
theorem FourDone.apart {ba bN : Int} {n : Nat} {L : List TxD} {r b c : Nat → Nat} (h : FourDone w0 ba bN n L r b c w) : ∀ j, j < 4 → j ≠ 0 → (rowV n (r j) (c j)).ownBlock ≠ (rowV n (r 0) (c 0)).ownBlock := fun j hj h0 e => by
  simp [rowV, Value.ownBlock] at e
  exact h.rr j 0 hj (by omega) h0 e
end

/-- append of one element, which lies in a block of its own; and that only the row has turned -/
theorem wpList_app_far {P : Program} (w : World) {ops : Array Oper} {rest : List Oper} {o : Oper} {a : Act} {Q : Exit → Act → World → Prop} (hgd : o.guard = none) (s x : Operand) (t : TypeId)
    (ho : o.op = .call { callee := .builtin .append, args := #[s, x], argTypes := #[t, t] })
    (B : Nat) (e : TypeId) (z : Value) (sz bytes : Nat) (ht : P.underlying t = some (.slice e)) (hinfo : (P.info? e).map (fun i => (i.zero, i.size, i.bytes)) = some (some z, sz, bytes)) (hzs : z.cells.size = sz) (hsz : 0 < sz) (hby : bytes ≤ 256)
    (v : Value) (n : Nat) (xs : List Value) (hs : a.eval s = v) (hown : w.ownsRow B e sz v n xs)
    (g : Nat) (us : List Value) (hx : a.eval x = .slice (some ⟨g, 0, none⟩) 1 1) (hu : us.length = sz) (hc : ∀ i u, us[i]? = some u → w.cell? ⟨g, i, none⟩ = some u) (h1 : ∀ u ∈ us, u.oneCell' = true)
    (hn : n + 1 ≤ 68719476736) (hB : B ≤ w.heap.size)
    (h : ∀ v' w', w'.ownsRow B e sz v' (n + 1) (xs ++ us) → Below B w w' → w.grownBy w' v.ownBlock → wpList P ops Q rest (a.put o.dst v') w') : wpList P ops Q (o :: rest) a w := by
  obtain ⟨i, hi, hz, hsize, hbytes⟩ := info_parts hinfo
  refine wpList_append_own (P := P) w hgd s x t ho B e i z sz bytes ht hi hz hsize hbytes hzs hsz v n xs hs hown ⟨g, 0, none⟩ 1 1 us hx (by omega) ?_ h1 (by unfold maxLen; omega) ?_ hB ?_
  · intro j y hj
    rw [Addr.add_lit, Nat.zero_add]
    exact hc j y hj
  · have := Nat.mul_le_mul hn hby
    omega
  · intro v' w' hown' hg _
    exact h v' w' hown' (belowS_own (Below.refl _ _) hown hg hB) hg

end Go.Proofs.Ytkkamcdilpcehaa
