/-
  The statement that copies a message four times into one new slice, whatever order it takes.
-/
import Derived.Test.YtafkcofocjellaaMCopy
import Derived.Great.BuildSlice
import Derived.Orders
import Derived.OneCell
namespace Go.Proofs.Ytafkcofocjellaa
open Go.RowKit

/-! ### an invariant over all orders -/
/-- how many operations are still to come -/
def mleft (l : List Bool) : Nat := l.countP (fun b => !b)
theorem mleft_set : ∀ (l : List Bool) (i : Nat), l[i]? = some false → mleft (l.set i true) + 1 = mleft l
  | [], _, h => by simp at h
  | b :: l, 0, h => by
    simp at h; subst h
    simp [mleft]
  | b :: l, i + 1, h => by
    have := mleft_set l i (by simpa using h)
    cases b <;> simp [mleft] at this ⊢ <;> omega
theorem mleft_none {l : List Bool} (h : mleft l = 0) (i : Nat) : l[i]? ≠ some false := fun e => by
  have := mleft_set l i e
  omega
theorem mgetD_false {l : Array Bool} {i : Nat} (h : l.getD i true = false) : l.toList[i]? = some false := by
  rcases Nat.lt_or_ge i l.size with h' | h'
  · simp [h'] at h ⊢; exact h
  · simp [Array.getElem?_eq_none h'] at h
theorem mwpAny_inv {P : Program} {md : Region.Mode} {ops : Array Oper} {Q : Exit → Act → World → Prop} (J : Array Bool → Act → World → Prop)
    (hback : ∀ (i : Nat) (o : Oper), ops[i]? = some o → ∀ e ∈ o.after, e.on < i)
    (hstep : ∀ (listed : Array Bool) (a : Act) (w : World) (i : Nat) (o : Oper), listed.size = ops.size → ops[i]? = some o → listed.getD i true = false → (∀ e ∈ o.after, Region.binds md e = true → listed.getD e.on false = true) → J listed a w → wpOp P ops Q i (J (listed.setIfInBounds i true)) a w)
    (hend : ∀ (listed : Array Bool) (a : Act) (w : World), (∀ i, i < ops.size → listed.getD i false = true) → J listed a w → Q .normal a w) :
    ∀ (fuel : Nat) (listed : Array Bool) (a : Act) (w : World), listed.size = ops.size → mleft listed.toList ≤ fuel → J listed a w → wpAny P md ops Q fuel listed a w := by
  have hall : ∀ (listed : Array Bool), listed.size = ops.size → Region.ready md ops listed = [] → ∀ n i, i < n → i < ops.size → listed.getD i false = true := by
    intro listed hs hr n
    induction n with
    | zero => intro i hi; omega
    | succ n ih =>
      intro i hi hio
      cases hl : listed.getD i false with
      | true => rfl
      | false =>
        have hio' : i < listed.size := by omega
        have hm : i ∈ Region.ready md ops listed := mem_ready.2 ⟨by simp [hio'] at hl ⊢; exact hl, ops[i], by simp [hio], fun e he _ => by
          have hlt := hback i ops[i] (by simp [hio]) e he
          exact ih e.on (by omega) (by omega)⟩
        rw [hr] at hm; cases hm
  intro fuel
  induction fuel with
  | zero =>
    intro listed a w hs hl hJ
    have hr : Region.ready md ops listed = [] := by
      rw [List.eq_nil_iff_forall_not_mem]
      intro j hj
      exact mleft_none (by omega) j (mgetD_false (mem_ready.1 hj).1)
    exact ⟨hr, hend listed a w (fun i hi => hall listed hs hr (i + 1) i (by omega) hi) hJ⟩
  | succ fuel ih =>
    intro listed a w hs hl hJ
    refine ⟨fun hr => hend listed a w (fun i hi => hall listed hs hr (i + 1) i (by omega) hi) hJ, fun i hi => ?_⟩
    obtain ⟨h0, o, ho, hd⟩ := mem_ready.1 hi
    have hc := mleft_set listed.toList i (mgetD_false h0)
    refine wpOp_mono (fun a' w' hJ' => ih (listed.setIfInBounds i true) a' w' (by simpa using hs) (by rw [Array.toList_setIfInBounds]; omega) hJ') (hstep listed a w i o hs ho h0 hd hJ)

theorem mlisted_or {listed : Array Bool} {i j : Nat} (h : (listed.setIfInBounds i true).getD j false = true) : j = i ∨ listed.getD j false = true := by
  by_cases hij : i = j
  · exact .inl hij.symm
  · rw [getD_set_ne false hij] at h
    exact .inr h
theorem munlisted {listed : Array Bool} {i : Nat} (h : listed.getD i true = false) : listed.getD i false = false := by
  have hl : i < listed.size := by
    rcases Nat.lt_or_ge i listed.size with h' | h'
    · exact h'
    · simp [Array.getElem?_eq_none h'] at h
  simp [hl] at h ⊢; exact h
theorem mput_same {a : Act} {d : Nat} (h : d < a.tmps.size) (v : Value) : (a.put (some d) v).tmps[d]? = some v := by simp [Act.put, h]
theorem mput_other {a : Act} {d s : Nat} (h : d ≠ s) (v : Value) : (a.put (some d) v).tmps[s]? = a.tmps[s]? := by simp [Act.put, Array.getElem?_setIfInBounds_ne h]
theorem mput_size (a : Act) (d : Option Nat) (v : Value) : (a.put d v).tmps.size = a.tmps.size := by cases d <;> simp [Act.put]
theorem meval_slot {a : Act} {s : Nat} {v : Value} (h : a.tmps[s]? = some v) : a.eval (.tmp s) = v := by simp [Act.eval, h]
theorem magree_put {x y : Array Value} {S : List Nat} {s : Nat} {v : Value} (hs : x.size = y.size) (h : ∀ t, t ∉ s :: S → x[t]? = y[t]?) (hy : y[s]? = some v) : ∀ t, t ∉ S → (x.setIfInBounds s v)[t]? = y[t]? := fun t ht => by
  by_cases hts : s = t
  · subst hts
    have : s < y.size := by
      rcases Nat.lt_or_ge s y.size with h' | h'
      · exact h'
      · rw [Array.getElem?_eq_none h'] at hy; cases hy
    rw [hy]
    simp [hs, this]
  · rw [Array.getElem?_setIfInBounds_ne hts]
    exact h t (by simp; exact ⟨fun e => hts e.symm, ht⟩)
theorem mcopy_wp {o : Oper} {a : Act} {w : World} {K : Act → World → Prop} {Q : Exit → Act → World → Prop} {s : Nat} {t : TypeId} {v : Value} (ho : o.op = .call { callee := .value (.func 16), args := #[.tmp s], argTypes := #[t] }) (hs : a.tmps[s]? = some v) {R : Ending → World → Prop} (hc : Calls Try.prog 16 #[v] w R)
    (h : ∀ e w', R e w' → ∃ u, e = .returned u ∧ K (a.put o.dst u) w') : o.wp Try.prog a w K Q := by
  have he := meval_slot hs
  unfold Oper.wp execOp
  simp only [ho]
  go_simp
  refine hc.mono fun e w' hr => ?_
  obtain ⟨u, rfl, hk⟩ := h e w' hr
  exact hk
theorem massign_wp {o : Oper} {a : Act} {w : World} {K : Act → World → Prop} {Q : Exit → Act → World → Prop} {s : Nat} {v : Value} (ho : o.op = .assign (.tmp s)) (hs : a.tmps[s]? = some v) (h : K (a.put o.dst v) w) : o.wp Try.prog a w K Q := by
  have he := meval_slot hs
  unfold Oper.wp execOp
  simp only [ho]
  go_simp
  exact h

def cells4 (m : MsgD) (a b c d : MsgA) : List Value := msgC m a ++ msgC m b ++ msgC m c ++ msgC m d
theorem fill4 (m : MsgD) (a b c d : MsgA) : Instr.fill (fun i => some (i * 18, 18)) ((Array.range (4 * 18)).map ((msgV zeroM zeroA).cells[· % (msgV zeroM zeroA).cells.size]!)) [(0, msgV m a), (1, msgV m b), (2, msgV m c), (3, msgV m d)] = some (cells4 m a b c d).toArray := by kernel_rfl
theorem info_msg4 : ∃ ie, Try.prog.info? 32 = some ie ∧ ie.zero = some (msgV zeroM zeroA) ∧ ie.size = 18 := by
  have h : (Try.prog.info? 32).map (fun i => (i.zero, i.size)) = some (some (msgV zeroM zeroA), 18) := by kernel_rfl
  cases hq : Try.prog.info? 32 with
  | none => rw [hq] at h; simp at h
  | some ie =>
    rw [hq] at h
    simp at h
    exact ⟨ie, rfl, h.1, h.2⟩

structure FourM (a0 : Act) (w0 : World) (p q : Nat) (m : MsgD) (am : MsgA) (r : Nat → MsgA) (gB : Nat) (listed : Array Bool) (a : Act) (w : World) : Prop where
  defers : a.defers = a0.defers
  size : a.tmps.size = a0.tmps.size
  rest : ∀ s, (∀ i, i < 9 → s ≠ p + i) → s ≠ q → a.tmps[s]? = a0.tmps[s]?
  below : Below w0.heap.size w0 w
  loads : ∀ k, k < 4 → listed.getD (2 * k) false = true → a.tmps[p + 2 * k]? = some (msgV m am)
  calls : ∀ k, k < 4 → listed.getD (2 * k + 1) false = true → a.tmps[p + 2 * k + 1]? = some (msgV m (r k)) ∧ MsgNew w0.heap.size w m (r k) ∧ MsgFew 1000000 (r k)
  built : listed.getD 8 false = true → a.tmps[p + 8]? = some (.slice (some ⟨gB, 0, none⟩) 4 4) ∧ w0.heap.size ≤ gB ∧ Box w gB (cells4 m (r 0) (r 1) (r 2) (r 3)) ∧ (∀ k, k < 4 → listed.getD (2 * k + 1) false = true ∧ ¬ (r k).has gB)
  assigned : listed.getD 9 false = true → a.tmps[q]? = some (.slice (some ⟨gB, 0, none⟩) 4 4) ∧ listed.getD 8 false = true
  apart : ∀ j k, j < 4 → k < 4 → j ≠ k → listed.getD (2 * j + 1) false = true → listed.getD (2 * k + 1) false = true → ∀ g, (r j).has g → ¬ (r k).has g

section
variable {a0 : Act} {w0 : World} {p q : Nat} {m : MsgD} {am : MsgA} {r : Nat → MsgA} {gB : Nat} {listed : Array Bool} {a : Act} {w : World} {k : Nat}
theorem FourM.load (h : FourM a0 w0 p q m am r gB listed a w) (hk : k < 4) (hq : q < p) (hz : p + 9 ≤ a0.tmps.size) :
    FourM a0 w0 p q m am r gB (listed.setIfInBounds (2 * k) true) (a.put (some (p + 2 * k)) (msgV m am)) w where
  defers := h.defers
  size := (mput_size _ _ _).trans h.size
  rest := fun s h1 h2 => (mput_other (by have := h1 (2 * k) (by omega); omega) _).trans (h.rest s h1 h2)
  below := h.below
  loads := fun j hj hl => by
    by_cases hjk : j = k
    · subst hjk; exact mput_same (by rw [h.size]; omega) _
    · exact (mput_other (by omega) _).trans (h.loads j hj ((mlisted_or hl).resolve_left (by omega)))
  calls := fun j hj hl => by
    obtain ⟨h1, h2⟩ := h.calls j hj ((mlisted_or hl).resolve_left (by omega))
    exact ⟨(mput_other (by omega) _).trans h1, h2⟩
  built := fun hl => by
    obtain ⟨h1, h2, h3, h4⟩ := h.built ((mlisted_or hl).resolve_left (by omega))
    exact ⟨(mput_other (by omega) _).trans h1, h2, h3, fun j hj => ⟨getD_set_true (h4 j hj).1, (h4 j hj).2⟩⟩
  assigned := fun hl => by
    obtain ⟨h1, h2⟩ := h.assigned ((mlisted_or hl).resolve_left (by omega))
    exact ⟨(mput_other (by omega) _).trans h1, getD_set_true h2⟩
  apart := fun i j hi hj hij h1 h2 => h.apart i j hi hj hij ((mlisted_or h1).resolve_left (by omega)) ((mlisted_or h2).resolve_left (by omega))
/-- a function with one value changed -/
def mupd (f : Nat → MsgA) (k : Nat) (v : MsgA) : Nat → MsgA := fun j => if j = k then v else f j
theorem mupd_same (f : Nat → MsgA) (k : Nat) (v : MsgA) : mupd f k v k = v := by simp [mupd]
theorem mupd_other (f : Nat → MsgA) {k j : Nat} (v : MsgA) (h : j ≠ k) : mupd f k v j = f j := by simp [mupd, h]
theorem FourM.call (h : FourM a0 w0 p q m am r gB listed a w) (hk : k < 4) (_ : q < p) (hz : p + 9 ≤ a0.tmps.size) (hun : listed.getD (2 * k + 1) true = false) {w' : World} {v : MsgA} (hb : Below w.heap.size w w') (hi : MsgNew w.heap.size w' m v) (hf : MsgFew 1000000 v) :
    FourM a0 w0 p q m am (mupd r k v) gB (listed.setIfInBounds (2 * k + 1) true) (a.put (some (p + 2 * k + 1)) (msgV m v)) w' where
  defers := h.defers
  size := (mput_size _ _ _).trans h.size
  rest := fun s h1 h2 => (mput_other (by have := h1 (2 * k + 1) (by omega); omega) _).trans (h.rest s h1 h2)
  below := h.below.trans (hb.mono h.below.size)
  loads := fun j hj hl => (mput_other (by omega) _).trans (h.loads j hj ((mlisted_or hl).resolve_left (by omega)))
  calls := fun j hj hl => by
    by_cases hjk : j = k
    · subst hjk
      rw [mupd_same]
      exact ⟨mput_same (by rw [h.size]; omega) _, hi.more h.below.size, hf⟩
    · rw [mupd_other _ _ hjk]
      obtain ⟨h1, h2, h3⟩ := h.calls j hj ((mlisted_or hl).resolve_left (by omega))
      exact ⟨(mput_other (by omega) _).trans h1, h2.below hb, h3⟩
  built := fun hl => by
    have := (h.built ((mlisted_or hl).resolve_left (by omega))).2.2.2 k hk
    rw [munlisted hun] at this
    cases this.1
  assigned := fun hl => by
    have h8 := (h.assigned ((mlisted_or hl).resolve_left (by omega))).2
    have := (h.built h8).2.2.2 k hk
    rw [munlisted hun] at this
    cases this.1
  apart := fun i j hi' hj hij h1 h2 g => by
    by_cases hik : i = k
    · subst hik
      rw [mupd_same, mupd_other _ _ (Ne.symm hij)]
      intro hg hg'
      have a1 := (hi.lt hg).2
      have a2 := ((h.calls j hj ((mlisted_or h2).resolve_left (by omega))).2.1.lt hg').1
      omega
    · by_cases hjk : j = k
      · subst hjk
        rw [mupd_same, mupd_other _ _ hik]
        intro hg hg'
        have a1 := (hi.lt hg').2
        have a2 := ((h.calls i hi' ((mlisted_or h1).resolve_left (by omega))).2.1.lt hg).1
        omega
      · rw [mupd_other _ _ hik, mupd_other _ _ hjk]
        exact h.apart i j hi' hj hij ((mlisted_or h1).resolve_left (by omega)) ((mlisted_or h2).resolve_left (by omega)) g
theorem FourM.build (h : FourM a0 w0 p q m am r gB listed a w) (_ : q < p) (hz : p + 9 ≤ a0.tmps.size) (hc : ∀ k, k < 4 → listed.getD (2 * k + 1) false = true) (hun : listed.getD 8 true = false) :
    FourM a0 w0 p q m am r w.heap.size (listed.setIfInBounds 8 true) (a.put (some (p + 8)) (.slice (some ⟨w.heap.size, 0, none⟩) 4 4)) (w.alloc (.cells (cells4 m (r 0) (r 1) (r 2) (r 3)).toArray 32)) where
  defers := h.defers
  size := (mput_size _ _ _).trans h.size
  rest := fun s h1 h2 => (mput_other (by have := h1 8 (by omega); omega) _).trans (h.rest s h1 h2)
  below := h.below.alloc h.below.size _
  loads := fun j hj hl => (mput_other (by omega) _).trans (h.loads j hj ((mlisted_or hl).resolve_left (by omega)))
  calls := fun j hj hl => by
    obtain ⟨h1, h2, h3⟩ := h.calls j hj ((mlisted_or hl).resolve_left (by omega))
    exact ⟨(mput_other (by omega) _).trans h1, h2.below ((Below.refl _ _).alloc (Nat.le_refl _) _), h3⟩
  built := fun _ => ⟨mput_same (by rw [h.size]; omega) _, h.below.size, box_new _ _ _, fun j hj => ⟨getD_set_true (hc j hj), fun e => by
    have := ((h.calls j hj (hc j hj)).2.1.lt e).1
    omega⟩⟩
  assigned := fun hl => by
    rcases mlisted_or hl with h9 | h9
    · omega
    · have h8 := (h.assigned h9).2
      rw [munlisted hun] at h8
      cases h8
  apart := fun i j hi hj hij h1 h2 => h.apart i j hi hj hij ((mlisted_or h1).resolve_left (by omega)) ((mlisted_or h2).resolve_left (by omega))
theorem FourM.assign (h : FourM a0 w0 p q m am r gB listed a w) (hq : q < p) (hz : p + 9 ≤ a0.tmps.size) (h8 : listed.getD 8 false = true) :
    FourM a0 w0 p q m am r gB (listed.setIfInBounds 9 true) (a.put (some q) (.slice (some ⟨gB, 0, none⟩) 4 4)) w where
  defers := h.defers
  size := (mput_size _ _ _).trans h.size
  rest := fun s h1 h2 => (mput_other (by omega) _).trans (h.rest s h1 h2)
  below := h.below
  loads := fun j hj hl => (mput_other (by omega) _).trans (h.loads j hj ((mlisted_or hl).resolve_left (by omega)))
  calls := fun j hj hl => by
    obtain ⟨h1, h2⟩ := h.calls j hj ((mlisted_or hl).resolve_left (by omega))
    exact ⟨(mput_other (by omega) _).trans h1, h2⟩
  built := fun hl => by
    obtain ⟨h1, h2, h3, h4⟩ := h.built ((mlisted_or hl).resolve_left (by omega))
    exact ⟨(mput_other (by omega) _).trans h1, h2, h3, fun j hj => ⟨getD_set_true (h4 j hj).1, (h4 j hj).2⟩⟩
  assigned := fun _ => ⟨mput_same (by rw [h.size]; omega) _, getD_set_true h8⟩
  apart := fun i j hi hj hij h1 h2 => h.apart i j hi hj hij ((mlisted_or h1).resolve_left (by omega)) ((mlisted_or h2).resolve_left (by omega))
end

/-- what is known when all is done -/
structure FourMDone (w0 : World) (m : MsgD) (r : Nat → MsgA) (gB : Nat) (w : World) : Prop where
  below : Below w0.heap.size w0 w
  rows : ∀ k, k < 4 → MsgNew w0.heap.size w m (r k) ∧ MsgFew 1000000 (r k) ∧ ¬ (r k).has gB
  apart : ∀ j k, j < 4 → k < 4 → j ≠ k → ∀ g, (r j).has g → ¬ (r k).has g
  box : w0.heap.size ≤ gB ∧ Box w gB (cells4 m (r 0) (r 1) (r 2) (r 3))

set_option maxHeartbeats 1000000 in
theorem four_messages {ops : Array Oper} {id : Nat} {a : Act} {w : World} {Q : Exit → Act → World → Prop} {z p q gb : Nat} {m : MsgD} {am : MsgA} (h10 : ops.size = 10)
    (hback : ∀ (i : Nat) (o : Oper), ops[i]? = some o → ∀ e ∈ o.after, e.on < i)
    (hld : ∀ k, k < 4 → ∃ o, ops[2 * k]? = some o ∧ o.dst = some (p + 2 * k) ∧ o.op = .load 32 (.tmp z) ∧ o.guard = none)
    (hcl : ∀ k, k < 4 → ∃ o, ops[2 * k + 1]? = some o ∧ o.dst = some (p + 2 * k + 1) ∧ o.op = .call { callee := .value (.func 16), args := #[.tmp (p + 2 * k)], argTypes := #[32] } ∧ o.guard = none ∧ ({ on := 2 * k, ground := .data } : Edge) ∈ o.after)
    (hbs : ∃ o, ops[8]? = some o ∧ o.dst = some (p + 8) ∧ o.op = .buildSlice 73 4 #[(0, .tmp (p + 1)), (1, .tmp (p + 3)), (2, .tmp (p + 5)), (3, .tmp (p + 7))] ∧ o.guard = none ∧ ∀ k, k < 4 → ({ on := 2 * k + 1, ground := .data } : Edge) ∈ o.after)
    (has : ∃ o, ops[9]? = some o ∧ o.dst = some q ∧ o.op = .assign (.tmp (p + 8)) ∧ o.guard = none ∧ ({ on := 8, ground := .data } : Edge) ∈ o.after)
    (hzq : z < q) (hqp : q < p) (hps : p + 9 ≤ a.tmps.size) (hz : a.tmps[z]? = some (.pointer (some ⟨gb, 0, none⟩)))
    (hbx : Box w gb (msgC m am)) (hi : MsgIn w m am) (hf : MsgFew 1000000 am)
    (hQ : ∀ (r : Nat → MsgA) (gB : Nat) (w' : World), FourMDone w m r gB w' →
      Q .normal { tmps := (((((((((a.tmps.setIfInBounds p (msgV m am)).setIfInBounds (p + 1) (msgV m (r 0))).setIfInBounds (p + 2) (msgV m am)).setIfInBounds (p + 3) (msgV m (r 1))).setIfInBounds (p + 4) (msgV m am)).setIfInBounds (p + 5) (msgV m (r 2))).setIfInBounds (p + 6) (msgV m am)).setIfInBounds (p + 7) (msgV m (r 3))).setIfInBounds (p + 8) (.slice (some ⟨gB, 0, none⟩) 4 4)).setIfInBounds q (.slice (some ⟨gB, 0, none⟩) 4 4), defers := a.defers } w') :
    (Code.region id ops true).wp Try.prog Q a w := by
  refine wp_region_any (by kernel_rfl) ?_
  have hw0 : Below w.heap.size w { w with drawn := w.drawn + 1 } := (Below.refl _ _).drew
  refine mwpAny_inv (fun listed a' w' => ∃ (r : Nat → MsgA) (gB : Nat), FourM a { w with drawn := w.drawn + 1 } p q m am r gB listed a' w') hback ?_ ?_ _ _ _ _ (by simp) ?_ ?_
  · rintro listed a' w' i o hs ho h0 hd ⟨r, gB, h⟩
    have hi10 : i < 10 := by
      rcases Nat.lt_or_ge i ops.size with h' | h'
      · omega
      · rw [Array.getElem?_eq_none h'] at ho; cases ho
    have hbw : Below w.heap.size w w' := hw0.trans h.below
    unfold wpOp
    simp only [ho]
    by_cases hi8 : i < 8
    · by_cases hev : i % 2 = 0
      · obtain ⟨k, rfl⟩ : ∃ k, i = 2 * k := ⟨i / 2, by omega⟩
        obtain ⟨o', ho', h1, h2, h3⟩ := hld k (by omega)
        cases ho.symm.trans ho'
        rw [if_pos (by simp [Region.wanted, h3])]
        refine .inl (wp_load_box 32 (.tmp z) h2 gb (meval_slot ((h.rest z (by intro j hj; omega) (by omega)).trans hz)) (msgC m am) (hbx.below hbw hbx.1) _ Try.underlying32 rfl (by kernel_rfl) ?_)
        rw [h1]
        exact ⟨r, gB, h.load (by omega) hqp hps⟩
      · obtain ⟨k, rfl⟩ : ∃ k, i = 2 * k + 1 := ⟨i / 2, by omega⟩
        obtain ⟨o', ho', h1, h2, h3, h4⟩ := hcl k (by omega)
        cases ho.symm.trans ho'
        rw [if_pos (by simp [Region.wanted, h3])]
        have hld' := h.loads k (by omega) (hd _ h4 rfl)
        refine .inl (mcopy_wp h2 hld' (rcopyMsg_any m am w' (hi.below hbw) hf) ?_)
        rintro e w'' ⟨v, rfl, hi2, hf2, hb2⟩
        refine ⟨_, rfl, ?_⟩
        rw [h1]
        exact ⟨mupd r k v, gB, h.call (by omega) hqp hps h0 hb2 hi2 hf2⟩
    · by_cases hi9 : i = 8
      · subst hi9
        obtain ⟨o', ho', h1, h2, h3, h4⟩ := hbs
        cases ho.symm.trans ho'
        rw [if_pos (by simp [Region.wanted, h3])]
        have hc : ∀ k, k < 4 → listed.getD (2 * k + 1) false = true := fun k hk => hd _ (h4 k hk) rfl
        obtain ⟨ie, hie, hzz, hsz⟩ := info_msg4
        refine .inl (wp_buildSlice 73 32 4 _ h2 (cells4 m (r 0) (r 1) (r 2) (r 3)).toArray ie (msgV zeroM zeroA) Try.underlying73 hie hzz (by rw [hsz]; decide) (by rw [hsz]; decide) ?_ ?_)
        · have e0 := meval_slot (h.calls 0 (by omega) (hc 0 (by omega))).1
          have e1 := meval_slot (h.calls 1 (by omega) (hc 1 (by omega))).1
          have e2 := meval_slot (h.calls 2 (by omega) (hc 2 (by omega))).1
          have e3 := meval_slot (h.calls 3 (by omega) (hc 3 (by omega))).1
          simp only [Nat.mul_zero, Nat.add_zero, Nat.mul_one] at e0 e1 e2 e3
          rw [hsz]
          have e : ((#[(0, Operand.tmp (p + 1)), (1, .tmp (p + 3)), (2, .tmp (p + 5)), (3, .tmp (p + 7))] : Array (Nat × Operand)).map fun (i, x) => (i, a'.eval x)).toList = [(0, msgV m (r 0)), (1, msgV m (r 1)), (2, msgV m (r 2)), (3, msgV m (r 3))] := by
            rw [Array.toList_map]
            show [(0, a'.eval (.tmp (p + 1))), (1, a'.eval (.tmp (p + 3))), (2, a'.eval (.tmp (p + 5))), (3, a'.eval (.tmp (p + 7)))] = _
            rw [e0, show p + 3 = p + 2 * 1 + 1 by omega, show p + 5 = p + 2 * 2 + 1 by omega, show p + 7 = p + 2 * 3 + 1 by omega]
            simp only [Nat.mul_one] at *
            rw [e1, e2, e3]
          rw [e]
          exact fill4 m (r 0) (r 1) (r 2) (r 3)
        · rw [h1]
          exact ⟨r, _, h.build hqp hps hc h0⟩
      · obtain rfl : i = 9 := by omega
        obtain ⟨o', ho', h1, h2, h3, h4⟩ := has
        cases ho.symm.trans ho'
        rw [if_pos (by simp [Region.wanted, h3])]
        have h8 := hd _ h4 rfl
        refine .inl (massign_wp h2 (h.built h8).1 ?_)
        rw [h1]
        exact ⟨r, gB, h.assign hqp hps h8⟩
  · rintro listed a' w' hall ⟨r, gB, h⟩
    have hls : ∀ i, i < 10 → listed.getD i false = true := fun i hi => hall i (by omega)
    have hbt := h.built (hls 8 (by omega))
    have hq := hQ r gB w'
      { below := hw0.trans h.below
        rows := fun k hk => ⟨(h.calls k hk (hls _ (by omega))).2.1, (h.calls k hk (hls _ (by omega))).2.2, (hbt.2.2.2 k hk).2⟩
        apart := fun j k hj hk hjk => h.apart j k hj hk hjk (hls _ (by omega)) (hls _ (by omega))
        box := ⟨hbt.2.1, hbt.2.2.1⟩ }
    have l0 := h.loads 0 (by omega) (hls _ (by omega))
    have l1 := h.loads 1 (by omega) (hls _ (by omega))
    have l2 := h.loads 2 (by omega) (hls _ (by omega))
    have l3 := h.loads 3 (by omega) (hls _ (by omega))
    have r0 := (h.calls 0 (by omega) (hls _ (by omega))).1
    have r1 := (h.calls 1 (by omega) (hls _ (by omega))).1
    have r2 := (h.calls 2 (by omega) (hls _ (by omega))).1
    have r3 := (h.calls 3 (by omega) (hls _ (by omega))).1
    have b0 := hbt.1
    have b1 := (h.assigned (hls 9 (by omega))).1
    have hsz := h.size.symm
    have ag : ∀ t, t ∉ [p, p + 1, p + 2, p + 3, p + 4, p + 5, p + 6, p + 7, p + 8, q] → a.tmps[t]? = a'.tmps[t]? := fun t ht => by
      simp only [List.mem_cons, List.not_mem_nil, or_false, not_or] at ht
      exact (h.rest t (by intro i hi; omega) (by omega)).symm
    have g0 := magree_put hsz ag l0
    have g1 := magree_put (by simpa using hsz) g0 r0
    have g2 := magree_put (by simpa using hsz) g1 l1
    have g3 := magree_put (by simpa using hsz) g2 r1
    have g4 := magree_put (by simpa using hsz) g3 l2
    have g5 := magree_put (by simpa using hsz) g4 r2
    have g6 := magree_put (by simpa using hsz) g5 l3
    have g7 := magree_put (by simpa using hsz) g6 r3
    have g8 := magree_put (by simpa using hsz) g7 b0
    have g9 := magree_put (by simpa using hsz) g8 b1
    have he := Array.ext_getElem? fun t => g9 t (by simp)
    rw [he, ← h.defers] at hq
    exact hq
  · rw [Array.toList_replicate]
    exact Nat.le_trans List.countP_le_length (by simp)
  · have hno : ∀ i, (Array.replicate ops.size false).getD i false = false := by
      intro i
      rw [Array.getD_eq_getD_getElem?, Array.getElem?_replicate]
      split <;> rfl
    exact ⟨fun _ => zeroA, 0,
      { defers := rfl, size := rfl, rest := fun _ _ _ => rfl, below := Below.refl _ _
        loads := fun k hk hl => by rw [hno] at hl; cases hl
        calls := fun k hk hl => by rw [hno] at hl; cases hl
        built := fun hl => by rw [hno] at hl; cases hl
        assigned := fun hl => by rw [hno] at hl; cases hl
        apart := fun j k hj hk hjk hl => by rw [hno] at hl; cases hl }⟩

theorem mback_of {ops : Array Oper} (h : ((List.range ops.size).all fun i => match ops[i]? with | some o => o.after.toList.all (fun e => decide (e.on < i)) | none => true) = true) : ∀ (i : Nat) (o : Oper), ops[i]? = some o → ∀ e ∈ o.after, e.on < i := by
  intro i o ho e he
  have hi : i < ops.size := by
    rcases Nat.lt_or_ge i ops.size with h' | h'
    · exact h'
    · rw [Array.getElem?_eq_none h'] at ho; cases ho
  have := List.all_eq_true.1 h i (List.mem_range.2 hi)
  simp only [ho, List.all_eq_true, decide_eq_true_eq] at this
  exact this e (by simpa using he)

end Go.Proofs.Ytafkcofocjellaa
