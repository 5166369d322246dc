/-
  Package book as landed: Digest; what is asked of it, whole.
-/
import Derived.Test.YtnooippbdfobdaaBSign
namespace Go.Proofs.Ytnooippbdfobdaa
open Go.RowKit Go.Maps Go.WideMaps

theorem bookTo_n {g : Nat} {F : Nat → Prop} {L : List (List Int)} {S : List (Int × Int)} {w : World} (h : IsBook w g F L S) (d : Nat) : BookTo IsBook g F L S w (w.drewN d) :=
  ⟨F, h.kept (Nat.le_refl _) (fun _ _ => rfl), (Touch.refl _ _).drewN d, fun _ h => .inl h⟩
theorem bookTo_same {g : Nat} {F : Nat → Prop} {L : List (List Int)} {S : List (Int × Int)} {w w' : World} (h : IsBook w g F L S) (he : w = w') : BookTo IsBook g F L S w w' := by
  subst he
  exact ⟨F, h, Touch.refl _ _, fun _ h => .inl h⟩

theorem pdigest_old {F : Nat → Prop} (g : Nat) (L : List (List Int)) (S : List (Int × Int)) (A : Option Addr) (c n k : Nat) (x : List Int) (w : World) (h : IsBook w g F L S) (hG : Given w F A c n x) (hf : findB L x = k + 1) :
    Calls Try.prog 20 #[.pointer (some ⟨g, 0, none⟩), .slice A n c] w fun e w' => e = .returned (.tuple #[.int .i64 ((k + 1 : Nat) : Int), .int .i64 0]) ∧ BookTo IsBook g F L S w w' := by
  have HF := Lib.hid hf
  clear hf
  go_enter Try.func20, Try.ntmps20
  go_wp2_with fail
  refine (pfind_any g L S A c n x _ h hG).mono ?_
  rintro e w' ⟨rfl, d, rfl⟩
  have hv : findV (findB L x) = .tuple #[.int .i64 ((k : Int) + 1), .int .i64 0] := by rw [HF.out]; rfl
  rw [hv]
  go_wp2_with fail
  go_ret2
  exact ⟨rfl, bookTo_n h d⟩

theorem info_ent : (Try.prog.info? 59).map (fun i => (i.zero, i.size, i.bytes)) = some (some (.agg #[.string ByteArray.empty, .slice none 0 0]), 2, 40) := by kernel_rfl

/-- m[k] = v at a step of a statement whose order is open -/
theorem step_mapput {H : Type} {P : Program} (w : World) {ops : Array Oper} {o : Oper} {a : Act} {K : Act → World → Prop} {Q : Exit → Act → World → Prop} {E : Prop} (hgd : o.guard = none) (m x v : Operand) (t : TypeId) (ho : o.op = Op.mapUpdate t m x v)
    (k e : TypeId) (Kd : Keyed P k) (ht : P.underlying t = some (.map k e)) (R : Value → Option (DataW H × List MemPlace)) (b n : Nat) (D : DataW H)
    (hm : a.eval m = .map (some b)) (hown : w.ownsMap P k R b n D) (hn : n < maxLen) (key val : Value) (kl : Lit) (hx : a.eval x = key) (hv : a.eval v = val) (hkey : keyOf P k key = some kl)
    (d : DataW H) (ps : List MemPlace) (hval : R val = some (d, ps))
    (h : ∀ w', w'.ownsMap P k R b (n + 1) (D.put kl d) → w.grownBy w' (some b) → K (a.put o.dst undef) w') : if Region.wanted o (yielded ops a.tmps) = true then Oper.wp P o a w K Q else E := by
  have hw : Region.wanted o (yielded ops a.tmps) = true := by simp [Region.wanted, hgd]
  rw [if_pos hw]
  obtain ⟨w', hrun, r1, r2⟩ := hown.update Kd ht hn hkey hval
  unfold Oper.wp
  simp [execOp, ho, hm, hx, hv, hrun, Result.andThen]
  exact h w' r1 r2
theorem count_wp {w : World} {o : Oper} {a : Act} {K : Act → World → Prop} {Q : Exit → Act → World → Prop} {s : Nat} {t : TypeId} {v : Value} (ho : o.op = .call { callee := .value (.func 22), args := #[.tmp s], argTypes := #[t] }) (hs : a.tmps[s]? = some v) {R : Ending → World → Prop} (hc : Calls Try.prog 22 #[v] w R)
    (h : ∀ e w', R e w' → ∃ u, e = .returned u ∧ K (a.put o.dst u) w') : o.wp Try.prog a w K Q := by
  have he : a.eval (.tmp s) = v := by simp [Act.eval, hs]
  unfold Oper.wp execOp
  simp only [ho]
  go_simp
  refine hc.mono fun e w' hr => ?_
  obtain ⟨u, rfl, hk⟩ := h e w' hr
  exact hk
theorem step_count {w : World} {ops : Array Oper} {o : Oper} {a : Act} {K : Act → World → Prop} {Q : Exit → Act → World → Prop} {E : Prop} {s : Nat} {t : TypeId} {v : Value} (hgd : o.guard = none)
    (ho : o.op = .call { callee := .value (.func 22), args := #[.tmp s], argTypes := #[t] }) (hs : a.tmps[s]? = some v) {R : Ending → World → Prop} (hc : Calls Try.prog 22 #[v] w R)
    (h : ∀ e w', R e w' → ∃ u, e = .returned u ∧ K (a.put o.dst u) w') : if Region.wanted o (yielded ops a.tmps) = true then Oper.wp Try.prog o a w K Q else E := by
  have hw : Region.wanted o (yielded ops a.tmps) = true := by simp [Region.wanted, hgd]
  rw [if_pos hw]
  exact count_wp ho hs hc h

/-- behind the append and the store, ahead of the map -/
structure Grown (w w3 : World) (g bm g' c' n : Nat) (vE : Value) (xs : List Value) (D : DataW Unit) (k : Nat) : Prop where
  size : w.heap.size ≤ w3.heap.size
  far : ∀ j, j < w.heap.size → j ≠ g → vE.ownBlock ≠ some j → w3.heap[j]? = w.heap[j]?
  touch : Touch (fun j => j = g ∨ vE.ownBlock = some j) w w3
  c0 : w3.cell? ⟨g, 0, none⟩ = some (.map (some bm))
  c1 : w3.cell? ⟨g, 1, none⟩ = some (.slice (some ⟨g', 0, none⟩) n c')
  f0 : w3.frozen? ⟨g, 0, none⟩ = false
  f1 : w3.frozen? ⟨g, 1, none⟩ = false
  row : w3.ownsRow 0 59 2 (.slice (some ⟨g', 0, none⟩) n c') n xs
  at_ : vE.ownBlock = some g' ∨ w.heap.size ≤ g'
  map : w3.ownsMap Try.prog 9 (plainElem Try.prog 3) bm k D

theorem grown_of {w w2 : World} {g : Nat} {F : Nat → Prop} {L : List (List Int)} {S : List (Int × Int)} {bm : Nat} {vE : Value} {vs : List Value} (h : BookB w g F L S (some bm) vE vs) {D : DataW Unit} (hm : w.ownsMap Try.prog 9 (plainElem Try.prog 3) bm L.length D)
    {wX : World} (hX : Below w.heap.size w wX) (hg2 : wX.grownBy w2 vE.ownBlock) {g' c' n : Nat} {xs : List Value} (ho : w2.ownsRow 0 59 2 (.slice (some ⟨g', 0, none⟩) n c') n xs) (hat : vE.ownBlock = some g' ∨ w.heap.size ≤ g') :
    Grown w (w2.setCell ⟨g, 1, none⟩ (.slice (some ⟨g', 0, none⟩) n c')) g bm g' c' n vE xs D L.length := by
  obtain ⟨h1, h2, h3⟩ := grown_far hX hg2
  have hgl := h.lt g h.here
  have hgE : vE.ownBlock ≠ some g := fun e => (h.fE g e).2 rfl
  obtain ⟨hbF, hbg, hbE⟩ : F bm ∧ bm ≠ g ∧ vE.ownBlock ≠ some bm := by
    rcases h.mp with ⟨e, _⟩ | ⟨b, D', e, h1, h2, h3, _⟩
    · cases e
    · cases e; exact ⟨h1, h2, h3⟩
  have hgb := h2 g hgl hgE
  have hg'g : g' ≠ g := by
    rcases hat with e | e
    · exact (h.fE g' e).2
    · omega
  exact
    { size := by simpa using h1
      far := fun j hj hn he => (set_block _ hn).trans (h2 j hj he)
      touch := (h3.mono fun j hj => .inr hj).set (.inl (.inl rfl)) _
      c0 := (World.cell?_setCell_other _ _ _ _ (by simp)).trans ((World.cell?_of_block (a := ⟨g, 0, none⟩) hgb).trans h.c0)
      c1 := World.cell?_setCell_same _ _ _ ((World.cell?_of_block (a := ⟨g, 1, none⟩) hgb).trans h.c1)
      f0 := by rw [World.frozen?_setCell]; exact (World.frozen?_of_block (a := ⟨g, 0, none⟩) hgb).trans h.f0
      f1 := by rw [World.frozen?_setCell]; exact (World.frozen?_of_block (a := ⟨g, 1, none⟩) hgb).trans h.f1
      row := own_kept ho fun j hj _ => set_block _ (by cases hj; exact hg'g)
      at_ := hat
      map := map_kept hm ((set_block _ hbg).trans (h2 bm (h.lt bm hbF) hbE)) }

theorem Grown.book {w w3 w4 : World} {g : Nat} {F : Nat → Prop} {L : List (List Int)} {S : List (Int × Int)} {bm g' c' n : Nat} {vE : Value} {vs : List Value} {D : DataW Unit} {x : List Int} (G : Grown w w3 g bm g' c' n vE (ents L vs ++ [.string (strOfNums x), .slice none 0 0]) D L.length)
    (h : BookB w g F L S (some bm) vE vs) (hn : L.length + 1 = n) (hx : Byts x) (hxn : x.length ≤ 1000000) (hd : Digs D L) (hf : findB L x = 0) (hg4 : w3.grownBy w4 (some bm))
    (hm4 : w4.ownsMap Try.prog 9 (plainElem Try.prog 3) bm (L.length + 1) (D.put (keyB x) (.lit (.int .i64 (n : Int))))) :
    BookTo IsBook g F (L ++ [x]) S w w4 ∧ w4.cell? ⟨g, 1, none⟩ = some (.slice (some ⟨g', 0, none⟩) n c') := by
  obtain ⟨hbF, hbg, hbE⟩ : F bm ∧ bm ≠ g ∧ vE.ownBlock ≠ some bm := by
    rcases h.mp with ⟨e, _⟩ | ⟨b, D', e, h1, h2, h3, _⟩
    · cases e
    · cases e; exact ⟨h1, h2, h3⟩
  have hg3 : g < w3.heap.size := Nat.lt_of_lt_of_le (h.lt g h.here) G.size
  have hg4b : w4.heap[g]? = w3.heap[g]? := hg4.block g hg3 (fun e => hbg (by cases e; rfl))
  have hg'3 := (own_lt G.row (g := g') rfl).1
  have hg'b : g' ≠ bm := by
    rcases G.at_ with e | e
    · intro e'; exact hbE (e' ▸ e)
    · have := h.lt bm hbF; omega
  have hg'4 : w4.heap[g']? = w3.heap[g']? := hg4.block g' hg'3 (fun e => hg'b (by cases e; rfl))
  have c1 := (World.cell?_of_block (a := ⟨g, 1, none⟩) hg4b).trans G.c1
  have hdp : Digs (D.put (keyB x) (.lit (.int .i64 (n : Int)))) (L ++ [x]) := by
    have := digs_put hd hx (by unfold maxLen; omega) hf
    rwa [hn] at this
  have hsz : w.heap.size ≤ w4.heap.size := Nat.le_trans G.size hg4.size
  have hB := h.grows (w' := w4) (g' := g') (c' := c') hn hx hxn hsz (fun j hj hjg hjE hjb => (hg4.block j (Nat.lt_of_lt_of_le hj G.size) (fun e => hjb (by cases e; rfl))).trans (G.far j hj hjg hjE))
    ((World.cell?_of_block (a := ⟨g, 0, none⟩) hg4b).trans G.c0) c1 ((World.frozen?_of_block (a := ⟨g, 0, none⟩) hg4b).trans G.f0) ((World.frozen?_of_block (a := ⟨g, 1, none⟩) hg4b).trans G.f1)
    (own_kept G.row fun j hj _ => by cases hj; exact hg'4) G.at_ (by rw [hn] at hm4; exact hm4) hdp
  refine ⟨⟨_, ⟨_, _, _, hB⟩, ?_, fun j hf => hf.imp id (fun h => h.1)⟩, c1⟩
  refine (G.touch.mono (F' := F) fun j hj => ?_).trans (Touch.grown (F := F) hg4 fun j e => by cases e; exact hbF) (fun j hf => .inl hf)
  rcases hj with rfl | e
  · exact h.here
  · exact (h.fE j e).1

/-- a book whose map is there, where another may have been ahead -/
def Ready (w : World) (g : Nat) (F : Nat → Prop) (L : List (List Int)) (S : List (Int × Int)) (bm : Nat) (vE : Value) (vs : List Value) (wa : World) (Fa : Nat → Prop) : Prop :=
  BookB wa g Fa L S (some bm) vE vs ∧ Touch F w wa ∧ ∀ k, Fa k → F k ∨ w.heap.size ≤ k
theorem BookTo.after {w wa w4 : World} {g : Nat} {F Fa : Nat → Prop} {L L' : List (List Int)} {S : List (Int × Int)} {bm : Nat} {vE : Value} {vs : List Value} (hr : Ready w g F L S bm vE vs wa Fa) (h : BookTo IsBook g Fa L' S wa w4) : BookTo IsBook g F L' S w w4 := by
  obtain ⟨_, ht, hf⟩ := hr
  obtain ⟨F4, h4, ht4, hf4⟩ := h
  refine ⟨F4, h4, ht.trans ht4 hf, fun k hk => ?_⟩
  rcases hf4 k hk with e | e
  · exact hf k e
  · exact .inr (Nat.le_trans ht.size e)
theorem ready_of {w : World} {g : Nat} {F : Nat → Prop} {L : List (List Int)} {S : List (Int × Int)} {bm : Nat} {vE : Value} {vs : List Value} (h : BookB w g F L S (some bm) vE vs) (d : Nat) : Ready w g F L S bm vE vs (w.drewN d) F :=
  ⟨h.kept (Nat.le_refl _) (fun _ _ => rfl), (Touch.refl _ _).drewN d, fun _ h => .inl h⟩
theorem ready_new {w : World} {g : Nat} {F : Nat → Prop} {L : List (List Int)} {S : List (Int × Int)} {vE : Value} {vs : List Value} (h : BookB w g F L S none vE vs) (d : Nat) :
    Ready w g F L S w.heap.size vE vs (((w.drewN d).alloc (.map #[] 0)).setCell ⟨g, 0, none⟩ (.map (some w.heap.size))) (fun k => F k ∨ (w.heap.size ≤ k ∧ k < w.heap.size + 1)) := by
  have h1 : BookB (w.drewN d) g F L S none vE vs := h.kept (Nat.le_refl _) (fun _ _ => rfl)
  exact ⟨h1.mapped, (((Touch.refl F w).drewN d).alloc _).set (.inl h.here) _, fun k hk => hk.imp id (fun h => h.1)⟩

end Go.Proofs.Ytnooippbdfobdaa
