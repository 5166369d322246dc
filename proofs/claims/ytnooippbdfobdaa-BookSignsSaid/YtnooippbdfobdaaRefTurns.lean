/-
  The page's own book: what is put into it.
-/
import Derived.Test.YtnooippbdfobdaaRefBook
namespace Go.Proofs.Ytnooippbdfobdaa
open Go.RowKit

section
variable {w w2 : World} {g : Nat} {F : Nat → Prop} {L : List (List Int)} {W D : List Int} {vL vW vD : Value} {es : List Value}

theorem set_block {w : World} {b o k : Nat} (u : Value) (h : k ≠ b) : (w.setCell ⟨b, o, none⟩ u).heap[k]? = w.heap[k]? := Below.heap_setCell _ _ _ _ h

theorem RefB.putW (h : RefB w g F L W D vL vW vD es) (hsz : w.heap.size ≤ w2.heap.size) (hk : ∀ k, k < w.heap.size → vW.ownBlock ≠ some k → w2.heap[k]? = w.heap[k]?) {g' c' n : Nat} {W' : List Int} (hn : W'.length = n)
    (ho : w2.ownsRow 0 3 1 (.slice (some ⟨g', 0, none⟩) n c') n (i64s W')) (hat : vW.ownBlock = some g' ∨ w.heap.size ≤ g') :
    RefB (w2.setCell ⟨g, 1, none⟩ (.slice (some ⟨g', 0, none⟩) n c')) g (fun k => F k ∨ (w.heap.size ≤ k ∧ k < w2.heap.size)) L W' D vL (.slice (some ⟨g', 0, none⟩) n c') vD es := by
  subst hn
  have hg := h.lt g h.here
  have hgb := hk g hg (fun e => (h.fW g e).2 rfl)
  have hg' : g' ≠ g := by
    rcases hat with e | e
    · exact (h.fW g' e).2
    · omega
  have hg2 := (own_lt ho (g := g') rfl).1
  have hnew : ∀ k, k < w.heap.size → vW.ownBlock ≠ some k → g' ≠ k := fun k hk' hn e => by
    rcases hat with e' | e'
    · exact hn (e ▸ e')
    · omega
  have cc : ∀ o v, w.cell? ⟨g, o, none⟩ = some v → w2.cell? ⟨g, o, none⟩ = some v := fun o v hc => (World.cell?_of_block (a := ⟨g, o, none⟩) hgb).trans hc
  have ff : ∀ o, w.frozen? ⟨g, o, none⟩ = false → (w2.setCell ⟨g, 1, none⟩ (.slice (some ⟨g', 0, none⟩) W'.length c')).frozen? ⟨g, o, none⟩ = false := fun o hc => by
    rw [World.frozen?_setCell]; exact (World.frozen?_of_block (a := ⟨g, o, none⟩) hgb).trans hc
  have rows : ∀ {e : TypeId} {n : Nat} {v : Value} {xs : List Value}, w.ownsRow 0 e 1 v n xs → (∀ k, v.ownBlock = some k → k ≠ g ∧ vW.ownBlock ≠ some k) → (w2.setCell ⟨g, 1, none⟩ (.slice (some ⟨g', 0, none⟩) W'.length c')).ownsRow 0 e 1 v n xs := fun hr hd =>
    own_kept hr fun k hk' hl => (set_block _ (hd k hk').1).trans (hk k hl (hd k hk').2)
  exact
    { c0 := (World.cell?_setCell_other _ _ _ _ (by simp)).trans (cc 0 _ h.c0)
      c1 := World.cell?_setCell_same _ _ _ (cc 1 _ h.c1)
      c2 := (World.cell?_setCell_other _ _ _ _ (by simp)).trans (cc 2 _ h.c2)
      f0 := ff 0 h.f0
      f1 := ff 1 h.f1
      f2 := ff 2 h.f2
      here := .inl h.here
      lt := fun k hf => by
        rcases hf with hf | hf
        · have := h.lt k hf; simp; omega
        · simpa using hf.2
      rL := rows h.rL fun k hk' => ⟨(h.fL k hk').2, h.dLW k hk'⟩
      rW := own_kept ho fun k hk' _ => set_block _ (by have : g' = k := by simpa [Value.ownBlock] using hk'
                                                       omega)
      rD := rows h.rD fun k hk' => ⟨(h.fD k hk').2, fun e => h.dWD k e hk'⟩
      fL := fun k hk' => ⟨.inl (h.fL k hk').1, (h.fL k hk').2⟩
      fW := fun k hk' => by
        have e : g' = k := by simpa [Value.ownBlock] using hk'
        subst e
        refine ⟨?_, hg'⟩
        rcases hat with e' | e'
        · exact .inl (h.fW _ e').1
        · exact .inr ⟨e', hg2⟩
      fD := fun k hk' => ⟨.inl (h.fD k hk').1, (h.fD k hk').2⟩
      dLW := fun k hk' e => hnew k (h.lt k (h.fL k hk').1) (h.dLW k hk') (by simpa [Value.ownBlock] using e)
      dLD := h.dLD
      dWD := fun k hk' e => by
        have e' : g' = k := by simpa [Value.ownBlock] using hk'
        exact hnew k (h.lt k (h.fD k e).1) (fun e2 => h.dWD k e2 e) e'
      el := fun i v x hv hx => by
        refine ((h.el i v x hv hx).kept (by simpa using hsz) fun k hk' hl => (set_block _ hk'.2.1).trans (hk k hl hk'.2.2.2.1)).wider fun k hk' => ⟨.inl hk'.1, hk'.2.1, hk'.2.2.1, fun e => hnew k (h.lt k hk'.1) hk'.2.2.2.1 (by simpa [Value.ownBlock] using e), hk'.2.2.2.2⟩ }

theorem RefB.putD (h : RefB w g F L W D vL vW vD es) (hsz : w.heap.size ≤ w2.heap.size) (hk : ∀ k, k < w.heap.size → vD.ownBlock ≠ some k → w2.heap[k]? = w.heap[k]?) {g' c' n : Nat} {D' : List Int} (hn : D'.length = n)
    (ho : w2.ownsRow 0 3 1 (.slice (some ⟨g', 0, none⟩) n c') n (i64s D')) (hat : vD.ownBlock = some g' ∨ w.heap.size ≤ g') :
    RefB (w2.setCell ⟨g, 2, none⟩ (.slice (some ⟨g', 0, none⟩) n c')) g (fun k => F k ∨ (w.heap.size ≤ k ∧ k < w2.heap.size)) L W D' vL vW (.slice (some ⟨g', 0, none⟩) n c') es := by
  subst hn
  have hg := h.lt g h.here
  have hgb := hk g hg (fun e => (h.fD g e).2 rfl)
  have hg' : g' ≠ g := by
    rcases hat with e | e
    · exact (h.fD g' e).2
    · omega
  have hg2 := (own_lt ho (g := g') rfl).1
  have hnew : ∀ k, k < w.heap.size → vD.ownBlock ≠ some k → g' ≠ k := fun k hk' hn e => by
    rcases hat with e' | e'
    · exact hn (e ▸ e')
    · omega
  have cc : ∀ o v, w.cell? ⟨g, o, none⟩ = some v → w2.cell? ⟨g, o, none⟩ = some v := fun o v hc => (World.cell?_of_block (a := ⟨g, o, none⟩) hgb).trans hc
  have ff : ∀ o, w.frozen? ⟨g, o, none⟩ = false → (w2.setCell ⟨g, 2, none⟩ (.slice (some ⟨g', 0, none⟩) D'.length c')).frozen? ⟨g, o, none⟩ = false := fun o hc => by
    rw [World.frozen?_setCell]; exact (World.frozen?_of_block (a := ⟨g, o, none⟩) hgb).trans hc
  have rows : ∀ {e : TypeId} {n : Nat} {v : Value} {xs : List Value}, w.ownsRow 0 e 1 v n xs → (∀ k, v.ownBlock = some k → k ≠ g ∧ vD.ownBlock ≠ some k) → (w2.setCell ⟨g, 2, none⟩ (.slice (some ⟨g', 0, none⟩) D'.length c')).ownsRow 0 e 1 v n xs := fun hr hd =>
    own_kept hr fun k hk' hl => (set_block _ (hd k hk').1).trans (hk k hl (hd k hk').2)
  exact
    { c0 := (World.cell?_setCell_other _ _ _ _ (by simp)).trans (cc 0 _ h.c0)
      c1 := (World.cell?_setCell_other _ _ _ _ (by simp)).trans (cc 1 _ h.c1)
      c2 := World.cell?_setCell_same _ _ _ (cc 2 _ h.c2)
      f0 := ff 0 h.f0
      f1 := ff 1 h.f1
      f2 := ff 2 h.f2
      here := .inl h.here
      lt := fun k hf => by
        rcases hf with hf | hf
        · have := h.lt k hf; simp; omega
        · simpa using hf.2
      rL := rows h.rL fun k hk' => ⟨(h.fL k hk').2, h.dLD k hk'⟩
      rW := rows h.rW fun k hk' => ⟨(h.fW k hk').2, h.dWD k hk'⟩
      rD := own_kept ho fun k hk' _ => set_block _ (by have : g' = k := by simpa [Value.ownBlock] using hk'
                                                       omega)
      fL := fun k hk' => ⟨.inl (h.fL k hk').1, (h.fL k hk').2⟩
      fW := fun k hk' => ⟨.inl (h.fW k hk').1, (h.fW k hk').2⟩
      fD := fun k hk' => by
        have e : g' = k := by simpa [Value.ownBlock] using hk'
        subst e
        refine ⟨?_, hg'⟩
        rcases hat with e' | e'
        · exact .inl (h.fD _ e').1
        · exact .inr ⟨e', hg2⟩
      dLW := h.dLW
      dLD := fun k hk' e => hnew k (h.lt k (h.fL k hk').1) (h.dLD k hk') (by simpa [Value.ownBlock] using e)
      dWD := fun k hk' e => hnew k (h.lt k (h.fW k hk').1) (h.dWD k hk') (by simpa [Value.ownBlock] using e)
      el := fun i v x hv hx => by
        refine ((h.el i v x hv hx).kept (by simpa using hsz) fun k hk' hl => (set_block _ hk'.2.1).trans (hk k hl hk'.2.2.2.2)).wider fun k hk' => ⟨.inl hk'.1, hk'.2.1, hk'.2.2.1, hk'.2.2.2.1, fun e => hnew k (h.lt k hk'.1) hk'.2.2.2.2 (by simpa [Value.ownBlock] using e)⟩ }

theorem RefB.putL (h : RefB w g F L W D vL vW vD es) (hsz : w.heap.size ≤ w2.heap.size) (hk : ∀ k, k < w.heap.size → vL.ownBlock ≠ some k → w2.heap[k]? = w.heap[k]?) {g' c' n : Nat} {x : List Int} {v : Value} (hn : L.length + 1 = n)
    (ho : w2.ownsRow 0 31 1 (.slice (some ⟨g', 0, none⟩) n c') n (es ++ [v])) (hat : vL.ownBlock = some g' ∨ w.heap.size ≤ g')
    (hel : Elem w2 (fun k => w.heap.size ≤ k ∧ k < w2.heap.size ∧ k ≠ g') v x) :
    RefB (w2.setCell ⟨g, 0, none⟩ (.slice (some ⟨g', 0, none⟩) n c')) g (fun k => F k ∨ (w.heap.size ≤ k ∧ k < w2.heap.size)) (L ++ [x]) W D (.slice (some ⟨g', 0, none⟩) n c') vW vD (es ++ [v]) := by
  subst hn
  have hg := h.lt g h.here
  have hgb := hk g hg (fun e => (h.fL g e).2 rfl)
  have hg' : g' ≠ g := by
    rcases hat with e | e
    · exact (h.fL g' e).2
    · omega
  have hg2 := (own_lt ho (g := g') rfl).1
  have hnew : ∀ k, k < w.heap.size → vL.ownBlock ≠ some k → g' ≠ k := fun k hk' hn e => by
    rcases hat with e' | e'
    · exact hn (e ▸ e')
    · omega
  have hes : es.length = L.length := by have := h.rL.1; omega
  have cc : ∀ o v, w.cell? ⟨g, o, none⟩ = some v → w2.cell? ⟨g, o, none⟩ = some v := fun o v hc => (World.cell?_of_block (a := ⟨g, o, none⟩) hgb).trans hc
  have ff : ∀ o, w.frozen? ⟨g, o, none⟩ = false → (w2.setCell ⟨g, 0, none⟩ (.slice (some ⟨g', 0, none⟩) (L.length + 1) c')).frozen? ⟨g, o, none⟩ = false := fun o hc => by
    rw [World.frozen?_setCell]; exact (World.frozen?_of_block (a := ⟨g, o, none⟩) hgb).trans hc
  have rows : ∀ {e : TypeId} {n : Nat} {v : Value} {xs : List Value}, w.ownsRow 0 e 1 v n xs → (∀ k, v.ownBlock = some k → k ≠ g ∧ vL.ownBlock ≠ some k) → (w2.setCell ⟨g, 0, none⟩ (.slice (some ⟨g', 0, none⟩) (L.length + 1) c')).ownsRow 0 e 1 v n xs := fun hr hd =>
    own_kept hr fun k hk' hl => (set_block _ (hd k hk').1).trans (hk k hl (hd k hk').2)
  exact
    { c0 := World.cell?_setCell_same _ _ _ (cc 0 _ h.c0)
      c1 := (World.cell?_setCell_other _ _ _ _ (by simp)).trans (cc 1 _ h.c1)
      c2 := (World.cell?_setCell_other _ _ _ _ (by simp)).trans (cc 2 _ h.c2)
      f0 := ff 0 h.f0
      f1 := ff 1 h.f1
      f2 := ff 2 h.f2
      here := .inl h.here
      lt := fun k hf => by
        rcases hf with hf | hf
        · have := h.lt k hf; simp; omega
        · simpa using hf.2
      rL := by
        rw [List.length_append, List.length_singleton]
        exact own_kept ho fun k hk' _ => set_block _ (by have : g' = k := by simpa [Value.ownBlock] using hk'
                                                         omega)
      rW := rows h.rW fun k hk' => ⟨(h.fW k hk').2, fun e => h.dLW k e hk'⟩
      rD := rows h.rD fun k hk' => ⟨(h.fD k hk').2, fun e => h.dLD k e hk'⟩
      fL := fun k hk' => by
        have e : g' = k := by simpa [Value.ownBlock] using hk'
        subst e
        refine ⟨?_, hg'⟩
        rcases hat with e' | e'
        · exact .inl (h.fL _ e').1
        · exact .inr ⟨e', hg2⟩
      fW := fun k hk' => ⟨.inl (h.fW k hk').1, (h.fW k hk').2⟩
      fD := fun k hk' => ⟨.inl (h.fD k hk').1, (h.fD k hk').2⟩
      dLW := fun k hk' e => by
        have e' : g' = k := by simpa [Value.ownBlock] using hk'
        exact hnew k (h.lt k (h.fW k e).1) (fun e2 => h.dLW k e2 e) e'
      dLD := fun k hk' e => by
        have e' : g' = k := by simpa [Value.ownBlock] using hk'
        exact hnew k (h.lt k (h.fD k e).1) (fun e2 => h.dLD k e2 e) e'
      dWD := h.dWD
      el := fun i v' x' hv hx => by
        rcases Nat.lt_or_ge i L.length with hi | hi
        · rw [List.getElem?_append_left (by omega)] at hv
          rw [List.getElem?_append_left hi] at hx
          refine ((h.el i v' x' hv hx).kept (by simpa using hsz) fun k hk' hl => (set_block _ hk'.2.1).trans (hk k hl hk'.2.2.1)).wider fun k hk' => ⟨.inl hk'.1, hk'.2.1, fun e => hnew k (h.lt k hk'.1) hk'.2.2.1 (by simpa [Value.ownBlock] using e), hk'.2.2.2.1, hk'.2.2.2.2⟩
        · rw [List.getElem?_append_right (by omega), hes] at hv
          rw [List.getElem?_append_right hi] at hx
          have hi0 : i - L.length = 0 := by
            rcases Nat.eq_zero_or_pos (i - L.length) with h0 | h0
            · exact h0
            · rw [List.getElem?_eq_none (by simp; omega)] at hx; cases hx
          rw [hi0] at hv hx
          simp at hv hx
          subst hv hx
          refine (hel.kept (by simp) fun k hk' hl => set_block _ (by omega)).wider fun k hk' => ⟨.inr ⟨hk'.1, hk'.2.1⟩, by omega, fun e => hk'.2.2 (by simpa [Value.ownBlock] using e.symm), fun e => ?_, fun e => ?_⟩
          · have := h.lt k (h.fW k e).1; omega
          · have := h.lt k (h.fD k e).1; omega }
end

/-- where the page's own book is left -/
def RefTo (g : Nat) (F : Nat → Prop) (L : List (List Int)) (S : List (Int × Int)) (w w' : World) : Prop :=
  ∃ F' : Nat → Prop, IsRef w' g F' L S ∧ Touch F w w' ∧ ∀ k, F' k → F k ∨ w.heap.size ≤ k

end Go.Proofs.Ytnooippbdfobdaa
