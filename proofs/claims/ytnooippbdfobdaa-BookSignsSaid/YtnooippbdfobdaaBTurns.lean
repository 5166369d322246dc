/-
  Package book as landed: what is put into it.
-/
import Derived.Test.YtnooippbdfobdaaBLies
namespace Go.Proofs.Ytnooippbdfobdaa
open Go.RowKit Go.Maps Go.WideMaps

section
variable {w w' : World} {g : Nat} {F : Nat → Prop} {L : List (List Int)} {S : List (Int × Int)} {m : Option Nat} {vE : Value} {vs : List Value}

/-! ### signatures -/
theorem signed_app (S : List (Int × Int)) (a b who d : Int) : signedB (S ++ [(a, b)]) who d = (signedB S who d || (a == who && b == d)) := by simp [signedB]
theorem signed_far {k i : Nat} (h : i ≠ k) (S : List (Int × Int)) (a who : Int) : signedB (S ++ [(a, (k : Int) + 1)]) who ((i : Int) + 1) = signedB S who ((i : Int) + 1) := by
  rw [signed_app]
  have : ((k : Int) + 1 == (i : Int) + 1) = false := by simp; omega
  rw [this]
  simp
theorem signed_none (h : ∀ p ∈ S, 1 ≤ p.2 ∧ p.2 ≤ (L.length : Int)) {who d : Int} (hd : ¬ (1 ≤ d ∧ d ≤ (L.length : Int))) : signedB S who d = false := by
  unfold signedB
  rw [List.any_eq_false]
  intro p hp
  have := h p hp
  simp
  intro _ e
  subst e
  exact hd this
theorem sd_app (h : ∀ p ∈ S, 1 ≤ p.2 ∧ p.2 ≤ (L.length : Int)) {k : Nat} (hk : k < L.length) (who : Int) : ∀ p ∈ S ++ [(who, (k : Int) + 1)], 1 ≤ p.2 ∧ p.2 ≤ (L.length : Int) := fun p hp => by
  rcases List.mem_append.1 hp with hp | hp
  · exact h p hp
  · simp at hp
    subst hp
    exact ⟨by show (1 : Int) ≤ (k : Int) + 1; omega, by show (k : Int) + 1 ≤ (L.length : Int); omega⟩
/-- who has signed already changes nothing -/
theorem BookB.again (h : BookB w g F L S m vE vs) {who : Int} {k : Nat} (hk : k < L.length) (hs : signedB S who ((k : Int) + 1) = true) : BookB w g F L (S ++ [(who, (k : Int) + 1)]) m vE vs :=
  { h with
    sg := fun i v hv => by
      obtain ⟨xs, ho, hl, hc, hf⟩ := h.sg i v hv
      refine ⟨xs, ho, by simp; omega, fun y => ?_, hf⟩
      rw [hc y]
      by_cases hik : i = k
      · subst hik
        rw [signed_app]
        by_cases hy : who = y
        · subst hy
          rw [hs]; rfl
        · simp [hy]
      · rw [signed_far hik]
    sd := sd_app h.sd hk who }

/-- one more signer: its row is another, or longer, and its place in the entries is written -/
theorem BookB.signs {gE nL cE : Nat} (h : BookB w g F L S m (.slice (some ⟨gE, 0, none⟩) nL cE) vs) (hnL : L.length = nL) {nS : Nat} {w2 : World} {who : Int} {k : Nat} {v : Value} {xs : List Int} {g' c' : Nat} (hk : k < L.length) (hv : vs[k]? = some v) (hnS : xs.length = nS) (hl : nS ≤ S.length) (hc : ∀ y, xs.contains y = signedB S y ((k : Int) + 1))
    (hsz : w.heap.size ≤ w2.heap.size) (hfar : ∀ j, j < w.heap.size → v.ownBlock ≠ some j → w2.heap[j]? = w.heap[j]?)
    (ho : w2.ownsRow 0 3 1 (.slice (some ⟨g', 0, none⟩) (nS + 1) c') (nS + 1) (i64s (xs ++ [who]))) (hat : v.ownBlock = some g' ∨ w.heap.size ≤ g') :
    BookB (w2.setCell ⟨gE, k * 2 + 1, none⟩ (.slice (some ⟨g', 0, none⟩) (nS + 1) c')) g (fun j => F j ∨ (w.heap.size ≤ j ∧ j < w2.heap.size)) L (S ++ [(who, (k : Int) + 1)]) m (.slice (some ⟨gE, 0, none⟩) nL cE) (vs.set k (.slice (some ⟨g', 0, none⟩) (nS + 1) c')) := by
  subst hnL hnS
  obtain ⟨xs0, _, _, _, hf0⟩ := h.sg k v hv
  have hgE := h.fE gE rfl
  have hgEl := h.lt gE hgE.1
  have hgl := h.lt g h.here
  have hvg : v.ownBlock ≠ some g := fun e => (hf0 g e).2.1 rfl
  have hvE : v.ownBlock ≠ some gE := fun e => (hf0 gE e).2.2.1 rfl
  have hg2 := (own_lt ho (g := g') rfl).1
  have hg'E : g' ≠ gE := by
    rcases hat with e | e
    · intro e'; exact hvE (e' ▸ e)
    · omega
  have hg'g : g' ≠ g := by
    rcases hat with e | e
    · intro e'; exact hvg (e' ▸ e)
    · omega
  have hg'F : F g' ∨ (w.heap.size ≤ g' ∧ g' < w2.heap.size) := by
    rcases hat with e | e
    · exact .inl (hf0 g' e).1
    · exact .inr ⟨e, hg2⟩
  have hbg := hfar g hgl hvg
  have hbE := hfar gE hgEl hvE
  have ne : g ≠ gE := fun e => hgE.2 e.symm
  -- what lies in neither v's row nor the entries is as it was
  have far : ∀ j, j < w.heap.size → v.ownBlock ≠ some j → j ≠ gE → (w2.setCell ⟨gE, k * 2 + 1, none⟩ (.slice (some ⟨g', 0, none⟩) (xs.length + 1) c')).heap[j]? = w.heap[j]? := fun j hj h1 h2 => (set_block _ h2).trans (hfar j hj h1)
  have fg := far g hgl hvg ne
  have rE2 : w2.ownsRow 0 59 2 (.slice (some ⟨gE, 0, none⟩) L.length cE) L.length (ents L vs) := own_kept h.rE fun j hj _ => by cases hj; exact hbE
  refine
    { c0 := (World.cell?_of_block (a := ⟨g, 0, none⟩) fg).trans h.c0
      c1 := (World.cell?_of_block (a := ⟨g, 1, none⟩) fg).trans h.c1
      f0 := (World.frozen?_of_block (a := ⟨g, 0, none⟩) fg).trans h.f0
      f1 := (World.frozen?_of_block (a := ⟨g, 1, none⟩) fg).trans h.f1
      here := .inl h.here
      lt := fun j hf => by
        rcases hf with hf | hf
        · have := h.lt j hf; simp; omega
        · simpa using hf.2
      rE := ?_
      fE := fun j hj => ⟨.inl (h.fE j hj).1, (h.fE j hj).2⟩
      lv := by rw [List.length_set]; exact h.lv
      by_ := h.by_
      mp := h.mp.imp id fun ⟨bm, D, h1, h2, h3, h4, h5, h6⟩ => ⟨bm, D, h1, .inl h2, h3, h4, map_kept h5 (far bm (h.lt bm h2) (fun e => (hf0 bm e).2.2.2 h1) (fun e => h4 (by rw [e]; rfl))), h6⟩
      sg := fun i u hu => ?_
      ap := fun i j u u' hu hu' hij b hb hb' => ?_
      sd := sd_app h.sd hk who }
  · have := (rE2.stored (k * 2 + 1) (.slice (some ⟨g', 0, none⟩) (xs.length + 1) c')).1
    rw [ents_set h.lv]
    exact this
  · by_cases hik : i = k
    · subst hik
      rw [List.getElem?_set_self (by rw [h.lv]; exact hk)] at hu
      cases hu
      refine ⟨xs ++ [who], ?_, by simp; omega, fun y => ?_, fun b hb => ?_⟩
      · rw [List.length_append, List.length_singleton]
        exact own_kept ho fun b hb _ => set_block _ (by cases hb; exact hg'E)
      · rw [signed_app, ← hc y]
        by_cases hy : who = y
        · subst hy; simp
        · have h3 : ¬ y = who := fun e => hy e.symm
          simp [hy, h3]
      · cases hb
        refine ⟨hg'F, hg'g, fun e => hg'E (by cases e; rfl), fun e => ?_⟩
        rcases h.mp with ⟨e', _⟩ | ⟨bm, D, e', hF, _⟩
        · rw [e'] at e; cases e
        · rw [e'] at e
          cases e
          rcases hat with e2 | e2
          · exact (hf0 _ e2).2.2.2 e'
          · have hlt : g' < w.heap.size := h.lt _ hF
            omega
    · rw [List.getElem?_set_ne (Ne.symm hik)] at hu
      obtain ⟨ys, hyo, hyl, hyc, hyf⟩ := h.sg i u hu
      refine ⟨ys, own_kept hyo fun b hb hlt => far b hlt (fun e => h.ap i k u v hu hv hik b hb e) (fun e => (hyf b hb).2.2.1 (by rw [e]; rfl)), by simp; omega, fun y => by rw [signed_far hik, hyc y], fun b hb => ⟨.inl (hyf b hb).1, (hyf b hb).2⟩⟩
  · -- rows of unlike digests stay apart
    have other : ∀ (i : Nat) (u : Value), i ≠ k → vs[i]? = some u → u.ownBlock ≠ some g' := fun i u hik hu e => by
      rcases hat with e2 | e2
      · exact h.ap i k u v hu hv hik g' e e2
      · obtain ⟨_, _, _, _, hyf⟩ := h.sg i u hu
        have := h.lt _ (hyf g' e).1
        omega
    by_cases hik : i = k
    · subst hik
      rw [List.getElem?_set_self (by rw [h.lv]; exact hk)] at hu
      cases hu
      cases hb
      rw [List.getElem?_set_ne hij] at hu'
      exact other j u' (Ne.symm hij) hu' hb'
    · rw [List.getElem?_set_ne (Ne.symm hik)] at hu
      by_cases hjk : j = k
      · subst hjk
        rw [List.getElem?_set_self (by rw [h.lv]; exact hk)] at hu'
        cases hu'
        cases hb'
        exact other i u hik hu hb
      · rw [List.getElem?_set_ne (Ne.symm hjk)] at hu'
        exact h.ap i j u u' hu hu' hij b hb hb'

/-! ### digests -/
/-- the map is made: there was none -/
theorem BookB.mapped (h : BookB w g F L S none vE vs) : BookB ((w.alloc (.map #[] 0)).setCell ⟨g, 0, none⟩ (.map (some w.heap.size))) g (fun k => F k ∨ (w.heap.size ≤ k ∧ k < w.heap.size + 1)) L S (some w.heap.size) vE vs := by
  have hg := h.lt g h.here
  have ha : ∀ k, k < w.heap.size → (w.alloc (.map #[] 0)).heap[k]? = w.heap[k]? := fun k hk => Below.heap_alloc w _ k hk
  have far : ∀ k, k < w.heap.size → k ≠ g → ((w.alloc (.map #[] 0)).setCell ⟨g, 0, none⟩ (.map (some w.heap.size))).heap[k]? = w.heap[k]? := fun k hk hn => (set_block _ hn).trans (ha k hk)
  have cc : ∀ o v, w.cell? ⟨g, o, none⟩ = some v → (w.alloc (.map #[] 0)).cell? ⟨g, o, none⟩ = some v := fun o v hc => (World.cell?_of_block (a := ⟨g, o, none⟩) (ha g hg)).trans hc
  have ff : ∀ o, w.frozen? ⟨g, o, none⟩ = false → ((w.alloc (.map #[] 0)).setCell ⟨g, 0, none⟩ (.map (some w.heap.size))).frozen? ⟨g, o, none⟩ = false := fun o hc => by
    rw [World.frozen?_setCell]; exact (World.frozen?_of_block (a := ⟨g, o, none⟩) (ha g hg)).trans hc
  have hL : L = [] := by
    rcases h.mp with ⟨_, e⟩ | ⟨bm, D, e, _⟩
    · exact e
    · cases e
  exact
    { c0 := World.cell?_setCell_same _ _ _ (cc 0 _ h.c0)
      c1 := (World.cell?_setCell_other _ _ _ _ (by simp)).trans (cc 1 _ h.c1)
      f0 := ff 0 h.f0
      f1 := ff 1 h.f1
      here := .inl h.here
      lt := fun k hf => by
        rcases hf with hf | hf
        · have := h.lt k hf; simp; omega
        · simpa using hf.2
      rE := own_kept h.rE fun k hk hl => far k hl (h.fE k hk).2
      fE := fun k hk => ⟨.inl (h.fE k hk).1, (h.fE k hk).2⟩
      lv := h.lv
      by_ := h.by_
      mp := .inr ⟨w.heap.size, .map [], rfl, .inr ⟨by omega, by omega⟩, by omega, fun e => by have := h.lt _ (h.fE _ e).1; omega, by
        subst hL
        exact map_kept (World.ownsMap_made w _ _ _) (set_block _ (by omega)), by subst hL; exact digs_new⟩
      sg := fun i v hv => ((h.sg i v hv).kept fun k hk hl => far k hl hk.2.1).wider fun k hk hl => ⟨.inl hk.1, hk.2.1, hk.2.2.1, fun e => by
        have := h.lt k hk.1
        have e' : w.heap.size = k := by simpa using e
        omega⟩
      ap := h.ap
      sd := h.sd }

/-- one more entry, and its number in the map -/
theorem BookB.grows {bm : Nat} (h : BookB w g F L S (some bm) vE vs) {g' c' n : Nat} {x : List Int} (hn : L.length + 1 = n) (hx : Byts x) (hxn : x.length ≤ 1000000)
    (hsz : w.heap.size ≤ w'.heap.size) (hk : ∀ k, k < w.heap.size → k ≠ g → vE.ownBlock ≠ some k → k ≠ bm → w'.heap[k]? = w.heap[k]?)
    (c0 : w'.cell? ⟨g, 0, none⟩ = some (.map (some bm))) (c1 : w'.cell? ⟨g, 1, none⟩ = some (.slice (some ⟨g', 0, none⟩) n c')) (f0 : w'.frozen? ⟨g, 0, none⟩ = false) (f1 : w'.frozen? ⟨g, 1, none⟩ = false)
    (ho : w'.ownsRow 0 59 2 (.slice (some ⟨g', 0, none⟩) n c') n (ents L vs ++ [.string (strOfNums x), .slice none 0 0])) (hat : vE.ownBlock = some g' ∨ w.heap.size ≤ g')
    {D : DataW Unit} (hm : w'.ownsMap Try.prog 9 (plainElem Try.prog 3) bm n D) (hd : Digs D (L ++ [x])) :
    BookB w' g (fun k => F k ∨ (w.heap.size ≤ k ∧ k < w'.heap.size)) (L ++ [x]) S (some bm) (.slice (some ⟨g', 0, none⟩) n c') (vs ++ [.slice none 0 0]) := by
  subst hn
  obtain ⟨hbF, hbg, hbE⟩ : F bm ∧ bm ≠ g ∧ vE.ownBlock ≠ some bm := by
    rcases h.mp with ⟨e, _⟩ | ⟨b, D, e, h1, h2, h3, _⟩
    · cases e
    · cases e; exact ⟨h1, h2, h3⟩
  have hg2 := (own_lt ho (g := g') rfl).1
  have hg'g : g' ≠ g := by
    rcases hat with e | e
    · exact (h.fE g' e).2
    · have := h.lt g h.here; omega
  have hnew : ∀ k, k < w.heap.size → vE.ownBlock ≠ some k → g' ≠ k := fun k hk' hn e => by
    rcases hat with e' | e'
    · exact hn (e ▸ e')
    · omega
  exact
    { c0 := c0
      c1 := c1
      f0 := f0
      f1 := f1
      here := .inl h.here
      lt := fun k hf => by
        rcases hf with hf | hf
        · have := h.lt k hf; omega
        · exact hf.2
      rE := by
        rw [List.length_append, List.length_singleton, ents_snoc h.lv]
        exact ho
      fE := fun k hk' => by
        cases hk'
        refine ⟨?_, hg'g⟩
        rcases hat with e' | e'
        · exact .inl (h.fE _ e').1
        · exact .inr ⟨e', hg2⟩
      lv := by simp [h.lv]
      by_ := fun y hy => by
        rcases List.mem_append.1 hy with hy | hy
        · exact h.by_ y hy
        · simp at hy; subst hy; exact ⟨hx, hxn⟩
      mp := .inr ⟨bm, D, rfl, .inl hbF, hbg, fun e => hnew bm (h.lt bm hbF) hbE (by cases e; rfl), by rw [List.length_append, List.length_singleton]; exact hm, hd⟩
      sg := fun i v hv => by
        rcases Nat.lt_or_ge i L.length with hi | hi
        · rw [List.getElem?_append_left (by rw [h.lv]; exact hi)] at hv
          exact ((h.sg i v hv).kept fun k hk' hl => hk k hl hk'.2.1 hk'.2.2.1 (fun e => hk'.2.2.2 (by rw [e]))).wider fun k hk' hl => ⟨.inl hk'.1, hk'.2.1, fun e => hnew k (h.lt k hk'.1) hk'.2.2.1 (by cases e; rfl), hk'.2.2.2⟩
        · rw [List.getElem?_append_right (by rw [h.lv]; exact hi), h.lv] at hv
          have hi0 : i - L.length = 0 := by
            rcases Nat.eq_zero_or_pos (i - L.length) with h0 | h0
            · exact h0
            · rw [List.getElem?_eq_none (by simp; omega)] at hv; cases hv
          rw [hi0] at hv
          simp at hv
          subst hv
          refine ⟨[], World.ownsRow_nil _ _ _ _, Nat.zero_le _, fun who => ?_, fun k hk' => by simp [Value.ownBlock] at hk'⟩
          have : signedB S who ((i : Int) + 1) = false := signed_none h.sd (by omega)
          rw [this]; rfl
      ap := fun i j v v' hv hv' hij k hb hb' => by
        have old : ∀ (i : Nat) (v : Value), (vs ++ [Value.slice none 0 0])[i]? = some v → v.ownBlock = some k → vs[i]? = some v := fun i v hv hb => by
          rcases Nat.lt_or_ge i vs.length with hi | hi
          · rwa [List.getElem?_append_left hi] at hv
          · rw [List.getElem?_append_right hi] at hv
            rcases Nat.eq_zero_or_pos (i - vs.length) with h0 | h0
            · rw [h0] at hv
              simp at hv
              subst hv
              simp [Value.ownBlock] at hb
            · rw [List.getElem?_eq_none (by simp; omega)] at hv; cases hv
        exact h.ap i j v v' (old i v hv hb) (old j v' hv' hb') hij k hb hb'
      sd := fun p hp => by
        have := h.sd p hp
        rw [List.length_append, List.length_singleton]
        omega }
end

/-- []byte(s): a row that bears a mark behind its end -/
theorem text_wr (w : World) {x : List Int} {n : Nat} (hz : x.length = n) (hx : Byts x) (hn : n ≤ maxLen) : Wr (Lib.bytesWorld w 5 (strOfNums x)) w.heap.size (grownCap w (strOfNums x).size 0 5) n x := by
  subst hz
  have hsz : (strOfNums x).size = x.length := strOfNums_size x
  have hge : x.length ≤ grownCap w (strOfNums x).size 0 5 := by rw [← hsz]; exact grownCap_ge w _ 0 _
  have hbs : (Lib.bytesCells w 5 (strOfNums x)).size = grownCap w (strOfNums x).size 0 5 := by
    have hds : (strOfNums x).data.size = x.length := hsz
    simp only [Lib.bytesCells, Array.size_append, Array.size_map, Array.size_replicate, hds]
    rw [hsz] at hge ⊢
    omega
  have hb := Lib.bytesWorld_at_new w 5 (strOfNums x)
  refine ⟨rfl, hge, grownCap_le_maxLen w _ 0 _ (by rw [hsz]; exact hn), by rw [Lib.bytesWorld_size]; omega, fun i v hv => ?_, fun i hi => ?_, fun i hi => ?_⟩
  · have hi : i < x.length := by
      rcases Nat.lt_or_ge i x.length with h | h
      · exact h
      · rw [List.getElem?_eq_none (by rw [u8s_length]; exact h)] at hv; cases hv
    rw [Lib.bytesWorld_cell w _ _ i (by rw [hsz]; exact hi), ← hv, u8s_at hi]
    have h1 : ((strOfNums x).data.toList.getD i 0).toNat = ((x[i]?.getD 0) : Int) := by
      rw [strOfNums_data]
      have h2 := congrArg (fun l => l[i]?) (back_bytes hx)
      simp only [List.getElem?_map, List.getElem?_eq_getElem hi, Option.map_some, Option.some.injEq] at h2
      rw [List.getD_eq_getElem?_getD, List.getElem?_map, List.getElem?_eq_getElem hi]
      exact h2
    rw [h1]
  · simp only [World.cell?, hb]
    rw [Array.getElem?_eq_getElem (by rw [hbs]; exact hi)]
    rfl
  · rw [World.frozen?, hb]
    simp only [hbs]
    simp
    omega

end Go.Proofs.Ytnooippbdfobdaa
