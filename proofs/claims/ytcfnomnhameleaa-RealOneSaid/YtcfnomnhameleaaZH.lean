/-
  Package book as landed: what lies where.
-/
import Derived.Test.YtcfnomnhameleaaZG
import Derived.Maps.OwnSet
import Derived.StringKeys
import Derived.BigRegion
import Derived.ScopeJumps
import Derived.WalkMore
namespace Go.Proofs.Ytcfnomnhameleaa
open Go.RowKit Go.Maps Go.WideMaps

/-! ### keys -/
def keyB (x : List Int) : Lit := .string (x.map fun n => UInt8.ofNat n.toNat)
theorem str_keyed : Keyed Try.prog 9 := string_keyed Try.underlying9
theorem keyB_of {x : List Int} (hn : x.length ≤ maxLen) : keyOf Try.prog 9 (.string (strOfNums x)) = some (keyB x) := by
  rw [keyOf_string_mk Try.underlying9 (by rw [strOfNums_size]; exact hn)]
  rfl
theorem keyB_lit {x : List Int} (hn : x.length ≤ maxLen) : WideAt.IsKeyLit (keyB x) := str_keyed.key (keyB_of hn)
theorem back_bytes : ∀ {x : List Int}, Byts x → (x.map fun n => UInt8.ofNat n.toNat).map (fun u => (u.toNat : Int)) = x
  | [], _ => rfl
  | c :: x, h => by
    have hc := h c (by simp)
    have ih := back_bytes (x := x) fun d hd => h d (by simp [hd])
    simp only [List.map_cons]
    rw [ih]
    have h1 := hc.1
    have h2 := hc.2
    congr 1
    rw [UInt8.toNat_ofNat']
    omega
theorem keyB_inj {x y : List Int} (hx : Byts x) (hy : Byts y) (h : keyB x = keyB y) : x = y := by
  have h' := Lit.string.inj h
  rw [← back_bytes hx, ← back_bytes hy, h']
theorem keyB_ne {x y : List Int} (hx : Byts x) (hy : Byts y) (h : y ≠ x) : keyB y ≠ keyB x := fun e => h (keyB_inj hy hx e)
theorem int_zero (w : World) : (zeroValue 3).run Try.prog w = .ok (.int .i64 0) w := by kernel_rfl

/-- the map's reading: bytes' numbers -/
def Digs (D : DataW Unit) (L : List (List Int)) : Prop :=
  IsMap D ∧ ∀ x, Byts x → x.length ≤ maxLen → Maps.has D (keyB x) = decide (findB L x ≠ 0) ∧ D.atKey (keyB x) (.lit (.int .i64 0)) = .lit (.int .i64 (findB L x : Int))
theorem digs_new : Digs (.map []) [] := ⟨isMap_empty, fun _ _ _ => ⟨rfl, rfl⟩⟩
theorem findB_snoc {x y : List Int} : ∀ {L : List (List Int)}, findB (L ++ [x]) y = if findB L y = 0 then (if x = y then L.length + 1 else 0) else findB L y
  | [] => by by_cases h : x = y <;> simp [findB, h]
  | z :: L => by
    have ih := findB_snoc (x := x) (y := y) (L := L)
    show (if z = y then 1 else match findB (L ++ [x]) y with | 0 => 0 | n + 1 => n + 2) = _
    by_cases hz : z = y
    · simp [findB, hz]
    · rw [if_neg hz, ih]
      cases hf : findB L y with
      | zero =>
        by_cases hx : x = y <;> simp [findB, hz, hf, hx]
      | succ n => simp [findB, hz, hf]
theorem digs_put {D : DataW Unit} {L : List (List Int)} {x : List Int} (h : Digs D L) (hx : Byts x) (hn : x.length ≤ maxLen) (hf : findB L x = 0) : Digs (D.put (keyB x) (.lit (.int .i64 ((L.length + 1 : Nat) : Int)))) (L ++ [x]) := by
  refine ⟨h.1.put _ _, fun y hy hny => ?_⟩
  by_cases hxy : x = y
  · subst hxy
    rw [has_put_same h.1 (keyB_lit hn), atKey_put_same h.1 (keyB_lit hn), findB_snoc, if_pos hf, if_pos rfl]
    exact ⟨by simp, rfl⟩
  · have hne : keyB y ≠ keyB x := keyB_ne hx hy (Ne.symm hxy)
    rw [has_put_other hne, atKey_put_other hne, findB_snoc, if_neg hxy]
    obtain ⟨h1, h2⟩ := h.2 y hy hny
    rw [h1, h2]
    by_cases h0 : findB L y = 0 <;> simp [h0]

theorem digs_look {w : World} {bm n : Nat} {D : DataW Unit} {L : List (List Int)} {x : List Int} (hown : w.ownsMap Try.prog 9 (plainElem Try.prog 3) bm n D) (hd : Digs D L) (hx : Byts x) (hn : x.length ≤ maxLen) :
    (Instr.lookup 65 (.map (some bm)) (.string (strOfNums x)) true).run Try.prog w = .ok (.tuple #[.int .i64 (findB L x : Int), .bool (decide (findB L x ≠ 0))]) w := by
  obtain ⟨v, ps, hrun, hv⟩ := hown.look_ok str_keyed Try.underlying65 (int_zero w) (plainElem_int Try.underlying3 (by decide)) (keyB_of hn)
  obtain ⟨h1, h2⟩ := hd.2 x hx hn
  rw [h2] at hv
  obtain ⟨c, rfl, hc, _⟩ := plainElem_int_inv Try.underlying3 hv
  have hc' : (findB L x : Int) = c := by simpa using congrArg Prod.fst hc
  rw [hrun, h1, hc']
theorem nil_look {w : World} {x : List Int} (hn : x.length ≤ maxLen) :
    (Instr.lookup 65 (.map none) (.string (strOfNums x)) true).run Try.prog w = .ok (.tuple #[.int .i64 (findB [] x : Int), .bool (decide (findB [] x ≠ 0))]) w := by
  rw [Maps.look_nil true str_keyed Try.underlying65 (int_zero w) (keyB_of hn)]
  rfl

/-! ### entries -/
def ents : List (List Int) → List Value → List Value
  | x :: L, v :: vs => .string (strOfNums x) :: v :: ents L vs
  | _, _ => []
theorem ents_length : ∀ {L : List (List Int)} {vs : List Value}, vs.length = L.length → (ents L vs).length = L.length * 2
  | [], _, _ => by simp [ents]
  | _ :: _, [], h => by simp at h
  | _ :: L, _ :: vs, h => by
    have := ents_length (L := L) (vs := vs) (by simpa using h)
    simp only [ents, List.length_cons, this]
    omega
theorem ents_at : ∀ {L : List (List Int)} {vs : List Value} {k : Nat} {x : List Int} {v : Value}, L[k]? = some x → vs[k]? = some v → (ents L vs)[k * 2]? = some (.string (strOfNums x)) ∧ (ents L vs)[k * 2 + 1]? = some v
  | [], _, _, _, _, h, _ => by simp at h
  | _ :: _, [], _, _, _, _, h => by simp at h
  | y :: L, u :: vs, 0, x, v, h, h' => by
    simp at h h'
    subst h h'
    exact ⟨rfl, rfl⟩
  | y :: L, u :: vs, k + 1, x, v, h, h' => by
    have ih := ents_at (L := L) (vs := vs) (k := k) (by simpa using h) (by simpa using h')
    rw [show (k + 1) * 2 = k * 2 + 1 + 1 by omega]
    simp only [ents, List.getElem?_cons_succ]
    exact ih
theorem ents_snoc : ∀ {L : List (List Int)} {vs : List Value} {x : List Int} {v : Value}, vs.length = L.length → ents (L ++ [x]) (vs ++ [v]) = ents L vs ++ [.string (strOfNums x), v]
  | [], [], _, _, _ => rfl
  | [], _ :: _, _, _, h => by simp at h
  | _ :: _, [], _, _, h => by simp at h
  | y :: L, u :: vs, x, v, h => by
    have ih := ents_snoc (L := L) (vs := vs) (x := x) (v := v) (by simpa using h)
    simp only [List.cons_append, ents, ih]
theorem ents_set : ∀ {L : List (List Int)} {vs : List Value} {k : Nat} {v : Value}, vs.length = L.length → ents L (vs.set k v) = (ents L vs).set (k * 2 + 1) v
  | [], _, _, _, _ => by simp [ents]
  | _ :: _, [], _, _, h => by simp at h
  | y :: L, u :: vs, 0, v, _ => rfl
  | y :: L, u :: vs, k + 1, v, h => by
    have ih := ents_set (L := L) (vs := vs) (k := k) (v := v) (by simpa using h)
    rw [show (k + 1) * 2 + 1 = k * 2 + 1 + 1 + 1 by omega]
    simp only [List.set_cons_succ, ents, ih]

/-! ### a book -/
/-- who signed one digest: a row of theirs, in blocks of F -/
def Sgn (w : World) (F : Nat → Prop) (S : List (Int × Int)) (i : Nat) (v : Value) : Prop :=
  ∃ xs : List Int, w.ownsRow 0 3 1 v xs.length (i64s xs) ∧ xs.length ≤ S.length ∧ (∀ who, xs.contains who = signedB S who ((i : Int) + 1)) ∧ ∀ k, v.ownBlock = some k → F k

structure BookB (w : World) (g : Nat) (F : Nat → Prop) (L : List (List Int)) (S : List (Int × Int)) (m : Option Nat) (vE : Value) (vs : List Value) : Prop where
  c0 : w.cell? ⟨g, 0, none⟩ = some (.map m)
  c1 : w.cell? ⟨g, 1, none⟩ = some vE
  f0 : w.frozen? ⟨g, 0, none⟩ = false
  f1 : w.frozen? ⟨g, 1, none⟩ = false
  here : F g
  lt : ∀ k, F k → k < w.heap.size
  rE : w.ownsRow 0 78 2 vE L.length (ents L vs)
  fE : ∀ k, vE.ownBlock = some k → F k ∧ k ≠ g
  lv : vs.length = L.length
  by_ : ∀ x ∈ L, Byts x ∧ x.length ≤ 1000000
  mp : (m = none ∧ L = []) ∨ ∃ bm D, m = some bm ∧ F bm ∧ bm ≠ g ∧ vE.ownBlock ≠ some bm ∧ w.ownsMap Try.prog 9 (plainElem Try.prog 3) bm L.length D ∧ Digs D L
  sg : ∀ i v, vs[i]? = some v → Sgn w (fun k => F k ∧ k ≠ g ∧ vE.ownBlock ≠ some k ∧ m ≠ some k) S i v
  ap : ∀ (i j : Nat) (v v' : Value), vs[i]? = some v → vs[j]? = some v' → i ≠ j → ∀ k, v.ownBlock = some k → v'.ownBlock ≠ some k
  sd : ∀ p ∈ S, 1 ≤ p.2 ∧ p.2 ≤ (L.length : Int)

def IsBook (w : World) (g : Nat) (F : Nat → Prop) (L : List (List Int)) (S : List (Int × Int)) : Prop := ∃ m vE vs, BookB w g F L S m vE vs

section
variable {w w' : World} {g : Nat} {F F' : Nat → Prop} {L : List (List Int)} {S : List (Int × Int)} {m : Option Nat} {vE : Value} {vs : List Value}

theorem map_kept {b n : Nat} {D : DataW Unit} (h : w.ownsMap Try.prog 9 (plainElem Try.prog 3) b n D) (hk : w'.heap[b]? = w.heap[b]?) : w'.ownsMap Try.prog 9 (plainElem Try.prog 3) b n D := by
  obtain ⟨es, clock, hb, r⟩ := h
  exact ⟨es, clock, hk.trans hb, r⟩
theorem Sgn.kept {i : Nat} {v : Value} (h : Sgn w F S i v) (hk : ∀ k, F k → k < w.heap.size → w'.heap[k]? = w.heap[k]?) : Sgn w' F S i v := by
  obtain ⟨xs, ho, hl, hc, hf⟩ := h
  exact ⟨xs, own_kept ho fun k hb hlt => hk k (hf k hb) hlt, hl, hc, hf⟩
theorem Sgn.wider {i : Nat} {v : Value} (h : Sgn w F S i v) (hk : ∀ k, F k → k < w.heap.size → F' k) : Sgn w F' S i v := by
  obtain ⟨xs, ho, hl, hc, hf⟩ := h
  exact ⟨xs, ho, hl, hc, fun k hb => hk k (hf k hb) (own_lt ho hb).1⟩
theorem BookB.kept (h : BookB w g F L S m vE vs) (hs : w.heap.size ≤ w'.heap.size) (hk : ∀ k, F k → w'.heap[k]? = w.heap[k]?) : BookB w' g F L S m vE vs where
  c0 := (World.cell?_of_block (a := ⟨g, 0, none⟩) (hk g h.here)).trans h.c0
  c1 := (World.cell?_of_block (a := ⟨g, 1, none⟩) (hk g h.here)).trans h.c1
  f0 := (World.frozen?_of_block (a := ⟨g, 0, none⟩) (hk g h.here)).trans h.f0
  f1 := (World.frozen?_of_block (a := ⟨g, 1, none⟩) (hk g h.here)).trans h.f1
  here := h.here
  lt := fun k hf => Nat.lt_of_lt_of_le (h.lt k hf) hs
  rE := own_kept h.rE fun k hk' _ => hk k (h.fE k hk').1
  fE := h.fE
  lv := h.lv
  by_ := h.by_
  mp := h.mp.imp id fun ⟨bm, D, h1, h2, h3, h4, h5, h6⟩ => ⟨bm, D, h1, h2, h3, h4, map_kept h5 (hk bm h2), h6⟩
  sg := fun i v hv => (h.sg i v hv).kept fun k hk' _ => hk k hk'.1
  ap := h.ap
  sd := h.sd
theorem IsBook.kept (h : IsBook w g F L S) (hs : w.heap.size ≤ w'.heap.size) (hk : ∀ k, F k → w'.heap[k]? = w.heap[k]?) : IsBook w' g F L S := by
  obtain ⟨a, b, c, h⟩ := h
  exact ⟨a, b, c, h.kept hs hk⟩
theorem IsBook.lt (h : IsBook w g F L S) : ∀ k, F k → k < w.heap.size := by
  obtain ⟨a, b, c, h⟩ := h
  exact h.lt
theorem book_new (w : World) : IsBook (w.alloc (.cells #[.map none, .slice none 0 0] 68)) w.heap.size (fun k => k = w.heap.size) [] [] :=
  ⟨none, .slice none 0 0, [],
    { c0 := by rw [World.cell?_alloc_at _ _ _ _ rfl]; rfl
      c1 := by rw [World.cell?_alloc_at _ _ _ _ rfl]; rfl
      f0 := by rw [World.frozen?, heap_alloc_new]; simp
      f1 := by rw [World.frozen?, heap_alloc_new]; simp
      here := rfl
      lt := fun k hk => by subst hk; simp
      rE := World.ownsRow_nil _ _ _ _
      fE := fun k hk => by simp [Value.ownBlock] at hk
      lv := rfl
      by_ := fun x hx => by simp at hx
      mp := .inl ⟨rfl, rfl⟩
      sg := fun i v hv => by simp at hv
      ap := fun i j v v' hv => by simp at hv
      sd := fun p hp => by simp at hp }⟩
/-- what a look-up gives, whatever the map -/
theorem BookB.look (h : BookB w g F L S m vE vs) {x : List Int} (hx : Byts x) (hn : x.length ≤ maxLen) (d : Nat) :
    (Instr.lookup 65 (.map m) (.string (strOfNums x)) true).run Try.prog (w.drewN d) = .ok (.tuple #[.int .i64 (findB L x : Int), .bool (decide (findB L x ≠ 0))]) (w.drewN d) := by
  rcases h.mp with ⟨rfl, rfl⟩ | ⟨bm, D, rfl, _, _, _, ho, hd⟩
  · exact nil_look hn
  · exact digs_look (map_kept ho rfl) hd hx hn
end

end Go.Proofs.Ytcfnomnhameleaa
/-
  Package book as landed: what is put into it.
-/
namespace Go.Proofs.Ytcfnomnhameleaa
open Go.RowKit Go.Maps Go.WideMaps

section
variable {w w' : World} {g : Nat} {F : Nat → Prop} {L : List (List Int)} {S : List (Int × Int)} {m : Option Nat} {vE : Value} {vs : List Value}

/-! ### signatures -/
theorem signed_app (S : List (Int × Int)) (a b who d : Int) : signedB (S ++ [(a, b)]) who d = (signedB S who d || (a == who && b == d)) := by simp [signedB]
theorem signed_far {k i : Nat} (h : i ≠ k) (S : List (Int × Int)) (a who : Int) : signedB (S ++ [(a, (k : Int) + 1)]) who ((i : Int) + 1) = signedB S who ((i : Int) + 1) := by
  rw [signed_app]
  have : ((k : Int) + 1 == (i : Int) + 1) = false := by simp; omega
  rw [this]
  simp
theorem signed_none (h : ∀ p ∈ S, 1 ≤ p.2 ∧ p.2 ≤ (L.length : Int)) {who d : Int} (hd : ¬ (1 ≤ d ∧ d ≤ (L.length : Int))) : signedB S who d = false := by
  unfold signedB
  rw [List.any_eq_false]
  intro p hp
  have := h p hp
  simp
  intro _ e
  subst e
  exact hd this
theorem sd_app (h : ∀ p ∈ S, 1 ≤ p.2 ∧ p.2 ≤ (L.length : Int)) {k : Nat} (hk : k < L.length) (who : Int) : ∀ p ∈ S ++ [(who, (k : Int) + 1)], 1 ≤ p.2 ∧ p.2 ≤ (L.length : Int) := fun p hp => by
  rcases List.mem_append.1 hp with hp | hp
  · exact h p hp
  · simp at hp
    subst hp
    exact ⟨by show (1 : Int) ≤ (k : Int) + 1; omega, by show (k : Int) + 1 ≤ (L.length : Int); omega⟩
/-- who has signed already changes nothing -/
theorem BookB.again (h : BookB w g F L S m vE vs) {who : Int} {k : Nat} (hk : k < L.length) (hs : signedB S who ((k : Int) + 1) = true) : BookB w g F L (S ++ [(who, (k : Int) + 1)]) m vE vs :=
  { h with
    sg := fun i v hv => by
      obtain ⟨xs, ho, hl, hc, hf⟩ := h.sg i v hv
      refine ⟨xs, ho, by simp; omega, fun y => ?_, hf⟩
      rw [hc y]
      by_cases hik : i = k
      · subst hik
        rw [signed_app]
        by_cases hy : who = y
        · subst hy
          rw [hs]; rfl
        · simp [hy]
      · rw [signed_far hik]
    sd := sd_app h.sd hk who }

/-- one more signer: its row is another, or longer, and its place in the entries is written -/
theorem BookB.signs {gE nL cE : Nat} (h : BookB w g F L S m (.slice (some ⟨gE, 0, none⟩) nL cE) vs) (hnL : L.length = nL) {nS : Nat} {w2 : World} {who : Int} {k : Nat} {v : Value} {xs : List Int} {g' c' : Nat} (hk : k < L.length) (hv : vs[k]? = some v) (hnS : xs.length = nS) (hl : nS ≤ S.length) (hc : ∀ y, xs.contains y = signedB S y ((k : Int) + 1))
    (hsz : w.heap.size ≤ w2.heap.size) (hfar : ∀ j, j < w.heap.size → v.ownBlock ≠ some j → w2.heap[j]? = w.heap[j]?)
    (ho : w2.ownsRow 0 3 1 (.slice (some ⟨g', 0, none⟩) (nS + 1) c') (nS + 1) (i64s (xs ++ [who]))) (hat : v.ownBlock = some g' ∨ w.heap.size ≤ g') :
    BookB (w2.setCell ⟨gE, k * 2 + 1, none⟩ (.slice (some ⟨g', 0, none⟩) (nS + 1) c')) g (fun j => F j ∨ (w.heap.size ≤ j ∧ j < w2.heap.size)) L (S ++ [(who, (k : Int) + 1)]) m (.slice (some ⟨gE, 0, none⟩) nL cE) (vs.set k (.slice (some ⟨g', 0, none⟩) (nS + 1) c')) := by
  subst hnL hnS
  obtain ⟨xs0, _, _, _, hf0⟩ := h.sg k v hv
  have hgE := h.fE gE rfl
  have hgEl := h.lt gE hgE.1
  have hgl := h.lt g h.here
  have hvg : v.ownBlock ≠ some g := fun e => (hf0 g e).2.1 rfl
  have hvE : v.ownBlock ≠ some gE := fun e => (hf0 gE e).2.2.1 rfl
  have hg2 := (own_lt ho (g := g') rfl).1
  have hg'E : g' ≠ gE := by
    rcases hat with e | e
    · intro e'; exact hvE (e' ▸ e)
    · omega
  have hg'g : g' ≠ g := by
    rcases hat with e | e
    · intro e'; exact hvg (e' ▸ e)
    · omega
  have hg'F : F g' ∨ (w.heap.size ≤ g' ∧ g' < w2.heap.size) := by
    rcases hat with e | e
    · exact .inl (hf0 g' e).1
    · exact .inr ⟨e, hg2⟩
  have hbg := hfar g hgl hvg
  have hbE := hfar gE hgEl hvE
  have ne : g ≠ gE := fun e => hgE.2 e.symm
  -- what lies in neither v's row nor the entries is as it was
  have far : ∀ j, j < w.heap.size → v.ownBlock ≠ some j → j ≠ gE → (w2.setCell ⟨gE, k * 2 + 1, none⟩ (.slice (some ⟨g', 0, none⟩) (xs.length + 1) c')).heap[j]? = w.heap[j]? := fun j hj h1 h2 => (set_block _ h2).trans (hfar j hj h1)
  have fg := far g hgl hvg ne
  have rE2 : w2.ownsRow 0 78 2 (.slice (some ⟨gE, 0, none⟩) L.length cE) L.length (ents L vs) := own_kept h.rE fun j hj _ => by cases hj; exact hbE
  refine
    { c0 := (World.cell?_of_block (a := ⟨g, 0, none⟩) fg).trans h.c0
      c1 := (World.cell?_of_block (a := ⟨g, 1, none⟩) fg).trans h.c1
      f0 := (World.frozen?_of_block (a := ⟨g, 0, none⟩) fg).trans h.f0
      f1 := (World.frozen?_of_block (a := ⟨g, 1, none⟩) fg).trans h.f1
      here := .inl h.here
      lt := fun j hf => by
        rcases hf with hf | hf
        · have := h.lt j hf; simp; omega
        · simpa using hf.2
      rE := ?_
      fE := fun j hj => ⟨.inl (h.fE j hj).1, (h.fE j hj).2⟩
      lv := by rw [List.length_set]; exact h.lv
      by_ := h.by_
      mp := h.mp.imp id fun ⟨bm, D, h1, h2, h3, h4, h5, h6⟩ => ⟨bm, D, h1, .inl h2, h3, h4, map_kept h5 (far bm (h.lt bm h2) (fun e => (hf0 bm e).2.2.2 h1) (fun e => h4 (by rw [e]; rfl))), h6⟩
      sg := fun i u hu => ?_
      ap := fun i j u u' hu hu' hij b hb hb' => ?_
      sd := sd_app h.sd hk who }
  · have := (rE2.stored (k * 2 + 1) (.slice (some ⟨g', 0, none⟩) (xs.length + 1) c')).1
    rw [ents_set h.lv]
    exact this
  · by_cases hik : i = k
    · subst hik
      rw [List.getElem?_set_self (by rw [h.lv]; exact hk)] at hu
      cases hu
      refine ⟨xs ++ [who], ?_, by simp; omega, fun y => ?_, fun b hb => ?_⟩
      · rw [List.length_append, List.length_singleton]
        exact own_kept ho fun b hb _ => set_block _ (by cases hb; exact hg'E)
      · rw [signed_app, ← hc y]
        by_cases hy : who = y
        · subst hy; simp
        · have h3 : ¬ y = who := fun e => hy e.symm
          simp [hy, h3]
      · cases hb
        refine ⟨hg'F, hg'g, fun e => hg'E (by cases e; rfl), fun e => ?_⟩
        rcases h.mp with ⟨e', _⟩ | ⟨bm, D, e', hF, _⟩
        · rw [e'] at e; cases e
        · rw [e'] at e
          cases e
          rcases hat with e2 | e2
          · exact (hf0 _ e2).2.2.2 e'
          · have hlt : g' < w.heap.size := h.lt _ hF
            omega
    · rw [List.getElem?_set_ne (Ne.symm hik)] at hu
      obtain ⟨ys, hyo, hyl, hyc, hyf⟩ := h.sg i u hu
      refine ⟨ys, own_kept hyo fun b hb hlt => far b hlt (fun e => h.ap i k u v hu hv hik b hb e) (fun e => (hyf b hb).2.2.1 (by rw [e]; rfl)), by simp; omega, fun y => by rw [signed_far hik, hyc y], fun b hb => ⟨.inl (hyf b hb).1, (hyf b hb).2⟩⟩
  · -- rows of unlike digests stay apart
    have other : ∀ (i : Nat) (u : Value), i ≠ k → vs[i]? = some u → u.ownBlock ≠ some g' := fun i u hik hu e => by
      rcases hat with e2 | e2
      · exact h.ap i k u v hu hv hik g' e e2
      · obtain ⟨_, _, _, _, hyf⟩ := h.sg i u hu
        have := h.lt _ (hyf g' e).1
        omega
    by_cases hik : i = k
    · subst hik
      rw [List.getElem?_set_self (by rw [h.lv]; exact hk)] at hu
      cases hu
      cases hb
      rw [List.getElem?_set_ne hij] at hu'
      exact other j u' (Ne.symm hij) hu' hb'
    · rw [List.getElem?_set_ne (Ne.symm hik)] at hu
      by_cases hjk : j = k
      · subst hjk
        rw [List.getElem?_set_self (by rw [h.lv]; exact hk)] at hu'
        cases hu'
        cases hb'
        exact other i u hik hu hb
      · rw [List.getElem?_set_ne (Ne.symm hjk)] at hu'
        exact h.ap i j u u' hu hu' hij b hb hb'

/-! ### digests -/
/-- the map is made: there was none -/
theorem BookB.mapped (h : BookB w g F L S none vE vs) : BookB ((w.alloc (.map #[] 0)).setCell ⟨g, 0, none⟩ (.map (some w.heap.size))) g (fun k => F k ∨ (w.heap.size ≤ k ∧ k < w.heap.size + 1)) L S (some w.heap.size) vE vs := by
  have hg := h.lt g h.here
  have ha : ∀ k, k < w.heap.size → (w.alloc (.map #[] 0)).heap[k]? = w.heap[k]? := fun k hk => Below.heap_alloc w _ k hk
  have far : ∀ k, k < w.heap.size → k ≠ g → ((w.alloc (.map #[] 0)).setCell ⟨g, 0, none⟩ (.map (some w.heap.size))).heap[k]? = w.heap[k]? := fun k hk hn => (set_block _ hn).trans (ha k hk)
  have cc : ∀ o v, w.cell? ⟨g, o, none⟩ = some v → (w.alloc (.map #[] 0)).cell? ⟨g, o, none⟩ = some v := fun o v hc => (World.cell?_of_block (a := ⟨g, o, none⟩) (ha g hg)).trans hc
  have ff : ∀ o, w.frozen? ⟨g, o, none⟩ = false → ((w.alloc (.map #[] 0)).setCell ⟨g, 0, none⟩ (.map (some w.heap.size))).frozen? ⟨g, o, none⟩ = false := fun o hc => by
    rw [World.frozen?_setCell]; exact (World.frozen?_of_block (a := ⟨g, o, none⟩) (ha g hg)).trans hc
  have hL : L = [] := by
    rcases h.mp with ⟨_, e⟩ | ⟨bm, D, e, _⟩
    · exact e
    · cases e
  exact
    { c0 := World.cell?_setCell_same _ _ _ (cc 0 _ h.c0)
      c1 := (World.cell?_setCell_other _ _ _ _ (by simp)).trans (cc 1 _ h.c1)
      f0 := ff 0 h.f0
      f1 := ff 1 h.f1
      here := .inl h.here
      lt := fun k hf => by
        rcases hf with hf | hf
        · have := h.lt k hf; simp; omega
        · simpa using hf.2
      rE := own_kept h.rE fun k hk hl => far k hl (h.fE k hk).2
      fE := fun k hk => ⟨.inl (h.fE k hk).1, (h.fE k hk).2⟩
      lv := h.lv
      by_ := h.by_
      mp := .inr ⟨w.heap.size, .map [], rfl, .inr ⟨by omega, by omega⟩, by omega, fun e => by have := h.lt _ (h.fE _ e).1; omega, by
        subst hL
        exact map_kept (World.ownsMap_made w _ _ _) (set_block _ (by omega)), by subst hL; exact digs_new⟩
      sg := fun i v hv => ((h.sg i v hv).kept fun k hk hl => far k hl hk.2.1).wider fun k hk hl => ⟨.inl hk.1, hk.2.1, hk.2.2.1, fun e => by
        have := h.lt k hk.1
        have e' : w.heap.size = k := by simpa using e
        omega⟩
      ap := h.ap
      sd := h.sd }

/-- one more entry, and its number in the map -/
theorem BookB.grows {bm : Nat} (h : BookB w g F L S (some bm) vE vs) {g' c' n : Nat} {x : List Int} (hn : L.length + 1 = n) (hx : Byts x) (hxn : x.length ≤ 1000000)
    (hsz : w.heap.size ≤ w'.heap.size) (hk : ∀ k, k < w.heap.size → k ≠ g → vE.ownBlock ≠ some k → k ≠ bm → w'.heap[k]? = w.heap[k]?)
    (c0 : w'.cell? ⟨g, 0, none⟩ = some (.map (some bm))) (c1 : w'.cell? ⟨g, 1, none⟩ = some (.slice (some ⟨g', 0, none⟩) n c')) (f0 : w'.frozen? ⟨g, 0, none⟩ = false) (f1 : w'.frozen? ⟨g, 1, none⟩ = false)
    (ho : w'.ownsRow 0 78 2 (.slice (some ⟨g', 0, none⟩) n c') n (ents L vs ++ [.string (strOfNums x), .slice none 0 0])) (hat : vE.ownBlock = some g' ∨ w.heap.size ≤ g')
    {D : DataW Unit} (hm : w'.ownsMap Try.prog 9 (plainElem Try.prog 3) bm n D) (hd : Digs D (L ++ [x])) :
    BookB w' g (fun k => F k ∨ (w.heap.size ≤ k ∧ k < w'.heap.size)) (L ++ [x]) S (some bm) (.slice (some ⟨g', 0, none⟩) n c') (vs ++ [.slice none 0 0]) := by
  subst hn
  obtain ⟨hbF, hbg, hbE⟩ : F bm ∧ bm ≠ g ∧ vE.ownBlock ≠ some bm := by
    rcases h.mp with ⟨e, _⟩ | ⟨b, D, e, h1, h2, h3, _⟩
    · cases e
    · cases e; exact ⟨h1, h2, h3⟩
  have hg2 := (own_lt ho (g := g') rfl).1
  have hg'g : g' ≠ g := by
    rcases hat with e | e
    · exact (h.fE g' e).2
    · have := h.lt g h.here; omega
  have hnew : ∀ k, k < w.heap.size → vE.ownBlock ≠ some k → g' ≠ k := fun k hk' hn e => by
    rcases hat with e' | e'
    · exact hn (e ▸ e')
    · omega
  exact
    { c0 := c0
      c1 := c1
      f0 := f0
      f1 := f1
      here := .inl h.here
      lt := fun k hf => by
        rcases hf with hf | hf
        · have := h.lt k hf; omega
        · exact hf.2
      rE := by
        rw [List.length_append, List.length_singleton, ents_snoc h.lv]
        exact ho
      fE := fun k hk' => by
        cases hk'
        refine ⟨?_, hg'g⟩
        rcases hat with e' | e'
        · exact .inl (h.fE _ e').1
        · exact .inr ⟨e', hg2⟩
      lv := by simp [h.lv]
      by_ := fun y hy => by
        rcases List.mem_append.1 hy with hy | hy
        · exact h.by_ y hy
        · simp at hy; subst hy; exact ⟨hx, hxn⟩
      mp := .inr ⟨bm, D, rfl, .inl hbF, hbg, fun e => hnew bm (h.lt bm hbF) hbE (by cases e; rfl), by rw [List.length_append, List.length_singleton]; exact hm, hd⟩
      sg := fun i v hv => by
        rcases Nat.lt_or_ge i L.length with hi | hi
        · rw [List.getElem?_append_left (by rw [h.lv]; exact hi)] at hv
          exact ((h.sg i v hv).kept fun k hk' hl => hk k hl hk'.2.1 hk'.2.2.1 (fun e => hk'.2.2.2 (by rw [e]))).wider fun k hk' hl => ⟨.inl hk'.1, hk'.2.1, fun e => hnew k (h.lt k hk'.1) hk'.2.2.1 (by cases e; rfl), hk'.2.2.2⟩
        · rw [List.getElem?_append_right (by rw [h.lv]; exact hi), h.lv] at hv
          have hi0 : i - L.length = 0 := by
            rcases Nat.eq_zero_or_pos (i - L.length) with h0 | h0
            · exact h0
            · rw [List.getElem?_eq_none (by simp; omega)] at hv; cases hv
          rw [hi0] at hv
          simp at hv
          subst hv
          refine ⟨[], World.ownsRow_nil _ _ _ _, Nat.zero_le _, fun who => ?_, fun k hk' => by simp [Value.ownBlock] at hk'⟩
          have : signedB S who ((i : Int) + 1) = false := signed_none h.sd (by omega)
          rw [this]; rfl
      ap := fun i j v v' hv hv' hij k hb hb' => by
        have old : ∀ (i : Nat) (v : Value), (vs ++ [Value.slice none 0 0])[i]? = some v → v.ownBlock = some k → vs[i]? = some v := fun i v hv hb => by
          rcases Nat.lt_or_ge i vs.length with hi | hi
          · rwa [List.getElem?_append_left hi] at hv
          · rw [List.getElem?_append_right hi] at hv
            rcases Nat.eq_zero_or_pos (i - vs.length) with h0 | h0
            · rw [h0] at hv
              simp at hv
              subst hv
              simp [Value.ownBlock] at hb
            · rw [List.getElem?_eq_none (by simp; omega)] at hv; cases hv
        exact h.ap i j v v' (old i v hv hb) (old j v' hv' hb') hij k hb hb'
      sd := fun p hp => by
        have := h.sd p hp
        rw [List.length_append, List.length_singleton]
        omega }
end

/-- []byte(s): a row that bears a mark behind its end -/
theorem text_wr (w : World) {x : List Int} {n : Nat} (hz : x.length = n) (hx : Byts x) (hn : n ≤ maxLen) : Wr (Lib.bytesWorld w 5 (strOfNums x)) w.heap.size (grownCap w (strOfNums x).size 0 5) n x := by
  subst hz
  have hsz : (strOfNums x).size = x.length := strOfNums_size x
  have hge : x.length ≤ grownCap w (strOfNums x).size 0 5 := by rw [← hsz]; exact grownCap_ge w _ 0 _
  have hbs : (Lib.bytesCells w 5 (strOfNums x)).size = grownCap w (strOfNums x).size 0 5 := by
    have hds : (strOfNums x).data.size = x.length := hsz
    simp only [Lib.bytesCells, Array.size_append, Array.size_map, Array.size_replicate, hds]
    rw [hsz] at hge ⊢
    omega
  have hb := Lib.bytesWorld_at_new w 5 (strOfNums x)
  refine ⟨rfl, hge, grownCap_le_maxLen w _ 0 _ (by rw [hsz]; exact hn), by rw [Lib.bytesWorld_size]; omega, fun i v hv => ?_, fun i hi => ?_, fun i hi => ?_⟩
  · have hi : i < x.length := by
      rcases Nat.lt_or_ge i x.length with h | h
      · exact h
      · rw [List.getElem?_eq_none (by rw [u8s_length]; exact h)] at hv; cases hv
    rw [Lib.bytesWorld_cell w _ _ i (by rw [hsz]; exact hi), ← hv, u8s_at hi]
    have h1 : ((strOfNums x).data.toList.getD i 0).toNat = ((x[i]?.getD 0) : Int) := by
      rw [strOfNums_data]
      have h2 := congrArg (fun l => l[i]?) (back_bytes hx)
      simp only [List.getElem?_map, List.getElem?_eq_getElem hi, Option.map_some, Option.some.injEq] at h2
      rw [List.getD_eq_getElem?_getD, List.getElem?_map, List.getElem?_eq_getElem hi]
      exact h2
    rw [h1]
  · simp only [World.cell?, hb]
    rw [Array.getElem?_eq_getElem (by rw [hbs]; exact hi)]
    rfl
  · rw [World.frozen?, hb]
    simp only [hbs]
    simp
    omega

end Go.Proofs.Ytcfnomnhameleaa
/-
  Package book as landed: the calls that read.
-/
namespace Go.Proofs.Ytcfnomnhameleaa
open Go.RowKit Go.Maps Go.WideMaps

theorem pnew_any (w : World) : Calls Try.prog 16 #[] w fun e w' => ∃ g F, e = .returned (.pointer (some ⟨g, 0, none⟩)) ∧ IsBook w' g F [] [] ∧ (∀ k, F k → w.heap.size ≤ k) ∧ Below w.heap.size w w' := by
  go_enter Try.func16, Try.ntmps16
  go_wp2
  go_ret
  exact ⟨_, _, rfl, book_new w, fun k hk => by rw [hk]; exact Nat.le_refl _, (Below.refl _ _).alloc (Nat.le_refl _) _⟩

theorem pcount_cell (g n c : Nat) (A : Option Addr) (w : World) (c1 : w.cell? ⟨g, 1, none⟩ = some (.slice A n c)) :
    Calls Try.prog 27 #[.pointer (some ⟨g, 0, none⟩)] w fun e w' => e = .returned (.int .i64 n) ∧ w = w' := by
  go_enter Try.func27, Try.ntmps27
  go_wp2
  go_ret
  exact ⟨rfl, rfl⟩

theorem phas_cell (b : Bool) (g n c : Nat) (d : Int) (A : Option Addr) (w : World) (c1 : w.cell? ⟨g, 1, none⟩ = some (.slice A n c)) (hb : decide (1 ≤ d ∧ d ≤ (n : Int)) = b) :
    Calls Try.prog 42 #[.pointer (some ⟨g, 0, none⟩), .int .i64 d] w fun e w' => e = .returned (.bool b) ∧ w = w' := by
  by_cases h1 : 1 ≤ d
  · by_cases h2 : d ≤ (n : Int)
    · have hb' : b = true := by rw [← hb]; simp [h1, h2]
      subst hb'
      clear hb
      go_enter Try.func42, Try.ntmps42
      go_wp2_with fail
      refine (pcount_cell g n c A _ c1).mono ?_
      rintro e w' ⟨rfl, rfl⟩
      go_wp2_with fail
      go_ret
      exact ⟨rfl, rfl⟩
    · have hb' : b = false := by rw [← hb]; simp [h2]
      subst hb'
      clear hb
      go_enter Try.func42, Try.ntmps42
      go_wp2_with fail
      refine (pcount_cell g n c A _ c1).mono ?_
      rintro e w' ⟨rfl, rfl⟩
      go_wp2_with fail
      go_ret
      exact ⟨by simp [h2], rfl⟩
  · have hb' : b = false := by rw [← hb]; simp [h1]
    subst hb'
    clear hb
    go_enter Try.func42, Try.ntmps42
    go_wp2_with fail
    go_ret
    exact ⟨rfl, rfl⟩

/-- string(b) of some bytes, none too -/
theorem conv_any (w : World) {A : Option Addr} {n : Nat} {zs : List Int} (hz : zs.length = n) (hr : Rd w A (u8s zs)) (c : Nat) :
    (convert 60 9 (.slice A n c)).run Try.prog w = .ok (.string (strOfNums zs)) w := by
  subst hz
  rcases Nat.eq_zero_or_pos zs.length with h0 | h0
  · have hn : zs = [] := List.eq_nil_of_length_eq_zero h0
    subst hn
    cases A with
    | none => exact run_convert_bytes_nil (P := Try.prog) w 60 5 Try.underlying60 Try.underlying5 0 c 9 Try.underlying9
    | some a =>
      have hl : (loadCells a 0).run Try.prog w = .ok (([] : List Int).map (Value.int .u8)).toArray w := run_loadCells_list (P := Try.prog) w a [] (fun j v hj => by simp at hj)
      show (convert 60 9 (.slice (some a) 0 c)).run Try.prog w = _
      rw [run_convert_bytes_string w 60 9 5 (some a) 0 c Try.underlying60 Try.underlying5 Try.underlying9, run_bytesToString w a 0 c [] hl]
      rfl
  · obtain ⟨b, off, rfl, _, hc⟩ := hr.open_ (by rw [u8s_length]; exact h0)
    refine run_convert_bytes_arg w 60 5 Try.underlying60 Try.underlying5 b off zs.length c zs rfl (fun i hi => ?_) 9 Try.underlying9
    rw [hc i _ (u8s_at hi)]
    rw [List.getD_eq_getElem?_getD]

/-- what Find hands back -/
def findV (k : Nat) : Value := if k = 0 then .tuple #[.int .i64 0, .int .i64 3] else .tuple #[.int .i64 (k : Int), .int .i64 0]

theorem pfind_any {F : Nat → Prop} (g : Nat) (L : List (List Int)) (S : List (Int × Int)) (A : Option Addr) (c n : Nat) (x : List Int) (w : World) (h : IsBook w g F L S) (hG : Given w F A c n x) :
    Calls Try.prog 56 #[.pointer (some ⟨g, 0, none⟩), .slice A n c] w fun e w' => e = .returned (findV (findB L x)) ∧ ∃ d, w' = w.drewN d := by
  obtain ⟨m, vE, vs, h⟩ := h
  have c0 := h.c0
  have hcv : ∀ d, (convert 60 9 (.slice A n c)).run Try.prog (w.drewN d) = .ok (.string (strOfNums x)) (w.drewN d) := fun d => conv_any _ hG.hz (hG.hr.drewN d) c
  have hlk := h.look hG.hy (by have := hG.hn; have := hG.hz; unfold maxLen; omega)
  by_cases h0 : findB L x = 0
  · rw [h0] at hlk
    rw [h0]
    simp only [ne_eq, not_true_eq_false, decide_false, Int.ofNat_zero] at hlk
    clear h hG h0
    go_enter Try.func56, Try.ntmps56
    go_wp2_with fail
    go_quiet (fail)
    go_wp2_with fail
    go_ret2
    exact ⟨rfl, _, rfl⟩
  · obtain ⟨k, hk⟩ : ∃ k, findB L x = k + 1 := ⟨findB L x - 1, by omega⟩
    rw [hk] at hlk
    rw [hk]
    have hd : decide (k + 1 ≠ 0) = true := by simp
    simp only [hd] at hlk
    clear h hG h0 hk hd
    go_enter Try.func56, Try.ntmps56
    go_wp2_with fail
    go_quiet (fail)
    go_wp2_with fail
    go_ret2
    exact ⟨rfl, _, rfl⟩

/-- what Index hands back -/
def IdxOf (xs : List Int) (y r : Int) : Prop := decide (0 ≤ r) = xs.contains y
theorem pindex_any (A : Option Addr) (n c : Nat) (xs : List Int) (y : Int) (w : World) (hz : xs.length = n) (hr : Rd w A (i64s xs)) (hn : n ≤ 1000000) :
    Calls Try.prog 105 #[.slice A n c, .int .i64 y] w fun e w' => (∃ r : Int, e = .returned (.int .i64 r) ∧ IdxOf xs y r) ∧ w = w' := by
  have HZ := Lib.hid hz
  clear hz
  go_enter Try.func105, Try.ntmps105
  go_wp2
  go_loop [8] (fun i => ∃ k : Nat, i = .int .i64 k ∧ k ≤ n ∧ Hid ((xs.take k).contains y = false)) (fun i => n - (intOf i).toNat)
  case atStart => exact ⟨0, rfl, by omega, by simp [Hid]⟩
  case round =>
    obtain ⟨k, rfl, hk, HC⟩ := hrel
    by_cases hlt : k < n
    · obtain ⟨b, off, rfl, hbl, hcell⟩ := hr.open_ (by rw [i64s_length, HZ.out]; omega)
      obtain ⟨z, hzk⟩ : ∃ z, xs[k]? = some z := ⟨xs[k]'(by rw [HZ.out]; exact hlt), by simp [HZ.out, hlt]⟩
      have k1 := hcell k (.int .i64 z) (by simp [i64s, hzk])
      have HK := Lib.hid hzk
      have i0 : (0 : Int) ≤ (k : Int) := by omega
      have i1 : (k : Int) < (n : Int) := by omega
      clear hcell hzk
      by_cases e1 : y = z
      · have HT : Hid (xs.contains y = true) := by
          show xs.contains y = true
          rw [e1]
          simp only [List.contains_iff_mem]
          exact List.mem_of_getElem? HK.out
        have j1 : (y == z) = true := by simp [e1]
        clear e1
        go_wp2
        go_ret
        exact ⟨⟨k, rfl, by unfold IdxOf; rw [HT.out]; simp⟩, rfl⟩
      · have j1 : (y == z) = false := by simp [e1]
        have HN : Hid ((xs.take (k + 1)).contains y = false) := by
          show (xs.take (k + 1)).contains y = false
          rw [take_next HK.out]
          have h1 := HC.out
          have h2 : ¬ y = z := e1
          simp only [List.contains_eq_any_beq, List.any_append, List.any_cons, List.any_nil, Bool.or_false] at h1 ⊢
          rw [h1]
          simp [h2]
        clear e1
        go_wp2
        go_round
        case rel => exact ⟨k + 1, by go_num, by omega, HN.out⟩
        case measure => simp [intOf]; omega
    · have i1 : ¬ ((k : Int) < (n : Int)) := by omega
      have HT : Hid (xs.contains y = false) := by
        have := HC.out
        rwa [List.take_of_length_le (by rw [HZ.out]; omega)] at this
      go_wp2
      go_ret
      exact ⟨⟨-1, rfl, by unfold IdxOf; rw [HT.out]; rfl⟩, rfl⟩

theorem pcontains_any (b : Bool) (A : Option Addr) (n c : Nat) (xs : List Int) (y : Int) (w : World) (hb : xs.contains y = b) (hz : xs.length = n) (hr : Rd w A (i64s xs)) (hn : n ≤ 1000000) :
    Calls Try.prog 93 #[.slice A n c, .int .i64 y] w fun e w' => e = .returned (.bool b) ∧ w = w' := by
  have HB := Lib.hid hb
  clear hb
  go_enter Try.func93, Try.ntmps93
  go_wp2_with fail
  refine (pindex_any A n c xs y _ hz hr hn).mono ?_
  rintro e w' ⟨⟨r, rfl, hd⟩, rfl⟩
  have HD := Lib.hid hd
  clear hd
  go_wp2_with fail
  go_ret
  exact ⟨by have h1 := HB.out; have h2 : decide (0 ≤ r) = xs.contains y := HD.out; rw [← h1, ← h2]; simp, rfl⟩

/-- an entry: its bytes, its signers' row -/
theorem BookB.entry {w : World} {g : Nat} {F : Nat → Prop} {L : List (List Int)} {S : List (Int × Int)} {m : Option Nat} {vE : Value} {vs : List Value} (h : BookB w g F L S m vE vs) {k : Nat} (hk : k < L.length) :
    ∃ gE cE x v, vE = .slice (some ⟨gE, 0, none⟩) L.length cE ∧ L[k]? = some x ∧ vs[k]? = some v ∧ w.cell? ⟨gE, k * 2, none⟩ = some (.string (strOfNums x)) ∧ w.cell? ⟨gE, k * 2 + 1, none⟩ = some v ∧ w.frozen? ⟨gE, k * 2 + 1, none⟩ = false ∧ gE < w.heap.size ∧ gE ≠ g := by
  obtain ⟨gE, cE, rfl, _, hlt⟩ := h.rE.form (by omega)
  obtain ⟨x, hx⟩ : ∃ x, L[k]? = some x := ⟨L[k], by simp [hk]⟩
  obtain ⟨v, hv⟩ : ∃ v, vs[k]? = some v := ⟨vs[k]'(by rw [h.lv]; exact hk), by simp [h.lv, hk]⟩
  obtain ⟨h1, h2⟩ := ents_at hx hv
  have hl := ents_length h.lv
  have e1 := h.rE.cells (g := gE) rfl (k * 2) _ h1
  have e2 := h.rE.cells (g := gE) rfl (k * 2 + 1) _ h2
  rw [Addr.add_lit, Nat.zero_add] at e1 e2
  exact ⟨gE, cE, x, v, rfl, hx, hv, e1, e2, h.rE.frozenAt (k * 2 + 1), hlt, (h.fE gE rfl).2⟩

theorem psigned_any {F : Nat → Prop} (g : Nat) (L : List (List Int)) (S : List (Int × Int)) (who d : Int) (w : World) (h : IsBook w g F L S) (hL : L.length ≤ 1000) (hS : S.length ≤ 1000) :
    Calls Try.prog 92 #[.pointer (some ⟨g, 0, none⟩), .int .i64 who, .int .i64 d] w fun e w' => e = .returned (.bool (signedB S who d)) ∧ w = w' := by
  obtain ⟨m, vE, vs, h⟩ := h
  obtain ⟨nL, hnL⟩ : ∃ nL, L.length = nL := ⟨_, rfl⟩
  by_cases hd : 1 ≤ d ∧ d ≤ (L.length : Int)
  · obtain ⟨k, hk⟩ : ∃ k : Nat, d = (k : Int) + 1 := ⟨(d - 1).toNat, by omega⟩
    subst hk
    have hkl : k < L.length := by omega
    have s1 : wrap64 (k : Int) = (k : Int) := IntWalk.wrap64_in _ (by omega)
    have i0 : (0 : Int) ≤ (k : Int) := by omega
    have i1 : (k : Int) < (nL : Int) := by omega
    obtain ⟨gE, cE, x, v, rfl, hx, hv, e0, e1, _, _, _⟩ := h.entry hkl
    obtain ⟨xs, ho, hl, hc, _⟩ := h.sg k v hv
    obtain ⟨nS, hnS⟩ : ∃ nS, xs.length = nS := ⟨_, rfl⟩
    rw [hnS] at ho hl
    have hnS1 : nS ≤ 1000000 := Nat.le_trans hl (Nat.le_trans hS (by decide))
    obtain ⟨AS, cS, rfl, _, _, hrS, _, _⟩ := own_val ho
    have c1 := h.c1
    rw [hnL] at c1 hd
    have HB : Hid (decide (1 ≤ (k : Int) + 1 ∧ (k : Int) + 1 ≤ (nL : Int)) = true) := decide_eq_true hd
    have HC := Lib.hid (hc who)
    have HNS := Lib.hid hnS
    clear h ho hc hd hnL hnS hx hv hkl e0
    go_enter Try.func92, Try.ntmps92
    go_wp2_with fail
    refine (phas_cell true g nL cE _ _ _ c1 HB.out).mono ?_
    rintro e w' ⟨rfl, rfl⟩
    go_wp2_with fail
    refine (pcontains_any _ AS nS cS xs who _ HC.out HNS.out hrS hnS1).mono ?_
    rintro e w' ⟨rfl, rfl⟩
    go_wp2_with fail
    go_ret
    exact ⟨rfl, rfl⟩
  · have HF := Lib.hid (signed_none h.sd (who := who) hd)
    have c1 := h.c1
    have rE := h.rE
    rw [hnL] at rE hd
    obtain ⟨AE, cE, rfl, _, _, _, _, _⟩ := ownS_slice rE
    have HB := Lib.hid (decide_eq_false hd)
    clear h hd rE hnL
    go_enter Try.func92, Try.ntmps92
    go_wp2_with fail
    refine (phas_cell false g nL cE _ _ _ c1 HB.out).mono ?_
    rintro e w' ⟨rfl, rfl⟩
    go_wp2_with fail
    go_ret
    exact ⟨by rw [HF.out]; rfl, rfl⟩

end Go.Proofs.Ytcfnomnhameleaa
/-
  Package book as landed: the calls that write.
-/
namespace Go.Proofs.Ytcfnomnhameleaa
open Go.RowKit Go.Maps Go.WideMaps

/-- what holds at the label: the world as it was -/
inductive SignedJ (p : Prop) (w : World) : Act → World → Prop
  | mk (u0 u1 u2 u3 u4 u5 u6 u7 u8 u9 u10 u11 u12 u13 u14 u15 u16 u17 u18 u19 u20 u21 u22 u23 u24 u25 u26 u27 u28 u29 u30 u31 u32 u33 u34 u35 u36 u37 u38 u39 u40 u41 u42 u43 u44 u45 u46 u47 u48 u49 u50 u51 u52 u53 u54 u55 u56 : Value) (hp : p) : SignedJ p w { tmps := #[u0, u1, u2, u3, u4, u5, u6, u7, u8, u9, u10, u11, u12, u13, u14, u15, u16, u17, u18, u19, u20, u21, u22, u23, u24, u25, u26, u27, u28, u29, u30, u31, u32, u33, u34, u35, u36, u37, u38, u39, u40, u41, u42, u43, u44, u45, u46, u47, u48, u49, u50, u51, u52, u53, u54, u55, u56], defers := [] } w
theorem signedJ_elim {p : Prop} {w : World} {G : Act → World → Prop} (h : ∀ (u0 u1 u2 u3 u4 u5 u6 u7 u8 u9 u10 u11 u12 u13 u14 u15 u16 u17 u18 u19 u20 u21 u22 u23 u24 u25 u26 u27 u28 u29 u30 u31 u32 u33 u34 u35 u36 u37 u38 u39 u40 u41 u42 u43 u44 u45 u46 u47 u48 u49 u50 u51 u52 u53 u54 u55 u56 : Value), p → G { tmps := #[u0, u1, u2, u3, u4, u5, u6, u7, u8, u9, u10, u11, u12, u13, u14, u15, u16, u17, u18, u19, u20, u21, u22, u23, u24, u25, u26, u27, u28, u29, u30, u31, u32, u33, u34, u35, u36, u37, u38, u39, u40, u41, u42, u43, u44, u45, u46, u47, u48, u49, u50, u51, u52, u53, u54, u55, u56], defers := [] } w) : ∀ a' w', SignedJ p w a' w' → G a' w' := by
  intro a' w' k
  cases k with
  | mk u0 u1 u2 u3 u4 u5 u6 u7 u8 u9 u10 u11 u12 u13 u14 u15 u16 u17 u18 u19 u20 u21 u22 u23 u24 u25 u26 u27 u28 u29 u30 u31 u32 u33 u34 u35 u36 u37 u38 u39 u40 u41 u42 u43 u44 u45 u46 u47 u48 u49 u50 u51 u52 u53 u54 u55 u56 hp => exact h u0 u1 u2 u3 u4 u5 u6 u7 u8 u9 u10 u11 u12 u13 u14 u15 u16 u17 u18 u19 u20 u21 u22 u23 u24 u25 u26 u27 u28 u29 u30 u31 u32 u33 u34 u35 u36 u37 u38 u39 u40 u41 u42 u43 u44 u45 u46 u47 u48 u49 u50 u51 u52 u53 u54 u55 u56 hp

theorem psign_form {F : Nat → Prop} (g : Nat) (L : List (List Int)) (S : List (Int × Int)) (who d : Int) (w : World) (_h : IsBook w g F L S) (hw : ¬ (1 ≤ who ∧ who ≤ 16)) :
    Calls Try.prog 20 #[.pointer (some ⟨g, 0, none⟩), .int .i64 who, .int .i64 d] w fun e w' => e = .returned (.int .i64 1) ∧ w = w' := by
  by_cases h1 : who < 1
  · clear hw
    go_enter Try.func20, Try.ntmps20
    go_wp2
    refine wp_scope_jumps 0 (fun _ _ => False) (fun _ _ => 0) rfl ?_ (fun _ _ h => h.elim)
    go_wp2
    simp only [Exit.jump]
    go_ret
    exact ⟨rfl, rfl⟩
  · have h2 : 16 < who := by omega
    clear hw
    go_enter Try.func20, Try.ntmps20
    go_wp2
    refine wp_scope_jumps 0 (fun _ _ => False) (fun _ _ => 0) rfl ?_ (fun _ _ h => h.elim)
    go_wp2
    simp only [Exit.jump]
    go_ret
    exact ⟨rfl, rfl⟩

theorem psign_none {F : Nat → Prop} (g : Nat) (L : List (List Int)) (S : List (Int × Int)) (who d : Int) (w : World) (h : IsBook w g F L S) (hw : 1 ≤ who ∧ who ≤ 16) (hd : ¬ (1 ≤ d ∧ d ≤ (L.length : Int))) :
    Calls Try.prog 20 #[.pointer (some ⟨g, 0, none⟩), .int .i64 who, .int .i64 d] w fun e w' => e = .returned (.int .i64 3) ∧ w = w' := by
  obtain ⟨m, vE, vs, h⟩ := h
  obtain ⟨nL, hnL⟩ : ∃ nL, L.length = nL := ⟨_, rfl⟩
  have c1 := h.c1
  have rE := h.rE
  rw [hnL] at rE hd
  have h1 : ¬ who < 1 := by omega
  have h2 : ¬ 16 < who := by omega
  obtain ⟨AE, cE, rfl, _, _, _, _, _⟩ := ownS_slice rE
  have HB := Lib.hid (decide_eq_false hd)
  clear h hd rE hnL hw
  go_enter Try.func20, Try.ntmps20
  go_wp2
  refine wp_scope_jumps 0 (fun _ _ => False) (fun _ _ => 0) rfl ?_ (fun _ _ h => h.elim)
  go_wp2_with fail
  refine (phas_cell false g nL cE _ _ _ c1 HB.out).mono ?_
  rintro e w' ⟨rfl, rfl⟩
  go_wp2_with fail
  simp only [Exit.jump]
  go_ret
  exact ⟨rfl, rfl⟩

/-- behind an append -/
theorem grown_far {w wX w2 : World} {row : Option Nat} (hX : Below w.heap.size w wX) (hg : wX.grownBy w2 row) :
    w.heap.size ≤ w2.heap.size ∧ (∀ k, k < w.heap.size → row ≠ some k → w2.heap[k]? = w.heap[k]?) ∧ Touch (fun k => row = some k) w w2 :=
  ⟨Nat.le_trans hX.size hg.size, fun k hk hn => (hg.block k (Nat.lt_of_lt_of_le hk hX.size) (fun e => hn e.symm)).trans (hX.block k hk), (Touch.of hX).trans (Touch.grown (F := fun k => row = some k) hg (fun _ e => e)) (fun _ hf => .inl hf)⟩

theorem contains_next {xs : List Int} {k : Nat} {z who : Int} (h1 : (xs.take k).contains who = false) (hz : xs[k]? = some z) (h2 : ¬ z = who) : (xs.take (k + 1)).contains who = false := by
  rw [take_next hz]
  have h3 : ¬ who = z := fun e => h2 e.symm
  simp only [List.contains_eq_any_beq, List.any_append, List.any_cons, List.any_nil, Bool.or_false] at h1 ⊢
  rw [h1]
  simp [h3]

set_option maxRecDepth 10000 in
set_option maxHeartbeats 4000000 in
theorem psign_ok {F : Nat → Prop} (g : Nat) (L : List (List Int)) (S : List (Int × Int)) (who d : Int) (w : World) (h : IsBook w g F L S) (hL : L.length ≤ 1000) (hS : S.length ≤ 1000) (hw : 1 ≤ who ∧ who ≤ 16) (hd : 1 ≤ d ∧ d ≤ (L.length : Int)) :
    Calls Try.prog 20 #[.pointer (some ⟨g, 0, none⟩), .int .i64 who, .int .i64 d] w fun e w' => e = .returned (.int .i64 0) ∧ BookTo IsBook g F L (S ++ [(who, d)]) w w' := by
  obtain ⟨m, vE, vs, h⟩ := h
  obtain ⟨nL, hnL⟩ : ∃ nL, L.length = nL := ⟨_, rfl⟩
  obtain ⟨k, hk⟩ : ∃ k : Nat, d = (k : Int) + 1 := ⟨(d - 1).toNat, by omega⟩
  subst hk
  have hkl : k < L.length := by omega
  have s1 : wrap64 (k : Int) = (k : Int) := IntWalk.wrap64_in _ (by omega)
  have s2 : IntKind.i64.wrap (k : Int) = (k : Int) := IntWalk.i64_in _ (by omega)
  have i0 : (0 : Int) ≤ (k : Int) := by omega
  have i1 : (k : Int) < (nL : Int) := by omega
  have g1 : ¬ who < 1 := by omega
  have g2 : ¬ 16 < who := by omega
  obtain ⟨gE, cE, x, v, rfl, hx, hv, _, e1, ef, hgEl, hgEg⟩ := h.entry hkl
  obtain ⟨xs, ho, hl, hc, hf⟩ := h.sg k v hv
  obtain ⟨nS, hnS⟩ : ∃ nS, xs.length = nS := ⟨_, rfl⟩
  rw [hnS] at ho
  have hlS : nS ≤ 1000 := by omega
  have hn1 : nS + 1 ≤ 68719476736 := by omega
  obtain ⟨AS, cS, rfl, _, _, hrS, _, _⟩ := own_val ho
  have c1 := h.c1
  rw [hnL] at c1 hd
  have HB : Hid (decide (1 ≤ (k : Int) + 1 ∧ (k : Int) + 1 ≤ (nL : Int)) = true) := decide_eq_true hd
  have HH := Lib.hid h
  have HKL := Lib.hid hkl
  have HV := Lib.hid hv
  have HL : Hid (nS ≤ S.length) := by rw [← hnS]; exact hl
  have HC := Lib.hid hc
  have HO := Lib.hid ho
  have HNS := Lib.hid hnS
  have hgl := h.lt g h.here
  have hgEF := (h.fE gE rfl).1
  have hvg : (Value.slice AS nS cS).ownBlock ≠ some g := fun e => (hf g e).2.1 rfl
  have hvE : (Value.slice AS nS cS).ownBlock ≠ some gE := fun e => (hf gE e).2.2.1 rfl
  have hvF : ∀ j, (Value.slice AS nS cS).ownBlock = some j → F j := fun j e => (hf j e).1
  clear h ho hc hd hnL hnS hx hv hkl hl hf hw hL hS
  go_enter Try.func20, Try.ntmps20
  go_wp2
  refine wp_scope_jumps 0 (SignedJ (xs.contains who = true) w) (fun _ _ => 0) rfl ?_ ?_
  · go_wp2_with fail
    refine (phas_cell true g nL cE _ _ _ c1 HB.out).mono ?_
    rintro e w' ⟨rfl, rfl⟩
    go_wp2_with fail
    go_loop [29, 8] (fun i _ => ∃ j : Nat, i = .int .i64 j ∧ j ≤ nS ∧ Hid ((xs.take j).contains who = false)) (fun i _ => nS - (intOf i).toNat)
    case atStart => exact ⟨0, rfl, by omega, by simp [Hid]⟩
    case round =>
      obtain ⟨j, rfl, hj, HJ⟩ := hrel
      by_cases hlt : j < nS
      · obtain ⟨b, off, rfl, hbl, hcell⟩ := hrS.open_ (by rw [i64s_length, HNS.out]; omega)
        obtain ⟨z, hz⟩ : ∃ z, xs[j]? = some z := ⟨xs[j]'(by rw [HNS.out]; exact hlt), by simp [HNS.out, hlt]⟩
        have k1 := hcell j (.int .i64 z) (by simp [i64s, hz])
        have HZ := Lib.hid hz
        have j0 : (0 : Int) ≤ (j : Int) := by omega
        have j1 : (j : Int) < (nS : Int) := by omega
        clear hcell hz
        by_cases hzw : z = who
        · have HT : Hid (xs.contains who = true) := by
            show xs.contains who = true
            rw [← hzw]
            simp only [List.contains_iff_mem]
            exact List.mem_of_getElem? HZ.out
          have z1 : (z == who) = true := by simp [hzw]
          clear hzw
          go_wp2
          go_step3
          show 0 = 0 ∧ SignedJ (xs.contains who = true) w _ _
          exact ⟨rfl, .mk _ _ _ _ _ _ _ _ _ _ _ _ _ _ _ _ _ _ _ _ _ _ _ _ _ _ _ _ _ _ _ _ _ _ _ _ _ _ _ _ _ _ _ _ _ _ _ _ _ _ _ _ _ _ _ _ _ HT.out⟩
        · have z1 : (z == who) = false := by simp [hzw]
          have HN := Lib.hid (contains_next HJ.out HZ.out hzw)
          clear hzw
          go_wp2
          go_round
          case rel => exact ⟨j + 1, by go_num, by omega, HN.out⟩
          case measure => simp [intOf]; omega
      · have j1 : ¬ ((j : Int) < (nS : Int)) := by omega
        have c1a : ∀ o, (w.alloc o).cell? ⟨g, 1, none⟩ = some (.slice (some ⟨gE, 0, none⟩) nL cE) := fun o => (((Below.refl w.heap.size w).alloc (Nat.le_refl _) o).cell (p := ⟨g, 1, none⟩) hgl).trans c1
        have e1a : ∀ o, (w.alloc o).cell? ⟨gE, k * 2 + 1, none⟩ = some (.slice AS nS cS) := fun o => (((Below.refl w.heap.size w).alloc (Nat.le_refl _) o).cell (p := ⟨gE, k * 2 + 1, none⟩) hgEl).trans e1
        go_wp2_with fail
        go_region_law (first
          | (refine step_app_lies _ (by rfl) _ _ _ (by rfl) 0 3 (.int .i64 0) 8 Try.underlying22 info_i64 rfl (by decide) (.slice AS nS cS) nS (i64s xs) (by rfl) (by first | exact HO.out.alloc _ | exact World.ownsRow.drew (HO.out.alloc _)) w.heap.size (.int .i64 who) (by rfl) (by first | exact cell_new _ _ _ | exact cell_new w (.int .i64 who) _) rfl hn1 (Nat.zero_le _) ?_; intro g' c' w7 ho7 hg7 hat7; have hG7 := grown_far (w := w) (by first | exact (Below.refl _ _).alloc (Nat.le_refl _) _ | exact ((Below.refl _ _).alloc (Nat.le_refl _) _).drew) hg7; have q1 := (World.cell?_of_block (a := ⟨g, 1, none⟩) (hG7.2.1 g hgl hvg)).trans c1; have q2 := (World.cell?_of_block (a := ⟨gE, k * 2 + 1, none⟩) (hG7.2.1 gE hgEl hvE)).trans e1; have q3 := (World.frozen?_of_block (a := ⟨gE, k * 2 + 1, none⟩) (hG7.2.1 gE hgEl hvE)).trans ef; have hat8 : (Value.slice AS nS cS).ownBlock = some g' ∨ w.heap.size ≤ g' := hat7.imp id (fun e => by rw [e]; simp)))
        all_goals
          have ho8 : w7.ownsRow 0 3 1 (.slice (some ⟨g', 0, none⟩) (nS + 1) c') (nS + 1) (i64s (xs ++ [who])) := own_conv ho7 (by simp [i64s]) rfl
          have HR := Lib.hid (HH.out.signs rfl HKL.out HV.out HNS.out HL.out HC.out hG7.1 hG7.2.1 ho8 hat8)
          have HT := Lib.hid ((hG7.2.2.mono hvF).set (b := gE) (o := k * 2 + 1) (.inl hgEF) (.slice (some ⟨g', 0, none⟩) (nS + 1) c'))
          clear ho7 ho8 hg7 hat7 hat8 hG7 q1 q2 q3
          go_wp2_with fail
          go_step3
          go_wp2_with fail
          simp only [Exit.jump]
          go_ret
          exact ⟨rfl, _, ⟨_, _, _, HR.out⟩, HT.out, fun j hf => hf.imp id (fun h => h.1)⟩
  · refine signedJ_elim ?_
    intro u0 u1 u2 u3 u4 u5 u6 u7 u8 u9 u10 u11 u12 u13 u14 u15 u16 u17 u18 u19 u20 u21 u22 u23 u24 u25 u26 u27 u28 u29 u30 u31 u32 u33 u34 u35 u36 u37 u38 u39 u40 u41 u42 u43 u44 u45 u46 u47 u48 u49 u50 u51 u52 u53 u54 u55 u56 hp
    have HR := Lib.hid (HH.out.again HKL.out (who := who) (by rw [← HC.out who]; exact hp))
    clear hp
    go_wp2
    simp only [Exit.jump]
    go_ret
    exact ⟨rfl, F, ⟨_, _, _, HR.out⟩, Touch.refl _ _, fun _ h => .inl h⟩

end Go.Proofs.Ytcfnomnhameleaa
/-
  Package book as landed: Digest; what is asked of it, whole.
-/
namespace Go.Proofs.Ytcfnomnhameleaa
open Go.RowKit Go.Maps Go.WideMaps

theorem bookTo_n {g : Nat} {F : Nat → Prop} {L : List (List Int)} {S : List (Int × Int)} {w : World} (h : IsBook w g F L S) (d : Nat) : BookTo IsBook g F L S w (w.drewN d) :=
  ⟨F, h.kept (Nat.le_refl _) (fun _ _ => rfl), (Touch.refl _ _).drewN d, fun _ h => .inl h⟩
theorem bookTo_same {g : Nat} {F : Nat → Prop} {L : List (List Int)} {S : List (Int × Int)} {w w' : World} (h : IsBook w g F L S) (he : w = w') : BookTo IsBook g F L S w w' := by
  subst he
  exact ⟨F, h, Touch.refl _ _, fun _ h => .inl h⟩

theorem pdigest_old {F : Nat → Prop} (g : Nat) (L : List (List Int)) (S : List (Int × Int)) (A : Option Addr) (c n k : Nat) (x : List Int) (w : World) (h : IsBook w g F L S) (hG : Given w F A c n x) (hf : findB L x = k + 1) :
    Calls Try.prog 30 #[.pointer (some ⟨g, 0, none⟩), .slice A n c] w fun e w' => e = .returned (.tuple #[.int .i64 ((k + 1 : Nat) : Int), .int .i64 0]) ∧ BookTo IsBook g F L S w w' := by
  have HF := Lib.hid hf
  clear hf
  go_enter Try.func30, Try.ntmps30
  go_wp2_with fail
  refine (pfind_any g L S A c n x _ h hG).mono ?_
  rintro e w' ⟨rfl, d, rfl⟩
  have hv : findV (findB L x) = .tuple #[.int .i64 ((k : Int) + 1), .int .i64 0] := by rw [HF.out]; rfl
  rw [hv]
  go_wp2_with fail
  go_ret2
  exact ⟨rfl, bookTo_n h d⟩

theorem info_ent : (Try.prog.info? 78).map (fun i => (i.zero, i.size, i.bytes)) = some (some (.agg #[.string ByteArray.empty, .slice none 0 0]), 2, 40) := by kernel_rfl

/-- m[k] = v at a step of a statement whose order is open -/
theorem step_mapput {H : Type} {P : Program} (w : World) {ops : Array Oper} {o : Oper} {a : Act} {K : Act → World → Prop} {Q : Exit → Act → World → Prop} {E : Prop} (hgd : o.guard = none) (m x v : Operand) (t : TypeId) (ho : o.op = Op.mapUpdate t m x v)
    (k e : TypeId) (Kd : Keyed P k) (ht : P.underlying t = some (.map k e)) (R : Value → Option (DataW H × List MemPlace)) (b n : Nat) (D : DataW H)
    (hm : a.eval m = .map (some b)) (hown : w.ownsMap P k R b n D) (hn : n < maxLen) (key val : Value) (kl : Lit) (hx : a.eval x = key) (hv : a.eval v = val) (hkey : keyOf P k key = some kl)
    (d : DataW H) (ps : List MemPlace) (hval : R val = some (d, ps))
    (h : ∀ w', w'.ownsMap P k R b (n + 1) (D.put kl d) → w.grownBy w' (some b) → K (a.put o.dst undef) w') : if Region.wanted o (yielded ops a.tmps) = true then Oper.wp P o a w K Q else E := by
  have hw : Region.wanted o (yielded ops a.tmps) = true := by simp [Region.wanted, hgd]
  rw [if_pos hw]
  obtain ⟨w', hrun, r1, r2⟩ := hown.update Kd ht hn hkey hval
  unfold Oper.wp
  simp [execOp, ho, hm, hx, hv, hrun, Result.andThen]
  exact h w' r1 r2
theorem count_wp {w : World} {o : Oper} {a : Act} {K : Act → World → Prop} {Q : Exit → Act → World → Prop} {s : Nat} {t : TypeId} {v : Value} (ho : o.op = .call { callee := .value (.func 27), args := #[.tmp s], argTypes := #[t] }) (hs : a.tmps[s]? = some v) {R : Ending → World → Prop} (hc : Calls Try.prog 27 #[v] w R)
    (h : ∀ e w', R e w' → ∃ u, e = .returned u ∧ K (a.put o.dst u) w') : o.wp Try.prog a w K Q := by
  have he : a.eval (.tmp s) = v := by simp [Act.eval, hs]
  unfold Oper.wp execOp
  simp only [ho]
  go_simp
  refine hc.mono fun e w' hr => ?_
  obtain ⟨u, rfl, hk⟩ := h e w' hr
  exact hk
theorem step_count {w : World} {ops : Array Oper} {o : Oper} {a : Act} {K : Act → World → Prop} {Q : Exit → Act → World → Prop} {E : Prop} {s : Nat} {t : TypeId} {v : Value} (hgd : o.guard = none)
    (ho : o.op = .call { callee := .value (.func 27), args := #[.tmp s], argTypes := #[t] }) (hs : a.tmps[s]? = some v) {R : Ending → World → Prop} (hc : Calls Try.prog 27 #[v] w R)
    (h : ∀ e w', R e w' → ∃ u, e = .returned u ∧ K (a.put o.dst u) w') : if Region.wanted o (yielded ops a.tmps) = true then Oper.wp Try.prog o a w K Q else E := by
  have hw : Region.wanted o (yielded ops a.tmps) = true := by simp [Region.wanted, hgd]
  rw [if_pos hw]
  exact count_wp ho hs hc h

/-- behind the append and the store, ahead of the map -/
structure Grown (w w3 : World) (g bm g' c' n : Nat) (vE : Value) (xs : List Value) (D : DataW Unit) (k : Nat) : Prop where
  size : w.heap.size ≤ w3.heap.size
  far : ∀ j, j < w.heap.size → j ≠ g → vE.ownBlock ≠ some j → w3.heap[j]? = w.heap[j]?
  touch : Touch (fun j => j = g ∨ vE.ownBlock = some j) w w3
  c0 : w3.cell? ⟨g, 0, none⟩ = some (.map (some bm))
  c1 : w3.cell? ⟨g, 1, none⟩ = some (.slice (some ⟨g', 0, none⟩) n c')
  f0 : w3.frozen? ⟨g, 0, none⟩ = false
  f1 : w3.frozen? ⟨g, 1, none⟩ = false
  row : w3.ownsRow 0 78 2 (.slice (some ⟨g', 0, none⟩) n c') n xs
  at_ : vE.ownBlock = some g' ∨ w.heap.size ≤ g'
  map : w3.ownsMap Try.prog 9 (plainElem Try.prog 3) bm k D

theorem grown_of {w w2 : World} {g : Nat} {F : Nat → Prop} {L : List (List Int)} {S : List (Int × Int)} {bm : Nat} {vE : Value} {vs : List Value} (h : BookB w g F L S (some bm) vE vs) {D : DataW Unit} (hm : w.ownsMap Try.prog 9 (plainElem Try.prog 3) bm L.length D)
    {wX : World} (hX : Below w.heap.size w wX) (hg2 : wX.grownBy w2 vE.ownBlock) {g' c' n : Nat} {xs : List Value} (ho : w2.ownsRow 0 78 2 (.slice (some ⟨g', 0, none⟩) n c') n xs) (hat : vE.ownBlock = some g' ∨ w.heap.size ≤ g') :
    Grown w (w2.setCell ⟨g, 1, none⟩ (.slice (some ⟨g', 0, none⟩) n c')) g bm g' c' n vE xs D L.length := by
  obtain ⟨h1, h2, h3⟩ := grown_far hX hg2
  have hgl := h.lt g h.here
  have hgE : vE.ownBlock ≠ some g := fun e => (h.fE g e).2 rfl
  obtain ⟨hbF, hbg, hbE⟩ : F bm ∧ bm ≠ g ∧ vE.ownBlock ≠ some bm := by
    rcases h.mp with ⟨e, _⟩ | ⟨b, D', e, h1, h2, h3, _⟩
    · cases e
    · cases e; exact ⟨h1, h2, h3⟩
  have hgb := h2 g hgl hgE
  have hg'g : g' ≠ g := by
    rcases hat with e | e
    · exact (h.fE g' e).2
    · omega
  exact
    { size := by simpa using h1
      far := fun j hj hn he => (set_block _ hn).trans (h2 j hj he)
      touch := (h3.mono fun j hj => .inr hj).set (.inl (.inl rfl)) _
      c0 := (World.cell?_setCell_other _ _ _ _ (by simp)).trans ((World.cell?_of_block (a := ⟨g, 0, none⟩) hgb).trans h.c0)
      c1 := World.cell?_setCell_same _ _ _ ((World.cell?_of_block (a := ⟨g, 1, none⟩) hgb).trans h.c1)
      f0 := by rw [World.frozen?_setCell]; exact (World.frozen?_of_block (a := ⟨g, 0, none⟩) hgb).trans h.f0
      f1 := by rw [World.frozen?_setCell]; exact (World.frozen?_of_block (a := ⟨g, 1, none⟩) hgb).trans h.f1
      row := own_kept ho fun j hj _ => set_block _ (by cases hj; exact hg'g)
      at_ := hat
      map := map_kept hm ((set_block _ hbg).trans (h2 bm (h.lt bm hbF) hbE)) }

theorem Grown.book {w w3 w4 : World} {g : Nat} {F : Nat → Prop} {L : List (List Int)} {S : List (Int × Int)} {bm g' c' n : Nat} {vE : Value} {vs : List Value} {D : DataW Unit} {x : List Int} (G : Grown w w3 g bm g' c' n vE (ents L vs ++ [.string (strOfNums x), .slice none 0 0]) D L.length)
    (h : BookB w g F L S (some bm) vE vs) (hn : L.length + 1 = n) (hx : Byts x) (hxn : x.length ≤ 1000000) (hd : Digs D L) (hf : findB L x = 0) (hg4 : w3.grownBy w4 (some bm))
    (hm4 : w4.ownsMap Try.prog 9 (plainElem Try.prog 3) bm (L.length + 1) (D.put (keyB x) (.lit (.int .i64 (n : Int))))) :
    BookTo IsBook g F (L ++ [x]) S w w4 ∧ w4.cell? ⟨g, 1, none⟩ = some (.slice (some ⟨g', 0, none⟩) n c') := by
  obtain ⟨hbF, hbg, hbE⟩ : F bm ∧ bm ≠ g ∧ vE.ownBlock ≠ some bm := by
    rcases h.mp with ⟨e, _⟩ | ⟨b, D', e, h1, h2, h3, _⟩
    · cases e
    · cases e; exact ⟨h1, h2, h3⟩
  have hg3 : g < w3.heap.size := Nat.lt_of_lt_of_le (h.lt g h.here) G.size
  have hg4b : w4.heap[g]? = w3.heap[g]? := hg4.block g hg3 (fun e => hbg (by cases e; rfl))
  have hg'3 := (own_lt G.row (g := g') rfl).1
  have hg'b : g' ≠ bm := by
    rcases G.at_ with e | e
    · intro e'; exact hbE (e' ▸ e)
    · have := h.lt bm hbF; omega
  have hg'4 : w4.heap[g']? = w3.heap[g']? := hg4.block g' hg'3 (fun e => hg'b (by cases e; rfl))
  have c1 := (World.cell?_of_block (a := ⟨g, 1, none⟩) hg4b).trans G.c1
  have hdp : Digs (D.put (keyB x) (.lit (.int .i64 (n : Int)))) (L ++ [x]) := by
    have := digs_put hd hx (by unfold maxLen; omega) hf
    rwa [hn] at this
  have hsz : w.heap.size ≤ w4.heap.size := Nat.le_trans G.size hg4.size
  have hB := h.grows (w' := w4) (g' := g') (c' := c') hn hx hxn hsz (fun j hj hjg hjE hjb => (hg4.block j (Nat.lt_of_lt_of_le hj G.size) (fun e => hjb (by cases e; rfl))).trans (G.far j hj hjg hjE))
    ((World.cell?_of_block (a := ⟨g, 0, none⟩) hg4b).trans G.c0) c1 ((World.frozen?_of_block (a := ⟨g, 0, none⟩) hg4b).trans G.f0) ((World.frozen?_of_block (a := ⟨g, 1, none⟩) hg4b).trans G.f1)
    (own_kept G.row fun j hj _ => by cases hj; exact hg'4) G.at_ (by rw [hn] at hm4; exact hm4) hdp
  refine ⟨⟨_, ⟨_, _, _, hB⟩, ?_, fun j hf => hf.imp id (fun h => h.1)⟩, c1⟩
  refine (G.touch.mono (F' := F) fun j hj => ?_).trans (Touch.grown (F := F) hg4 fun j e => by cases e; exact hbF) (fun j hf => .inl hf)
  rcases hj with rfl | e
  · exact h.here
  · exact (h.fE j e).1

/-- a book whose map is there, where another may have been ahead -/
def Ready (w : World) (g : Nat) (F : Nat → Prop) (L : List (List Int)) (S : List (Int × Int)) (bm : Nat) (vE : Value) (vs : List Value) (wa : World) (Fa : Nat → Prop) : Prop :=
  BookB wa g Fa L S (some bm) vE vs ∧ Touch F w wa ∧ ∀ k, Fa k → F k ∨ w.heap.size ≤ k
theorem BookTo.after {w wa w4 : World} {g : Nat} {F Fa : Nat → Prop} {L L' : List (List Int)} {S : List (Int × Int)} {bm : Nat} {vE : Value} {vs : List Value} (hr : Ready w g F L S bm vE vs wa Fa) (h : BookTo IsBook g Fa L' S wa w4) : BookTo IsBook g F L' S w w4 := by
  obtain ⟨_, ht, hf⟩ := hr
  obtain ⟨F4, h4, ht4, hf4⟩ := h
  refine ⟨F4, h4, ht.trans ht4 hf, fun k hk => ?_⟩
  rcases hf4 k hk with e | e
  · exact hf k e
  · exact .inr (Nat.le_trans ht.size e)
theorem ready_of {w : World} {g : Nat} {F : Nat → Prop} {L : List (List Int)} {S : List (Int × Int)} {bm : Nat} {vE : Value} {vs : List Value} (h : BookB w g F L S (some bm) vE vs) (d : Nat) : Ready w g F L S bm vE vs (w.drewN d) F :=
  ⟨h.kept (Nat.le_refl _) (fun _ _ => rfl), (Touch.refl _ _).drewN d, fun _ h => .inl h⟩
theorem ready_new {w : World} {g : Nat} {F : Nat → Prop} {L : List (List Int)} {S : List (Int × Int)} {vE : Value} {vs : List Value} (h : BookB w g F L S none vE vs) (d : Nat) :
    Ready w g F L S w.heap.size vE vs (((w.drewN d).alloc (.map #[] 0)).setCell ⟨g, 0, none⟩ (.map (some w.heap.size))) (fun k => F k ∨ (w.heap.size ≤ k ∧ k < w.heap.size + 1)) := by
  have h1 : BookB (w.drewN d) g F L S none vE vs := h.kept (Nat.le_refl _) (fun _ _ => rfl)
  exact ⟨h1.mapped, (((Touch.refl F w).drewN d).alloc _).set (.inl h.here) _, fun k hk => hk.imp id (fun h => h.1)⟩

end Go.Proofs.Ytcfnomnhameleaa
/-
  Package book as landed answers as the document says, call by call.
-/
namespace Go.Proofs.Ytcfnomnhameleaa
open Go.RowKit Go.Maps Go.WideMaps

theorem map_nil (w : World) : (binOp BinOp.eql 65 (.map none) (.map none)).run Try.prog w = .ok (.bool true) w := by kernel_rfl
theorem map_some (b : Nat) (w : World) : (binOp BinOp.eql 65 (.map (some b)) (.map none)).run Try.prog w = .ok (.bool false) w := by kernel_rfl

theorem given_kept {w w' : World} {F : Nat → Prop} {A : Option Addr} {c n : Nat} {x : List Int} (h : Given w F A c n x) (ht : Touch F w w') : Rd w' A (u8s x) := by
  rcases Nat.eq_zero_or_pos n with h0 | h0
  · have : x = [] := List.eq_nil_of_length_eq_zero (by rw [h.hz]; exact h0)
    subst this
    exact Rd.nil _ _
  · exact h.hr.kept ht.size fun a ha hl => ht.block _ hl (h.apart a ha h0)
theorem one_ent {s : ByteArray} (u : Value) (hu : u ∈ [Value.string s, .slice none 0 0]) : u.oneCell' = true := by
  simp at hu
  rcases hu with rfl | rfl <;> rfl

set_option maxRecDepth 100000 in
set_option maxHeartbeats 4000000 in
theorem pdigest_new {F : Nat → Prop} (g : Nat) (L : List (List Int)) (S : List (Int × Int)) (A : Option Addr) (c n : Nat) (x : List Int) (w : World) (h : IsBook w g F L S) (hG : Given w F A c n x) (hL : L.length ≤ 1000) (hf : findB L x = 0) :
    Calls Try.prog 30 #[.pointer (some ⟨g, 0, none⟩), .slice A n c] w fun e w' => e = .returned (.tuple #[.int .i64 ((L.length + 1 : Nat) : Int), .int .i64 0]) ∧ BookTo IsBook g F (L ++ [x]) S w w' := by
  have HI := Lib.hid h
  obtain ⟨m, vE, vs, h⟩ := h
  obtain ⟨nL, hnL⟩ : ∃ nL, L.length = nL := ⟨_, rfl⟩
  have HF := Lib.hid hf
  have HNL := Lib.hid hnL
  have HG := Lib.hid hG
  have HH := Lib.hid h
  have rE := h.rE
  have hxl : x.length ≤ 1000000 := by have := hG.hn; have := hG.hz; omega
  have HXL := Lib.hid hxl
  have HXM : Hid (x.length ≤ maxLen) := by show x.length ≤ maxLen; unfold maxLen; omega
  have HML : Hid (L.length < maxLen) := by show L.length < maxLen; unfold maxLen; omega
  rw [hnL] at rE hL
  have n1 : ((nL : Int) == 65536) = false := by simp; omega
  have HN63 : Hid (nL + 1 ≤ maxLen) := by show nL + 1 ≤ maxLen; unfold maxLen; omega
  have HN47 : Hid ((nL + 1) * 40 ≤ 140737488355328) := by show (nL + 1) * 40 ≤ 140737488355328; omega
  obtain ⟨nN, hnN⟩ : ∃ nN, nL + 1 = nN := ⟨_, rfl⟩
  have HNN := Lib.hid hnN
  have HLN : Hid (L.length + 1 = nN) := by show L.length + 1 = nN; omega
  have HWF : Hid ((Lit.int .i64 (nN : Int)).wf = true) := WalkArith.wf_i64 (by omega)
  obtain ⟨AE, cE, rfl, _, _, _, _, _⟩ := ownS_slice rE
  have c0 := h.c0
  have c1 := h.c1
  have f0 := h.f0
  have hmm := @run_makeMap Try.prog
  have hm0 := map_nil
  have hm1 := map_some
  obtain ⟨i0, hi, hz0, hz1, hz2⟩ := info_parts info_ent
  have HGL := Lib.hid (h.lt g h.here)
  clear h hf hnL hG rE hxl hL hnN
  cases m with
  | none =>
    have HR := fun d => ready_new HH.out d
    have c0a : ∀ d o, ((w.drewN d).alloc o).cell? ⟨g, 0, none⟩ = some (.map none) := fun d o => (((Below.refl w.heap.size (w.drewN d)).alloc (Nat.le_refl _) o).cell (p := ⟨g, 0, none⟩) HGL.out).trans c0
    have f0a : ∀ d o, ((w.drewN d).alloc o).frozen? ⟨g, 0, none⟩ = false := fun d o => (((Below.refl w.heap.size (w.drewN d)).alloc (Nat.le_refl _) o).frozen (p := ⟨g, 0, none⟩) HGL.out).trans f0
    go_enter Try.func30, Try.ntmps30
    go_wp2_with fail
    refine (pfind_any g L S A c n x _ HI.out HG.out).mono ?_
    rintro e w' ⟨rfl, d, rfl⟩
    have hv : findV (findB L x) = .tuple #[.int .i64 0, .int .i64 3] := by rw [HF.out]; rfl
    rw [hv]
    clear hv
    go_wp2_with fail
    refine (pcount_cell g nL cE AE (w.drewN d) c1).mono ?_
    rintro e w' ⟨rfl, rfl⟩
    go_upto_region 8 with fail
    obtain ⟨wa, hwa⟩ : ∃ wa, wa = ((w.drewN d).alloc (.map #[] 0)).setCell ⟨g, 0, none⟩ (.map (some w.heap.size)) := ⟨_, rfl⟩
    obtain ⟨Fa, HRa⟩ : ∃ Fa, Hid (Ready w g F L S w.heap.size (.slice AE nL cE) vs wa Fa) := ⟨_, by rw [hwa]; exact HR d⟩
    rw [← hwa]
    clear hwa c0a f0a
    obtain ⟨bm, hbm⟩ : ∃ bm, bm = w.heap.size := ⟨_, rfl⟩
    rw [← hbm] at HRa ⊢
    clear hbm
    obtain ⟨hB, ht, hFa⟩ := HRa.out
    have hcv := conv_any wa HG.out.hz (given_kept HG.out ht) c
    have hm : ∃ D, wa.ownsMap Try.prog 9 (plainElem Try.prog 3) bm L.length D ∧ Digs D L := by
      rcases hB.mp with ⟨e, _⟩ | ⟨b, D, e, _, _, _, h5, h6⟩
      · cases e
      · cases e; exact ⟨D, h5, h6⟩
    obtain ⟨D, hmD, hdD⟩ := hm
    have HMD := Lib.hid hmD
    have HDD := Lib.hid hdD
    have c1a := hB.c1
    have f1a := hB.f1
    have hgla := hB.lt g hB.here
    have hvg : (Value.slice AE nL cE).ownBlock ≠ some g := fun e => (hB.fE g e).2 rfl
    have HRE : Hid (wa.ownsRow 0 78 2 (.slice AE nL cE) nL (ents L vs)) := by have := hB.rE; rwa [HNL.out] at this
    have HBB := Lib.hid hB
    clear c0 c1 f0 HR hB ht hFa hmD hdD HGL
    go_wp2_with (at_builtin; refine wpList_append_lies _ rfl _ _ 66 rfl 0 78 i0 (.agg #[.string ByteArray.empty, .slice none 0 0]) 2 40 Try.underlying66 hi hz0 hz1 hz2 rfl (by decide) (.slice AE nL cE) nL (ents L vs) rfl (HRE.out.alloc _) ⟨wa.heap.size, 0, none⟩ 1 1 [.string (strOfNums x), .slice none 0 0] rfl rfl (fun j u hj => by rw [Addr.add_lit, Nat.zero_add]; exact cells_new wa [.string (strOfNums x), .slice none 0 0] _ j u hj) (fun u hu => one_ent u hu) (by decide) HN63.out HN47.out (Nat.zero_le _) _ rfl ?_)
    intro g' c' w2 ho2 hg2 hat2 _
    have hX : Below wa.heap.size wa (wa.alloc (.cells #[.string (strOfNums x), .slice none 0 0] 78)) := (Below.refl _ _).alloc (Nat.le_refl _) _
    have hat3 : (Value.slice AE nL cE).ownBlock = some g' ∨ wa.heap.size ≤ g' := hat2.imp id (fun e => by rw [e]; simp)
    have hG0 := grown_of HBB.out HMD.out hX hg2 ho2 hat3
    have hG7 := grown_far hX hg2
    have q1 := (World.cell?_of_block (a := ⟨g, 1, none⟩) (hG7.2.1 g hgla hvg)).trans c1a
    have qf := (World.frozen?_of_block (a := ⟨g, 1, none⟩) (hG7.2.1 g hgla hvg)).trans f1a
    clear c1a f1a hG7 hat2 hat3 hX hg2 ho2 hcv
    go_upto_region 10 with fail
    generalize hw3 : w2.setCell ⟨g, 1, none⟩ (.slice (some ⟨g', 0, none⟩) (nL + 1) c') = w3 at hG0 ⊢
    rw [HNN.out] at hG0
    have HG0 := Lib.hid hG0
    have k0 := hG0.c0
    have k1 := hG0.c1
    clear hG0 hw3 q1 qf
    obtain ⟨w4, hrun, hm4, hg4⟩ := World.ownsMap.update (w := w3.drew) (map_kept HG0.out.map rfl) str_keyed Try.underlying65 HML.out (keyB_of HXM.out) (plainElem_int Try.underlying3 HWF.out)
    have hg5 : w3.grownBy w4 (some bm) := ⟨hg4.os, hg4.tape, hg4.output, hg4.size, hg4.block⟩
    go_region_law (first
      | (refine step_count (by rfl) (by rfl) (by rfl) (pcount_cell g nN c' _ _ (by first | exact k1 | exact (HG0.out.c1))) ?_; rintro e w5 ⟨rfl, rfl⟩; refine ⟨_, rfl, ?_⟩))
    all_goals
      obtain ⟨hT, k4⟩ := HG0.out.book HBB.out HLN.out HG.out.hy HXL.out HDD.out HF.out hg5 hm4
      have HT := Lib.hid (BookTo.after HRa.out hT)
      clear hT hm4 hg4 hg5 k0 k1 hrun
      go_wp2_with fail
      refine (pcount_cell g nN c' _ _ k4).mono ?_
      rintro e w' ⟨rfl, rfl⟩
      go_wp2_with fail
      go_ret2
      exact ⟨by rw [HLN.out]; rfl, HT.out⟩
  | some bm =>
    have HR := fun d => ready_of HH.out d
    go_enter Try.func30, Try.ntmps30
    go_wp2_with fail
    refine (pfind_any g L S A c n x _ HI.out HG.out).mono ?_
    rintro e w' ⟨rfl, d, rfl⟩
    have hv : findV (findB L x) = .tuple #[.int .i64 0, .int .i64 3] := by rw [HF.out]; rfl
    rw [hv]
    clear hv
    go_wp2_with fail
    refine (pcount_cell g nL cE AE (w.drewN d) c1).mono ?_
    rintro e w' ⟨rfl, rfl⟩
    go_upto_region 8 with fail
    obtain ⟨wa, hwa⟩ : ∃ wa, wa = w.drewN d := ⟨_, rfl⟩
    obtain ⟨Fa, HRa⟩ : ∃ Fa, Hid (Ready w g F L S bm (.slice AE nL cE) vs wa Fa) := ⟨_, by rw [hwa]; exact HR d⟩
    rw [← hwa]
    clear hwa
    obtain ⟨hB, ht, hFa⟩ := HRa.out
    have hcv := conv_any wa HG.out.hz (given_kept HG.out ht) c
    have hm : ∃ D, wa.ownsMap Try.prog 9 (plainElem Try.prog 3) bm L.length D ∧ Digs D L := by
      rcases hB.mp with ⟨e, _⟩ | ⟨b, D, e, _, _, _, h5, h6⟩
      · cases e
      · cases e; exact ⟨D, h5, h6⟩
    obtain ⟨D, hmD, hdD⟩ := hm
    have HMD := Lib.hid hmD
    have HDD := Lib.hid hdD
    have c1a := hB.c1
    have f1a := hB.f1
    have hgla := hB.lt g hB.here
    have hvg : (Value.slice AE nL cE).ownBlock ≠ some g := fun e => (hB.fE g e).2 rfl
    have HRE : Hid (wa.ownsRow 0 78 2 (.slice AE nL cE) nL (ents L vs)) := by have := hB.rE; rwa [HNL.out] at this
    have HBB := Lib.hid hB
    clear c0 c1 f0 HR hB ht hFa hmD hdD HGL
    go_wp2_with (at_builtin; refine wpList_append_lies _ rfl _ _ 66 rfl 0 78 i0 (.agg #[.string ByteArray.empty, .slice none 0 0]) 2 40 Try.underlying66 hi hz0 hz1 hz2 rfl (by decide) (.slice AE nL cE) nL (ents L vs) rfl (HRE.out.alloc _) ⟨wa.heap.size, 0, none⟩ 1 1 [.string (strOfNums x), .slice none 0 0] rfl rfl (fun j u hj => by rw [Addr.add_lit, Nat.zero_add]; exact cells_new wa [.string (strOfNums x), .slice none 0 0] _ j u hj) (fun u hu => one_ent u hu) (by decide) HN63.out HN47.out (Nat.zero_le _) _ rfl ?_)
    intro g' c' w2 ho2 hg2 hat2 _
    have hX : Below wa.heap.size wa (wa.alloc (.cells #[.string (strOfNums x), .slice none 0 0] 78)) := (Below.refl _ _).alloc (Nat.le_refl _) _
    have hat3 : (Value.slice AE nL cE).ownBlock = some g' ∨ wa.heap.size ≤ g' := hat2.imp id (fun e => by rw [e]; simp)
    have hG0 := grown_of HBB.out HMD.out hX hg2 ho2 hat3
    have hG7 := grown_far hX hg2
    have q1 := (World.cell?_of_block (a := ⟨g, 1, none⟩) (hG7.2.1 g hgla hvg)).trans c1a
    have qf := (World.frozen?_of_block (a := ⟨g, 1, none⟩) (hG7.2.1 g hgla hvg)).trans f1a
    clear c1a f1a hG7 hat2 hat3 hX hg2 ho2 hcv
    go_upto_region 10 with fail
    generalize hw3 : w2.setCell ⟨g, 1, none⟩ (.slice (some ⟨g', 0, none⟩) (nL + 1) c') = w3 at hG0 ⊢
    rw [HNN.out] at hG0
    have HG0 := Lib.hid hG0
    have k0 := hG0.c0
    have k1 := hG0.c1
    clear hG0 hw3 q1 qf
    obtain ⟨w4, hrun, hm4, hg4⟩ := World.ownsMap.update (w := w3.drew) (map_kept HG0.out.map rfl) str_keyed Try.underlying65 HML.out (keyB_of HXM.out) (plainElem_int Try.underlying3 HWF.out)
    have hg5 : w3.grownBy w4 (some bm) := ⟨hg4.os, hg4.tape, hg4.output, hg4.size, hg4.block⟩
    go_region_law (first
      | (refine step_count (by rfl) (by rfl) (by rfl) (pcount_cell g nN c' _ _ (by first | exact k1 | exact (HG0.out.c1))) ?_; rintro e w5 ⟨rfl, rfl⟩; refine ⟨_, rfl, ?_⟩))
    all_goals
      obtain ⟨hT, k4⟩ := HG0.out.book HBB.out HLN.out HG.out.hy HXL.out HDD.out HF.out hg5 hm4
      have HT := Lib.hid (BookTo.after HRa.out hT)
      clear hT hm4 hg4 hg5 k0 k1 hrun
      go_wp2_with fail
      refine (pcount_cell g nN c' _ _ k4).mono ?_
      rintro e w' ⟨rfl, rfl⟩
      go_wp2_with fail
      go_ret2
      exact ⟨by rw [HLN.out]; rfl, HT.out⟩

theorem bookK : BookK IsBook where
  lt := fun h => h.lt
  kept := fun h hs hk => h.kept hs hk
  new := pnew_any
  digest_old := fun g L S A c n k x w h hG _ hf => pdigest_old g L S A c n k x w h hG hf
  digest_new := fun g L S A c n x w h hG hL hf => pdigest_new g L S A c n x w h hG hL hf
  find_yes := fun g L S A c n k x w h hG _ hf => (pfind_any g L S A c n x w h hG).mono fun _ _ ⟨he, d, hw⟩ => ⟨by rw [he, hf]; rfl, by rw [hw]; exact bookTo_n h d⟩
  find_no := fun g L S A c n x w h hG _ hf => (pfind_any g L S A c n x w h hG).mono fun _ _ ⟨he, d, hw⟩ => ⟨by rw [he, hf]; rfl, by rw [hw]; exact bookTo_n h d⟩
  count := fun g L S w h _ => by
    obtain ⟨m, vE, vs, h⟩ := h
    have c1 := h.c1
    obtain ⟨AE, cE, rfl, _, _, _, _, _⟩ := ownS_slice h.rE
    exact (pcount_cell g L.length cE AE w c1).mono fun _ _ ⟨he, hw⟩ => ⟨he, 0, hw.symm⟩
  sign_form := fun g L S who d w h _ _ hw => (psign_form g L S who d w h hw).mono fun _ _ ⟨he, hw⟩ => ⟨he, bookTo_same h hw⟩
  sign_none := fun g L S who d w h _ _ hw hd => (psign_none g L S who d w h hw hd).mono fun _ _ ⟨he, hw⟩ => ⟨he, bookTo_same h hw⟩
  sign_ok := fun g L S who d w h hL hS hw hd => psign_ok g L S who d w h hL hS hw hd
  signed := fun g L S who d w h hL hS _ _ => (psigned_any g L S who d w h hL hS).mono fun _ _ ⟨he, hw⟩ => ⟨he, 0, hw.symm⟩

end Go.Proofs.Ytcfnomnhameleaa
