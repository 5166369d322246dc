/-
  Package book as landed: what lies where.
-/
import Derived.Test.YtnooippbdfobdaaBookQuiet
import Derived.Maps.OwnSet
import Derived.StringKeys
namespace Go.Proofs.Ytnooippbdfobdaa
open Go.RowKit Go.Maps Go.WideMaps

/-! ### keys -/
def keyB (x : List Int) : Lit := .string (x.map fun n => UInt8.ofNat n.toNat)
theorem str_keyed : Keyed Try.prog 9 := string_keyed Try.underlying9
theorem keyB_of {x : List Int} (hn : x.length ≤ maxLen) : keyOf Try.prog 9 (.string (strOfNums x)) = some (keyB x) := by
  rw [keyOf_string_mk Try.underlying9 (by rw [strOfNums_size]; exact hn)]
  rfl
theorem keyB_lit {x : List Int} (hn : x.length ≤ maxLen) : WideAt.IsKeyLit (keyB x) := str_keyed.key (keyB_of hn)
theorem back_bytes : ∀ {x : List Int}, Byts x → (x.map fun n => UInt8.ofNat n.toNat).map (fun u => (u.toNat : Int)) = x
  | [], _ => rfl
  | c :: x, h => by
    have hc := h c (by simp)
    have ih := back_bytes (x := x) fun d hd => h d (by simp [hd])
    simp only [List.map_cons]
    rw [ih]
    have h1 := hc.1
    have h2 := hc.2
    congr 1
    rw [UInt8.toNat_ofNat']
    omega
theorem keyB_inj {x y : List Int} (hx : Byts x) (hy : Byts y) (h : keyB x = keyB y) : x = y := by
  have h' := Lit.string.inj h
  rw [← back_bytes hx, ← back_bytes hy, h']
theorem keyB_ne {x y : List Int} (hx : Byts x) (hy : Byts y) (h : y ≠ x) : keyB y ≠ keyB x := fun e => h (keyB_inj hy hx e)
theorem int_zero (w : World) : (zeroValue 3).run Try.prog w = .ok (.int .i64 0) w := by kernel_rfl

/-- the map's reading: bytes' numbers -/
def Digs (D : DataW Unit) (L : List (List Int)) : Prop :=
  IsMap D ∧ ∀ x, Byts x → x.length ≤ maxLen → Maps.has D (keyB x) = decide (findB L x ≠ 0) ∧ D.atKey (keyB x) (.lit (.int .i64 0)) = .lit (.int .i64 (findB L x : Int))
theorem digs_new : Digs (.map []) [] := ⟨isMap_empty, fun _ _ _ => ⟨rfl, rfl⟩⟩
theorem findB_snoc {x y : List Int} : ∀ {L : List (List Int)}, findB (L ++ [x]) y = if findB L y = 0 then (if x = y then L.length + 1 else 0) else findB L y
  | [] => by by_cases h : x = y <;> simp [findB, h]
  | z :: L => by
    have ih := findB_snoc (x := x) (y := y) (L := L)
    show (if z = y then 1 else match findB (L ++ [x]) y with | 0 => 0 | n + 1 => n + 2) = _
    by_cases hz : z = y
    · simp [findB, hz]
    · rw [if_neg hz, ih]
      cases hf : findB L y with
      | zero =>
        by_cases hx : x = y <;> simp [findB, hz, hf, hx]
      | succ n => simp [findB, hz, hf]
theorem digs_put {D : DataW Unit} {L : List (List Int)} {x : List Int} (h : Digs D L) (hx : Byts x) (hn : x.length ≤ maxLen) (hf : findB L x = 0) : Digs (D.put (keyB x) (.lit (.int .i64 ((L.length + 1 : Nat) : Int)))) (L ++ [x]) := by
  refine ⟨h.1.put _ _, fun y hy hny => ?_⟩
  by_cases hxy : x = y
  · subst hxy
    rw [has_put_same h.1 (keyB_lit hn), atKey_put_same h.1 (keyB_lit hn), findB_snoc, if_pos hf, if_pos rfl]
    exact ⟨by simp, rfl⟩
  · have hne : keyB y ≠ keyB x := keyB_ne hx hy (Ne.symm hxy)
    rw [has_put_other hne, atKey_put_other hne, findB_snoc, if_neg hxy]
    obtain ⟨h1, h2⟩ := h.2 y hy hny
    rw [h1, h2]
    by_cases h0 : findB L y = 0 <;> simp [h0]

theorem digs_look {w : World} {bm n : Nat} {D : DataW Unit} {L : List (List Int)} {x : List Int} (hown : w.ownsMap Try.prog 9 (plainElem Try.prog 3) bm n D) (hd : Digs D L) (hx : Byts x) (hn : x.length ≤ maxLen) :
    (Instr.lookup 51 (.map (some bm)) (.string (strOfNums x)) true).run Try.prog w = .ok (.tuple #[.int .i64 (findB L x : Int), .bool (decide (findB L x ≠ 0))]) w := by
  obtain ⟨v, ps, hrun, hv⟩ := hown.look_ok str_keyed Try.underlying51 (int_zero w) (plainElem_int Try.underlying3 (by decide)) (keyB_of hn)
  obtain ⟨h1, h2⟩ := hd.2 x hx hn
  rw [h2] at hv
  obtain ⟨c, rfl, hc, _⟩ := plainElem_int_inv Try.underlying3 hv
  have hc' : (findB L x : Int) = c := by simpa using congrArg Prod.fst hc
  rw [hrun, h1, hc']
theorem nil_look {w : World} {x : List Int} (hn : x.length ≤ maxLen) :
    (Instr.lookup 51 (.map none) (.string (strOfNums x)) true).run Try.prog w = .ok (.tuple #[.int .i64 (findB [] x : Int), .bool (decide (findB [] x ≠ 0))]) w := by
  rw [Maps.look_nil true str_keyed Try.underlying51 (int_zero w) (keyB_of hn)]
  rfl

/-! ### entries -/
def ents : List (List Int) → List Value → List Value
  | x :: L, v :: vs => .string (strOfNums x) :: v :: ents L vs
  | _, _ => []
theorem ents_length : ∀ {L : List (List Int)} {vs : List Value}, vs.length = L.length → (ents L vs).length = L.length * 2
  | [], _, _ => by simp [ents]
  | _ :: _, [], h => by simp at h
  | _ :: L, _ :: vs, h => by
    have := ents_length (L := L) (vs := vs) (by simpa using h)
    simp only [ents, List.length_cons, this]
    omega
theorem ents_at : ∀ {L : List (List Int)} {vs : List Value} {k : Nat} {x : List Int} {v : Value}, L[k]? = some x → vs[k]? = some v → (ents L vs)[k * 2]? = some (.string (strOfNums x)) ∧ (ents L vs)[k * 2 + 1]? = some v
  | [], _, _, _, _, h, _ => by simp at h
  | _ :: _, [], _, _, _, _, h => by simp at h
  | y :: L, u :: vs, 0, x, v, h, h' => by
    simp at h h'
    subst h h'
    exact ⟨rfl, rfl⟩
  | y :: L, u :: vs, k + 1, x, v, h, h' => by
    have ih := ents_at (L := L) (vs := vs) (k := k) (by simpa using h) (by simpa using h')
    rw [show (k + 1) * 2 = k * 2 + 1 + 1 by omega]
    simp only [ents, List.getElem?_cons_succ]
    exact ih
theorem ents_snoc : ∀ {L : List (List Int)} {vs : List Value} {x : List Int} {v : Value}, vs.length = L.length → ents (L ++ [x]) (vs ++ [v]) = ents L vs ++ [.string (strOfNums x), v]
  | [], [], _, _, _ => rfl
  | [], _ :: _, _, _, h => by simp at h
  | _ :: _, [], _, _, h => by simp at h
  | y :: L, u :: vs, x, v, h => by
    have ih := ents_snoc (L := L) (vs := vs) (x := x) (v := v) (by simpa using h)
    simp only [List.cons_append, ents, ih]
theorem ents_set : ∀ {L : List (List Int)} {vs : List Value} {k : Nat} {v : Value}, vs.length = L.length → ents L (vs.set k v) = (ents L vs).set (k * 2 + 1) v
  | [], _, _, _, _ => by simp [ents]
  | _ :: _, [], _, _, h => by simp at h
  | y :: L, u :: vs, 0, v, _ => rfl
  | y :: L, u :: vs, k + 1, v, h => by
    have ih := ents_set (L := L) (vs := vs) (k := k) (v := v) (by simpa using h)
    rw [show (k + 1) * 2 + 1 = k * 2 + 1 + 1 + 1 by omega]
    simp only [List.set_cons_succ, ents, ih]

/-! ### a book -/
/-- who signed one digest: a row of theirs, in blocks of F -/
def Sgn (w : World) (F : Nat → Prop) (S : List (Int × Int)) (i : Nat) (v : Value) : Prop :=
  ∃ xs : List Int, w.ownsRow 0 3 1 v xs.length (i64s xs) ∧ xs.length ≤ S.length ∧ (∀ who, xs.contains who = signedB S who ((i : Int) + 1)) ∧ ∀ k, v.ownBlock = some k → F k

structure BookB (w : World) (g : Nat) (F : Nat → Prop) (L : List (List Int)) (S : List (Int × Int)) (m : Option Nat) (vE : Value) (vs : List Value) : Prop where
  c0 : w.cell? ⟨g, 0, none⟩ = some (.map m)
  c1 : w.cell? ⟨g, 1, none⟩ = some vE
  f0 : w.frozen? ⟨g, 0, none⟩ = false
  f1 : w.frozen? ⟨g, 1, none⟩ = false
  here : F g
  lt : ∀ k, F k → k < w.heap.size
  rE : w.ownsRow 0 59 2 vE L.length (ents L vs)
  fE : ∀ k, vE.ownBlock = some k → F k ∧ k ≠ g
  lv : vs.length = L.length
  by_ : ∀ x ∈ L, Byts x ∧ x.length ≤ 1000000
  mp : (m = none ∧ L = []) ∨ ∃ bm D, m = some bm ∧ F bm ∧ bm ≠ g ∧ vE.ownBlock ≠ some bm ∧ w.ownsMap Try.prog 9 (plainElem Try.prog 3) bm L.length D ∧ Digs D L
  sg : ∀ i v, vs[i]? = some v → Sgn w (fun k => F k ∧ k ≠ g ∧ vE.ownBlock ≠ some k ∧ m ≠ some k) S i v
  ap : ∀ (i j : Nat) (v v' : Value), vs[i]? = some v → vs[j]? = some v' → i ≠ j → ∀ k, v.ownBlock = some k → v'.ownBlock ≠ some k
  sd : ∀ p ∈ S, 1 ≤ p.2 ∧ p.2 ≤ (L.length : Int)

def IsBook (w : World) (g : Nat) (F : Nat → Prop) (L : List (List Int)) (S : List (Int × Int)) : Prop := ∃ m vE vs, BookB w g F L S m vE vs

section
variable {w w' : World} {g : Nat} {F F' : Nat → Prop} {L : List (List Int)} {S : List (Int × Int)} {m : Option Nat} {vE : Value} {vs : List Value}

theorem map_kept {b n : Nat} {D : DataW Unit} (h : w.ownsMap Try.prog 9 (plainElem Try.prog 3) b n D) (hk : w'.heap[b]? = w.heap[b]?) : w'.ownsMap Try.prog 9 (plainElem Try.prog 3) b n D := by
  obtain ⟨es, clock, hb, r⟩ := h
  exact ⟨es, clock, hk.trans hb, r⟩
theorem Sgn.kept {i : Nat} {v : Value} (h : Sgn w F S i v) (hk : ∀ k, F k → k < w.heap.size → w'.heap[k]? = w.heap[k]?) : Sgn w' F S i v := by
  obtain ⟨xs, ho, hl, hc, hf⟩ := h
  exact ⟨xs, own_kept ho fun k hb hlt => hk k (hf k hb) hlt, hl, hc, hf⟩
theorem Sgn.wider {i : Nat} {v : Value} (h : Sgn w F S i v) (hk : ∀ k, F k → k < w.heap.size → F' k) : Sgn w F' S i v := by
  obtain ⟨xs, ho, hl, hc, hf⟩ := h
  exact ⟨xs, ho, hl, hc, fun k hb => hk k (hf k hb) (own_lt ho hb).1⟩
theorem BookB.kept (h : BookB w g F L S m vE vs) (hs : w.heap.size ≤ w'.heap.size) (hk : ∀ k, F k → w'.heap[k]? = w.heap[k]?) : BookB w' g F L S m vE vs where
  c0 := (World.cell?_of_block (a := ⟨g, 0, none⟩) (hk g h.here)).trans h.c0
  c1 := (World.cell?_of_block (a := ⟨g, 1, none⟩) (hk g h.here)).trans h.c1
  f0 := (World.frozen?_of_block (a := ⟨g, 0, none⟩) (hk g h.here)).trans h.f0
  f1 := (World.frozen?_of_block (a := ⟨g, 1, none⟩) (hk g h.here)).trans h.f1
  here := h.here
  lt := fun k hf => Nat.lt_of_lt_of_le (h.lt k hf) hs
  rE := own_kept h.rE fun k hk' _ => hk k (h.fE k hk').1
  fE := h.fE
  lv := h.lv
  by_ := h.by_
  mp := h.mp.imp id fun ⟨bm, D, h1, h2, h3, h4, h5, h6⟩ => ⟨bm, D, h1, h2, h3, h4, map_kept h5 (hk bm h2), h6⟩
  sg := fun i v hv => (h.sg i v hv).kept fun k hk' _ => hk k hk'.1
  ap := h.ap
  sd := h.sd
theorem IsBook.kept (h : IsBook w g F L S) (hs : w.heap.size ≤ w'.heap.size) (hk : ∀ k, F k → w'.heap[k]? = w.heap[k]?) : IsBook w' g F L S := by
  obtain ⟨a, b, c, h⟩ := h
  exact ⟨a, b, c, h.kept hs hk⟩
theorem IsBook.lt (h : IsBook w g F L S) : ∀ k, F k → k < w.heap.size := by
  obtain ⟨a, b, c, h⟩ := h
  exact h.lt
theorem book_new (w : World) : IsBook (w.alloc (.cells #[.map none, .slice none 0 0] 54)) w.heap.size (fun k => k = w.heap.size) [] [] :=
  ⟨none, .slice none 0 0, [],
    { c0 := by rw [World.cell?_alloc_at _ _ _ _ rfl]; rfl
      c1 := by rw [World.cell?_alloc_at _ _ _ _ rfl]; rfl
      f0 := by rw [World.frozen?, heap_alloc_new]; simp
      f1 := by rw [World.frozen?, heap_alloc_new]; simp
      here := rfl
      lt := fun k hk => by subst hk; simp
      rE := World.ownsRow_nil _ _ _ _
      fE := fun k hk => by simp [Value.ownBlock] at hk
      lv := rfl
      by_ := fun x hx => by simp at hx
      mp := .inl ⟨rfl, rfl⟩
      sg := fun i v hv => by simp at hv
      ap := fun i j v v' hv => by simp at hv
      sd := fun p hp => by simp at hp }⟩
/-- what a look-up gives, whatever the map -/
theorem BookB.look (h : BookB w g F L S m vE vs) {x : List Int} (hx : Byts x) (hn : x.length ≤ maxLen) (d : Nat) :
    (Instr.lookup 51 (.map m) (.string (strOfNums x)) true).run Try.prog (w.drewN d) = .ok (.tuple #[.int .i64 (findB L x : Int), .bool (decide (findB L x ≠ 0))]) (w.drewN d) := by
  rcases h.mp with ⟨rfl, rfl⟩ | ⟨bm, D, rfl, _, _, _, ho, hd⟩
  · exact nil_look hn
  · exact digs_look (map_kept ho rfl) hd hx hn
end

end Go.Proofs.Ytnooippbdfobdaa
