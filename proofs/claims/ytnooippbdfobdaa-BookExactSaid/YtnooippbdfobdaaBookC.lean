/-
  What the statements ask of package book, call by call; the program's book and the page's own side by side.
-/
import Derived.Test.YtnooippbdfobdaaBookAsk
import Derived.Lib.SlBytesConst
import Derived.ArgAppend
namespace Go.Proofs.Ytnooippbdfobdaa
open Go.RowKit

/-- what a book is: in this world, at this block, of these blocks: this list has numbers, these have signed -/
abbrev BookIs := World → Nat → (Nat → Prop) → List (List Int) → List (Int × Int) → Prop
/-- where the program's book is left -/
def BookTo (I : BookIs) (g : Nat) (F : Nat → Prop) (L : List (List Int)) (S : List (Int × Int)) (w w' : World) : Prop :=
  ∃ F' : Nat → Prop, I w' g F' L S ∧ Touch F w w' ∧ ∀ k, F' k → F k ∨ w.heap.size ≤ k

/-- a row of bytes at a block, whatever marks it bears behind its end: it shows these, and all of it can be written -/
structure Wr (w : World) (g c n : Nat) (zs : List Int) : Prop where
  hz : zs.length = n
  hc : n ≤ c
  hm : c ≤ maxLen
  lt : g < w.heap.size
  cells : ∀ i v, (u8s zs)[i]? = some v → w.cell? ⟨g, i, none⟩ = some v
  room : ∀ i, i < c → (w.cell? ⟨g, i, none⟩).isSome = true
  thaw : ∀ i, i < c → w.frozen? ⟨g, i, none⟩ = false

section
variable {w w' : World} {g c n : Nat} {zs : List Int}
theorem Wr.rd (h : Wr w g c n zs) : Rd w (some ⟨g, 0, none⟩) (u8s zs) := fun _ => ⟨g, 0, rfl, h.lt, fun i v hv => by rw [Nat.zero_add]; exact h.cells i v hv⟩
theorem Wr.below (h : Wr w g c n zs) (hb : Below w.heap.size w w') : Wr w' g c n zs where
  hz := h.hz
  hc := h.hc
  hm := h.hm
  lt := Nat.lt_of_lt_of_le h.lt hb.size
  cells := fun i v hv => (hb.cell (p := ⟨g, i, none⟩) h.lt).trans (h.cells i v hv)
  room := fun i hi => by rw [hb.cell (p := ⟨g, i, none⟩) h.lt]; exact h.room i hi
  thaw := fun i hi => (hb.frozen (p := ⟨g, i, none⟩) h.lt).trans (h.thaw i hi)
theorem Wr.drewN (h : Wr w g c n zs) (k : Nat) : Wr (w.drewN k) g c n zs := h.below (drewN_below _ _)
theorem Wr.put (h : Wr w g c n zs) {k : Nat} {y : Int} (hk : k < n) : Wr (w.setCell ⟨g, k, none⟩ (.int .u8 y)) g c n (zs.set k y) where
  hz := by rw [List.length_set]; exact h.hz
  hc := h.hc
  hm := h.hm
  lt := by simpa using h.lt
  cells := fun i v hv => by
    rw [show u8s (zs.set k y) = (u8s zs).set k (.int .u8 y) from by simp [u8s, List.map_set]] at hv
    by_cases hik : i = k
    · subst hik
      rw [List.getElem?_set_self (by rw [u8s_length, h.hz]; exact hk)] at hv
      cases hv
      obtain ⟨u, hu⟩ := Option.isSome_iff_exists.1 (h.room i (Nat.lt_of_lt_of_le hk h.hc))
      exact World.cell?_setCell_same _ _ _ hu
    · rw [List.getElem?_set_ne (Ne.symm hik)] at hv
      exact (World.cell?_setCell_other _ _ _ _ (fun e => hik (congrArg Addr.off e).symm)).trans (h.cells i v hv)
  room := fun i hi => by
    by_cases hik : i = k
    · subst hik
      obtain ⟨u, hu⟩ := Option.isSome_iff_exists.1 (h.room i hi)
      rw [World.cell?_setCell_same _ _ _ hu]; rfl
    · rw [World.cell?_setCell_other _ _ _ _ (fun e => hik (congrArg Addr.off e).symm)]; exact h.room i hi
  thaw := fun i hi => by rw [World.frozen?_setCell]; exact h.thaw i hi
end

set_option maxHeartbeats 1000000 in
/-- such a row is written over: only its own block turns -/
theorem spoil_wr (A : Option Addr) (g c n : Nat) (zs : List Int) (w : World) (hA : A = some ⟨g, 0, none⟩) (h : Wr w g c n zs) (hn : n ≤ 1073741824) :
    Calls Try.prog 15 #[.slice A n c] w fun e w' => e = .returned (.tuple #[]) ∧ Touch (fun k => k = g) w w' := by
  subst hA
  obtain ⟨i0, hi, hz0, hz1, hz2⟩ := info_parts info_u8
  have hm := h.hm
  unfold maxLen at hm
  have hc := h.hc
  go_enter Try.func15, Try.ntmps15
  go_wp2
  go_loopw [2] (fun i wr => ∃ (k : Nat) (ys : List Int), i = .int .i64 k ∧ k ≤ n ∧ Hid (Wr wr g c n ys) ∧ Hid (Touch (fun k => k = g) w wr)) (fun i _ => n - (intOf i).toNat)
  case atStart => exact ⟨0, zs, rfl, by omega, h, Touch.refl _ _⟩
  case round =>
    obtain ⟨k, ys, rfl, hk, HW, HT⟩ := hrel
    clear h
    by_cases hlt : k < n
    · have hc1 : wr.cell? ⟨g, k, none⟩ = some (.int .u8 (ys[k]?.getD 0)) := HW.out.cells k _ (u8s_at (by rw [HW.out.hz]; exact hlt))
      have hf1 := HW.out.thaw k (by omega)
      have j0 : (0 : Int) ≤ (k : Int) := by omega
      have j1 : (k : Int) < (n : Int) := by omega
      clear hi hz0 hz1 hz2
      go_wp2
      go_roundw
      case rel => exact ⟨k + 1, ys.set k (bits .xor .u8 (ys[k]?.getD 0) 85), by go_num, by omega, HW.out.put hlt, HT.out.set (.inl rfl) _⟩
      case measure => simp [intOf]; omega
    · have j1 : ¬ ((k : Int) < (n : Int)) := by omega
      obtain rfl : k = n := by omega
      have HA := Lib.hid (HW.out.below ((Below.refl _ _).alloc (Nat.le_refl _) (.cells #[.int .u8 5] 5)))
      go_wp2_with (at_builtin; refine wpList_append_arg _ rfl _ _ 31 rfl 5 i0 (.int .u8 0) 1 1 Try.underlying31 hi hz0 hz1 hz2 rfl (by decide) g 0 k c (u8s ys) rfl (by rw [u8s_length, HW.out.hz]; omega) (fun j u hj => by rw [Nat.zero_add]; exact HA.out.cells j u hj) ⟨wr.heap.size, 0, none⟩ 1 1 [.int .u8 5] rfl rfl (cell_one_new _ _ _) (ints_oneCell .u8 [5]) (fun hr j hj => ⟨HA.out.room _ (by have hj' : j < 1 := hj; omega), HA.out.thaw _ (by have hj' : j < 1 := hj; omega)⟩) (by unfold maxLen; omega) (by omega) ?_ ?_)
      · intro _
        go_wp2
        go_end0
        exact ⟨rfl, (HT.out.alloc _).set (.inl rfl) _⟩
      · intro _ v' w1 _ hg1
        have hT := (HT.out.alloc (.cells #[.int .u8 5] 5)).trans (Touch.grown (F := fun _ => False) hg1 (fun k' e => by cases e)) (fun k' hf => hf.elim)
        go_wp2
        go_end0
        exact ⟨rfl, hT⟩

/-- bytes that a book is given -/
structure Given (w : World) (F : Nat → Prop) (A : Option Addr) (c n : Nat) (x : List Int) : Prop where
  hz : x.length = n
  hr : Rd w A (u8s x)
  hy : Byts x
  hc : n ≤ c
  hm : c ≤ maxLen
  hn : n ≤ 1000000
  apart : ∀ a, A = some a → 0 < n → ¬ F a.block

structure BookC (I : BookIs) : Prop where
  lt : ∀ {w g F L S}, I w g F L S → ∀ k, F k → k < w.heap.size
  kept : ∀ {w w' g F L S}, I w g F L S → w.heap.size ≤ w'.heap.size → (∀ k, F k → w'.heap[k]? = w.heap[k]?) → I w' g F L S
  new : ∀ w, Calls Try.prog 7 #[] w fun e w' => ∃ g F, e = .returned (.pointer (some ⟨g, 0, none⟩)) ∧ I w' g F [] [] ∧ (∀ k, F k → w.heap.size ≤ k) ∧ Below w.heap.size w w'
  digest_old : ∀ {F : Nat → Prop} (g : Nat) (L : List (List Int)) (S : List (Int × Int)) (A : Option Addr) (c n k : Nat) (x : List Int) (w : World), I w g F L S → Given w F A c n x → L.length ≤ 1000 → findB L x = k + 1 →
    Calls Try.prog 20 #[.pointer (some ⟨g, 0, none⟩), .slice A n c] w fun e w' => e = .returned (.tuple #[.int .i64 ((k + 1 : Nat) : Int), .int .i64 0]) ∧ BookTo I g F L S w w'
  digest_new : ∀ {F : Nat → Prop} (g : Nat) (L : List (List Int)) (S : List (Int × Int)) (A : Option Addr) (c n : Nat) (x : List Int) (w : World), I w g F L S → Given w F A c n x → L.length ≤ 1000 → findB L x = 0 →
    Calls Try.prog 20 #[.pointer (some ⟨g, 0, none⟩), .slice A n c] w fun e w' => e = .returned (.tuple #[.int .i64 ((L.length + 1 : Nat) : Int), .int .i64 0]) ∧ BookTo I g F (L ++ [x]) S w w'
  find_yes : ∀ {F : Nat → Prop} (g : Nat) (L : List (List Int)) (S : List (Int × Int)) (A : Option Addr) (c n k : Nat) (x : List Int) (w : World), I w g F L S → Given w F A c n x → L.length ≤ 1000 → findB L x = k + 1 →
    Calls Try.prog 10 #[.pointer (some ⟨g, 0, none⟩), .slice A n c] w fun e w' => e = .returned (.tuple #[.int .i64 ((k + 1 : Nat) : Int), .int .i64 0]) ∧ BookTo I g F L S w w'
  find_no : ∀ {F : Nat → Prop} (g : Nat) (L : List (List Int)) (S : List (Int × Int)) (A : Option Addr) (c n : Nat) (x : List Int) (w : World), I w g F L S → Given w F A c n x → L.length ≤ 1000 → findB L x = 0 →
    Calls Try.prog 10 #[.pointer (some ⟨g, 0, none⟩), .slice A n c] w fun e w' => e = .returned (.tuple #[.int .i64 0, .int .i64 3]) ∧ BookTo I g F L S w w'
  bytes_yes : ∀ {F : Nat → Prop} (g : Nat) (L : List (List Int)) (S : List (Int × Int)) (k n : Nat) (x : List Int) (w : World), I w g F L S → L[k]? = some x → x.length = n → L.length ≤ 1000 →
    Calls Try.prog 13 #[.pointer (some ⟨g, 0, none⟩), .int .i64 ((k + 1 : Nat) : Int)] w fun e w' => ∃ g' c', e = .returned (.tuple #[.slice (some ⟨g', 0, none⟩) n c', .int .i64 0]) ∧ Wr w' g' c' n x ∧ w.heap.size ≤ g' ∧
      ∃ F' : Nat → Prop, I w' g F' L S ∧ Touch F w w' ∧ (∀ k, F' k → F k ∨ w.heap.size ≤ k) ∧ ¬ F' g'
  bytes_no : ∀ {F : Nat → Prop} (g : Nat) (L : List (List Int)) (S : List (Int × Int)) (d : Int) (w : World), I w g F L S → ¬ (1 ≤ d ∧ d ≤ (L.length : Int)) → L.length ≤ 1000 →
    Calls Try.prog 13 #[.pointer (some ⟨g, 0, none⟩), .int .i64 d] w fun e w' => e = .returned (.tuple #[.slice none 0 0, .int .i64 3]) ∧ BookTo I g F L S w w'
  count : ∀ {F : Nat → Prop} (g : Nat) (L : List (List Int)) (S : List (Int × Int)) (w : World), I w g F L S → L.length ≤ 1000 →
    Calls Try.prog 22 #[.pointer (some ⟨g, 0, none⟩)] w fun e w' => e = .returned (.int .i64 L.length) ∧ ∃ d, w' = w.drewN d
  sign_form : ∀ {F : Nat → Prop} (g : Nat) (L : List (List Int)) (S : List (Int × Int)) (who d : Int) (w : World), I w g F L S → L.length ≤ 1000 → S.length ≤ 1000 → ¬ (1 ≤ who ∧ who ≤ 16) →
    Calls Try.prog 16 #[.pointer (some ⟨g, 0, none⟩), .int .i64 who, .int .i64 d] w fun e w' => e = .returned (.int .i64 1) ∧ BookTo I g F L S w w'
  sign_none : ∀ {F : Nat → Prop} (g : Nat) (L : List (List Int)) (S : List (Int × Int)) (who d : Int) (w : World), I w g F L S → L.length ≤ 1000 → S.length ≤ 1000 → 1 ≤ who ∧ who ≤ 16 → ¬ (1 ≤ d ∧ d ≤ (L.length : Int)) →
    Calls Try.prog 16 #[.pointer (some ⟨g, 0, none⟩), .int .i64 who, .int .i64 d] w fun e w' => e = .returned (.int .i64 3) ∧ BookTo I g F L S w w'
  sign_ok : ∀ {F : Nat → Prop} (g : Nat) (L : List (List Int)) (S : List (Int × Int)) (who d : Int) (w : World), I w g F L S → L.length ≤ 1000 → S.length ≤ 1000 → 1 ≤ who ∧ who ≤ 16 → 1 ≤ d ∧ d ≤ (L.length : Int) →
    Calls Try.prog 16 #[.pointer (some ⟨g, 0, none⟩), .int .i64 who, .int .i64 d] w fun e w' => e = .returned (.int .i64 0) ∧ BookTo I g F L (S ++ [(who, d)]) w w'
  signed : ∀ {F : Nat → Prop} (g : Nat) (L : List (List Int)) (S : List (Int × Int)) (who d : Int) (w : World), I w g F L S → L.length ≤ 1000 → S.length ≤ 1000 → (-9223372036854775808 ≤ who ∧ who ≤ 9223372036854775807) → (-9223372036854775808 ≤ d ∧ d ≤ 9223372036854775807) →
    Calls Try.prog 18 #[.pointer (some ⟨g, 0, none⟩), .int .i64 who, .int .i64 d] w fun e w' => e = .returned (.bool (signedB S who d)) ∧ ∃ m, w' = w.drewN m

section
variable {I : BookIs} {B gb gr : Nat} {F : Nat → Prop} {L L' : List (List Int)} {S S' : List (Int × Int)} {w w' : World}

/-- the program's book alone, above a base -/
def One (I : BookIs) (B gb : Nat) (L : List (List Int)) (S : List (Int × Int)) (w : World) : Prop := ∃ F, I w gb F L S ∧ ∀ k, F k → B ≤ k
/-- both, apart from each other -/
def Pair (I : BookIs) (B gb gr : Nat) (F G : Nat → Prop) (L L' : List (List Int)) (S S' : List (Int × Int)) (w : World) : Prop :=
  (I w gb F L S ∧ ∀ k, F k → B ≤ k) ∧ (IsRef w gr G L' S' ∧ ∀ k, G k → B ≤ k) ∧ ∀ k, F k → ¬ G k

variable {G : Nat → Prop}
theorem Pair.below (K : BookC I) (h : Pair I B gb gr F G L L' S S' w) (hb : Below w.heap.size w w') : Pair I B gb gr F G L L' S S' w' :=
  ⟨⟨K.kept h.1.1 hb.size fun k hk => hb.block k (K.lt h.1.1 k hk), h.1.2⟩, ⟨h.2.1.1.below hb, h.2.1.2⟩, h.2.2⟩
theorem Pair.touch (K : BookC I) (h : Pair I B gb gr F G L L' S S' w) {T : Nat → Prop} (ht : Touch T w w') (hT : ∀ k, T k → ¬ F k ∧ ¬ G k) : Pair I B gb gr F G L L' S S' w' :=
  ⟨⟨K.kept h.1.1 ht.size fun k hk => ht.block k (K.lt h.1.1 k hk) fun hf => (hT k hf).1 hk, h.1.2⟩, ⟨h.2.1.1.kept ht.size fun k hk => ht.block k (h.2.1.1.lt k hk) fun hf => (hT k hf).2 hk, h.2.1.2⟩, h.2.2⟩
theorem Pair.left {L2 : List (List Int)} {S2 : List (Int × Int)} {F' : Nat → Prop} (h : Pair I B gb gr F G L L' S S' w) (hB : B ≤ w.heap.size) (hi : I w' gb F' L2 S2) (ht : Touch F w w') (hf : ∀ k, F' k → F k ∨ w.heap.size ≤ k) : Pair I B gb gr F' G L2 L' S2 S' w' :=
  ⟨⟨hi, fun k hk => by rcases hf k hk with e | e; exact h.1.2 k e; omega⟩, ⟨h.2.1.1.kept ht.size fun k hk => ht.block k (h.2.1.1.lt k hk) fun hf => h.2.2 k hf hk, h.2.1.2⟩, fun k hk hg => by
    rcases hf k hk with e | e
    · exact h.2.2 k e hg
    · have := h.2.1.1.lt k hg; omega⟩
theorem Pair.right (K : BookC I) {L2 : List (List Int)} {S2 : List (Int × Int)} {G' : Nat → Prop} (h : Pair I B gb gr F G L L' S S' w) (hB : B ≤ w.heap.size) (hi : IsRef w' gr G' L2 S2) (ht : Touch G w w') (hf : ∀ k, G' k → G k ∨ w.heap.size ≤ k) : Pair I B gb gr F G' L L2 S S2 w' :=
  ⟨⟨K.kept h.1.1 ht.size fun k hk => ht.block k (K.lt h.1.1 k hk) fun hg => h.2.2 k hk hg, h.1.2⟩, ⟨hi, fun k hk => by rcases hf k hk with e | e; exact h.2.1.2 k e; omega⟩, fun k hk hg => by
    rcases hf k hg with e | e
    · exact h.2.2 k hk e
    · have := K.lt h.1.1 k hk; omega⟩
end

theorem num5_any (n : Int) (w : World) : Calls Try.prog 12 #[.int .i64 n] w fun e w' => e = .returned (.int .i64 n) ∧ w = w' := by
  go_enter Try.func12, Try.ntmps12
  go_wp2
  go_ret
  exact ⟨rfl, rfl⟩

theorem rd_marked (w : World) (cs : List Value) (t : TypeId) (fr : Nat × Nat) : Rd (w.alloc (.cells cs.toArray t fr)) (some ⟨w.heap.size, 0, none⟩) cs := fun _ =>
  ⟨w.heap.size, 0, rfl, by simp, fun i v hv => by
    have hb : (w.alloc (.cells cs.toArray t fr)).heap[w.heap.size]? = some (.cells cs.toArray t fr) := heap_alloc_new w _
    rw [Nat.zero_add]
    simp only [World.cell?, hb]
    simpa using hv⟩
def aL : List Int := [97]
set_option maxHeartbeats 1000000 in
theorem wakes5_any {I : BookIs} (K : BookC I) (w : World) : Calls Try.prog 23 #[] w (Tells w.heap.size w (.bool true)) := by
  have hcv := fun w => Lib.run_convert_bytes_const (P := Try.prog) w 31 5 #[.int .u8 97] 1 1 Try.underlying31 Try.underlying5
  go_enter Try.func23, Try.ntmps23
  go_wp2_with fail
  refine (K.new _).mono ?_
  rintro e w1 ⟨g, F, rfl, hI, hF, hb⟩
  go_wp2_with fail
  obtain ⟨w2, hw2⟩ : ∃ w2, w2 = w1.alloc (.cells #[.int .u8 97] 5 (1, 2)) := ⟨_, rfl⟩
  have hb2 : Below w1.heap.size w1 w2 := by rw [hw2]; exact (Below.refl _ _).alloc (Nat.le_refl _) _
  have hr2 : Rd w2 (some ⟨w1.heap.size, 0, none⟩) (u8s aL) := by rw [hw2]; exact rd_marked w1 [.int .u8 97] _ _
  have hI2 := K.kept hI hb2.size fun k hk => hb2.block k (K.lt hI k hk)
  have hG : Given w2 F (some ⟨w1.heap.size, 0, none⟩) 1 1 aL := ⟨rfl, hr2, fun c hc => by simp [aL] at hc; subst hc; exact ⟨by omega, by omega⟩, by omega, by simp [maxLen], by omega, fun a ha _ hf => by cases ha; have := K.lt hI _ hf; simp at this⟩
  rw [← hw2]
  have hbw : Below w.heap.size w w2 := hb.trans (hb2.mono hb.size)
  clear hw2 hr2 hI
  refine (K.digest_new g [] [] _ 1 1 aL _ hI2 hG (by simp) rfl).mono ?_
  rintro e w3 ⟨rfl, F3, hI3, ht3, _⟩
  have hb3 : Below w.heap.size w w3 := hbw.trans (ht3.below hF hbw.size)
  go_wp2_with fail
  refine (num5_any _ _).mono ?_
  rintro e w' ⟨rfl, rfl⟩
  go_wp2_with fail
  refine (K.count g _ [] _ hI3 (by simp)).mono ?_
  rintro e w4 ⟨rfl, d, rfl⟩
  go_wp2_with fail
  go_ret
  exact ⟨rfl, below_n hb3 d⟩

end Go.Proofs.Ytnooippbdfobdaa
