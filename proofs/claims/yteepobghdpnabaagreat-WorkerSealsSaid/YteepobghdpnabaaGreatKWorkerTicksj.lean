/-
  slices.Clone of transactions, waits, held batches, numbers.
-/
import Derived.Deep.AppendLies
import Derived.Deep.DeepCutAuto
import Derived.Deep.CutRange
import Derived.Deep.RegionLaw
import Derived.Test.YteepobghdpnabaaGreatKWorkerTicksf
import Derived.Test.YteepobghdpnabaaGreatKWorkerTicksi
import Derived.Test.YteepobghdpnabaaGreatKWorkerTickse
import Derived.Test.YteepobghdpnabaaGreatKWorkerTicksg
namespace Go.Proofs.YteepobghdpnabaaGreat
open Go.RowKit

/-- a list in memory is handed back as a new one -/
def Cloned (e s : TypeId) (n : Nat) (xs : List Value) (w : World) (en : Ending) (w' : World) : Prop := ∃ o : Ad, en = .returned o.v ∧ o.n = n ∧ w'.ownsRow w.heap.size e s o.v n xs ∧ Below w.heap.size w w'

set_option maxRecDepth 100000 in
set_option maxHeartbeats 1000000 in
theorem cloneT_any (a : Ad) (l : Nat) (xs : List Value) (w : World) (h : SlIn w a l xs) (hx : xs.length = l * 4) (h1 : ∀ u ∈ xs, u.oneCell' = true) (hn : l ≤ 1000000) :
    Calls Tryz.prog 115 #[a.v] w (Cloned 40 4 l xs w) := by
  obtain ⟨A, n, c⟩ := a
  obtain ⟨hl, hc, hm, hr⟩ := h
  simp only at hl hc hm hr
  subst hl
  unfold Ad.v
  rcases A with _ | ⟨ab, ao, ap⟩
  · have hx0 : xs = [] := by
      rcases Nat.eq_zero_or_pos xs.length with h0 | h0
      · exact List.eq_nil_of_length_eq_zero h0
      · obtain ⟨b, off, he, _⟩ := hr.open_ h0
        cases he
    subst hx0
    obtain rfl : l = 0 := by simp at hx; omega
    have hnil : ∀ w : World, (binOp BinOp.eql 22 (.slice none 0 c) (.slice none 0 0)).run Tryz.prog w = .ok (.bool true) w := fun w => by kernel_rfl
    go_enter Tryz.func115, Tryz.ntmps115
    go_wp2
    go_ret
    exact ⟨noAd, rfl, rfl, World.ownsRow_nil _ _ _ _, Below.refl _ _⟩
  · obtain ⟨i0, hi0, hz0, hz1, hz2⟩ := info_parts info_tx
    have HX := Lib.hid hx
    have HR := Lib.hid hr
    have H1 := Lib.hid h1
    have HA : ∀ j y, xs[j]? = some y → ∀ wX : World, Below w.heap.size w wX → wX.cell? ((⟨ab, ao, ap⟩ : Addr).add j) = some y := fun j y hj wX hb => by
      obtain ⟨b, off, he, hbl, hcell⟩ := hr.open_ (by have := (List.getElem?_eq_some_iff.1 hj).1; omega)
      cases he
      rw [Addr.add_lit]
      exact (hb.cell (p := ⟨ab, ao + j, none⟩) hbl).trans (hcell j y hj)
    have HC := Lib.hid HA
    clear HA hx hr h1
    have hsom : ∀ w : World, (binOp BinOp.eql 22 (.slice (some ⟨ab, ao, ap⟩) l c) (.slice none 0 0)).run Tryz.prog w = .ok (.bool false) w := fun w => by kernel_rfl
    go_enter Tryz.func115, Tryz.ntmps115
    have HN := ownS_new w w.heap.size 40 4 0 [] (by simp) (by simp [maxLen]) (Nat.le_refl _)
    have HO := Lib.hid HN
    clear HN
    go_wp2_with (at_builtin; refine wpList_append_own _ rfl _ _ 22 rfl w.heap.size 40 i0 _ 4 48 Tryz.underlying22 hi0 hz0 hz1 hz2 rfl (by decide) _ 0 [] rfl HO.out ⟨ab, ao, ap⟩ l c xs rfl HX.out (fun j y hj => HC.out j y hj _ ((Below.refl _ _).alloc (Nat.le_refl _) _)) H1.out (by unfold maxLen; omega) (by omega) (by simp) ?_)
    intro v' w' hown hg _
    have hb := belowS_own ((Below.refl w.heap.size w).alloc (Nat.le_refl _) _) HO.out hg (by simp)
    obtain ⟨A', c', rfl, _⟩ := ownS_slice hown
    go_wp2
    go_ret
    refine ⟨⟨A', l, c'⟩, by first | rfl | simp [Ad.v], rfl, ?_, hb⟩
    have := ownS_conv (ys := xs) (n' := l) hown (by simp) (by simp)
    first | exact this | simpa [Ad.v] using this

set_option maxRecDepth 100000 in
set_option maxHeartbeats 1000000 in
theorem cloneW_any (a : Ad) (l : Nat) (xs : List Value) (w : World) (h : SlIn w a l xs) (hx : xs.length = l * 2) (h1 : ∀ u ∈ xs, u.oneCell' = true) (hn : l ≤ 1000000) :
    Calls Tryz.prog 123 #[a.v] w (Cloned 56 2 l xs w) := by
  obtain ⟨A, n, c⟩ := a
  obtain ⟨hl, hc, hm, hr⟩ := h
  simp only at hl hc hm hr
  subst hl
  unfold Ad.v
  rcases A with _ | ⟨ab, ao, ap⟩
  · have hx0 : xs = [] := by
      rcases Nat.eq_zero_or_pos xs.length with h0 | h0
      · exact List.eq_nil_of_length_eq_zero h0
      · obtain ⟨b, off, he, _⟩ := hr.open_ h0
        cases he
    subst hx0
    obtain rfl : l = 0 := by simp at hx; omega
    have hnil : ∀ w : World, (binOp BinOp.eql 23 (.slice none 0 c) (.slice none 0 0)).run Tryz.prog w = .ok (.bool true) w := fun w => by kernel_rfl
    go_enter Tryz.func123, Tryz.ntmps123
    go_wp2
    go_ret
    exact ⟨noAd, rfl, rfl, World.ownsRow_nil _ _ _ _, Below.refl _ _⟩
  · obtain ⟨i0, hi0, hz0, hz1, hz2⟩ := info_parts info_zwait
    have HX := Lib.hid hx
    have HR := Lib.hid hr
    have H1 := Lib.hid h1
    have HA : ∀ j y, xs[j]? = some y → ∀ wX : World, Below w.heap.size w wX → wX.cell? ((⟨ab, ao, ap⟩ : Addr).add j) = some y := fun j y hj wX hb => by
      obtain ⟨b, off, he, hbl, hcell⟩ := hr.open_ (by have := (List.getElem?_eq_some_iff.1 hj).1; omega)
      cases he
      rw [Addr.add_lit]
      exact (hb.cell (p := ⟨ab, ao + j, none⟩) hbl).trans (hcell j y hj)
    have HC := Lib.hid HA
    clear HA hx hr h1
    have hsom : ∀ w : World, (binOp BinOp.eql 23 (.slice (some ⟨ab, ao, ap⟩) l c) (.slice none 0 0)).run Tryz.prog w = .ok (.bool false) w := fun w => by kernel_rfl
    go_enter Tryz.func123, Tryz.ntmps123
    have HN := ownS_new w w.heap.size 56 2 0 [] (by simp) (by simp [maxLen]) (Nat.le_refl _)
    have HO := Lib.hid HN
    clear HN
    go_wp2_with (at_builtin; refine wpList_append_own _ rfl _ _ 23 rfl w.heap.size 56 i0 _ 2 32 Tryz.underlying23 hi0 hz0 hz1 hz2 rfl (by decide) _ 0 [] rfl HO.out ⟨ab, ao, ap⟩ l c xs rfl HX.out (fun j y hj => HC.out j y hj _ ((Below.refl _ _).alloc (Nat.le_refl _) _)) H1.out (by unfold maxLen; omega) (by omega) (by simp) ?_)
    intro v' w' hown hg _
    have hb := belowS_own ((Below.refl w.heap.size w).alloc (Nat.le_refl _) _) HO.out hg (by simp)
    obtain ⟨A', c', rfl, _⟩ := ownS_slice hown
    go_wp2
    go_ret
    refine ⟨⟨A', l, c'⟩, by first | rfl | simp [Ad.v], rfl, ?_, hb⟩
    have := ownS_conv (ys := xs) (n' := l) hown (by simp) (by simp)
    first | exact this | simpa [Ad.v] using this

set_option maxRecDepth 100000 in
set_option maxHeartbeats 1000000 in
theorem cloneH_any (a : Ad) (l : Nat) (xs : List Value) (w : World) (h : SlIn w a l xs) (hx : xs.length = l * 4) (h1 : ∀ u ∈ xs, u.oneCell' = true) (hn : l ≤ 1000000) :
    Calls Tryz.prog 125 #[a.v] w (Cloned 70 4 l xs w) := by
  obtain ⟨A, n, c⟩ := a
  obtain ⟨hl, hc, hm, hr⟩ := h
  simp only at hl hc hm hr
  subst hl
  unfold Ad.v
  rcases A with _ | ⟨ab, ao, ap⟩
  · have hx0 : xs = [] := by
      rcases Nat.eq_zero_or_pos xs.length with h0 | h0
      · exact List.eq_nil_of_length_eq_zero h0
      · obtain ⟨b, off, he, _⟩ := hr.open_ h0
        cases he
    subst hx0
    obtain rfl : l = 0 := by simp at hx; omega
    have hnil : ∀ w : World, (binOp BinOp.eql 24 (.slice none 0 c) (.slice none 0 0)).run Tryz.prog w = .ok (.bool true) w := fun w => by kernel_rfl
    go_enter Tryz.func125, Tryz.ntmps125
    go_wp2
    go_ret
    exact ⟨noAd, rfl, rfl, World.ownsRow_nil _ _ _ _, Below.refl _ _⟩
  · obtain ⟨i0, hi0, hz0, hz1, hz2⟩ := info_parts info_zheld
    have HX := Lib.hid hx
    have HR := Lib.hid hr
    have H1 := Lib.hid h1
    have HA : ∀ j y, xs[j]? = some y → ∀ wX : World, Below w.heap.size w wX → wX.cell? ((⟨ab, ao, ap⟩ : Addr).add j) = some y := fun j y hj wX hb => by
      obtain ⟨b, off, he, hbl, hcell⟩ := hr.open_ (by have := (List.getElem?_eq_some_iff.1 hj).1; omega)
      cases he
      rw [Addr.add_lit]
      exact (hb.cell (p := ⟨ab, ao + j, none⟩) hbl).trans (hcell j y hj)
    have HC := Lib.hid HA
    clear HA hx hr h1
    have hsom : ∀ w : World, (binOp BinOp.eql 24 (.slice (some ⟨ab, ao, ap⟩) l c) (.slice none 0 0)).run Tryz.prog w = .ok (.bool false) w := fun w => by kernel_rfl
    go_enter Tryz.func125, Tryz.ntmps125
    have HN := ownS_new w w.heap.size 70 4 0 [] (by simp) (by simp [maxLen]) (Nat.le_refl _)
    have HO := Lib.hid HN
    clear HN
    go_wp2_with (at_builtin; refine wpList_append_own _ rfl _ _ 24 rfl w.heap.size 70 i0 _ 4 48 Tryz.underlying24 hi0 hz0 hz1 hz2 rfl (by decide) _ 0 [] rfl HO.out ⟨ab, ao, ap⟩ l c xs rfl HX.out (fun j y hj => HC.out j y hj _ ((Below.refl _ _).alloc (Nat.le_refl _) _)) H1.out (by unfold maxLen; omega) (by omega) (by simp) ?_)
    intro v' w' hown hg _
    have hb := belowS_own ((Below.refl w.heap.size w).alloc (Nat.le_refl _) _) HO.out hg (by simp)
    obtain ⟨A', c', rfl, _⟩ := ownS_slice hown
    go_wp2
    go_ret
    refine ⟨⟨A', l, c'⟩, by first | rfl | simp [Ad.v], rfl, ?_, hb⟩
    have := ownS_conv (ys := xs) (n' := l) hown (by simp) (by simp)
    first | exact this | simpa [Ad.v] using this

set_option maxRecDepth 100000 in
set_option maxHeartbeats 1000000 in
theorem cloneI_any (a : Ad) (l : Nat) (xs : List Value) (w : World) (h : SlIn w a l xs) (hx : xs.length = l * 1) (h1 : ∀ u ∈ xs, u.oneCell' = true) (hn : l ≤ 1000000) :
    Calls Tryz.prog 124 #[a.v] w (Cloned 3 1 l xs w) := by
  obtain ⟨A, n, c⟩ := a
  obtain ⟨hl, hc, hm, hr⟩ := h
  simp only at hl hc hm hr
  subst hl
  unfold Ad.v
  rcases A with _ | ⟨ab, ao, ap⟩
  · have hx0 : xs = [] := by
      rcases Nat.eq_zero_or_pos xs.length with h0 | h0
      · exact List.eq_nil_of_length_eq_zero h0
      · obtain ⟨b, off, he, _⟩ := hr.open_ h0
        cases he
    subst hx0
    obtain rfl : l = 0 := by simp at hx; omega
    have hnil : ∀ w : World, (binOp BinOp.eql 25 (.slice none 0 c) (.slice none 0 0)).run Tryz.prog w = .ok (.bool true) w := fun w => by kernel_rfl
    go_enter Tryz.func124, Tryz.ntmps124
    go_wp2
    go_ret
    exact ⟨noAd, rfl, rfl, World.ownsRow_nil _ _ _ _, Below.refl _ _⟩
  · obtain ⟨i0, hi0, hz0, hz1, hz2⟩ := info_parts info_zint
    have HX := Lib.hid hx
    have HR := Lib.hid hr
    have H1 := Lib.hid h1
    have HA : ∀ j y, xs[j]? = some y → ∀ wX : World, Below w.heap.size w wX → wX.cell? ((⟨ab, ao, ap⟩ : Addr).add j) = some y := fun j y hj wX hb => by
      obtain ⟨b, off, he, hbl, hcell⟩ := hr.open_ (by have := (List.getElem?_eq_some_iff.1 hj).1; omega)
      cases he
      rw [Addr.add_lit]
      exact (hb.cell (p := ⟨ab, ao + j, none⟩) hbl).trans (hcell j y hj)
    have HC := Lib.hid HA
    clear HA hx hr h1
    have hsom : ∀ w : World, (binOp BinOp.eql 25 (.slice (some ⟨ab, ao, ap⟩) l c) (.slice none 0 0)).run Tryz.prog w = .ok (.bool false) w := fun w => by kernel_rfl
    go_enter Tryz.func124, Tryz.ntmps124
    have HN := ownS_new w w.heap.size 3 1 0 [] (by simp) (by simp [maxLen]) (Nat.le_refl _)
    have HO := Lib.hid HN
    clear HN
    go_wp2_with (at_builtin; refine wpList_append_own _ rfl _ _ 25 rfl w.heap.size 3 i0 _ 1 8 Tryz.underlying25 hi0 hz0 hz1 hz2 rfl (by decide) _ 0 [] rfl HO.out ⟨ab, ao, ap⟩ l c xs rfl HX.out (fun j y hj => HC.out j y hj _ ((Below.refl _ _).alloc (Nat.le_refl _) _)) H1.out (by unfold maxLen; omega) (by omega) (by simp) ?_)
    intro v' w' hown hg _
    have hb := belowS_own ((Below.refl w.heap.size w).alloc (Nat.le_refl _) _) HO.out hg (by simp)
    obtain ⟨A', c', rfl, _⟩ := ownS_slice hown
    go_wp2
    go_ret
    refine ⟨⟨A', l, c'⟩, by first | rfl | simp [Ad.v], rfl, ?_, hb⟩
    have := ownS_conv (ys := xs) (n' := l) hown (by simp) (by simp)
    first | exact this | simpa [Ad.v] using this

end Go.Proofs.YteepobghdpnabaaGreat
namespace Go.Proofs.YteepobghdpnabaaGreat
open Go.RowKit

set_option maxHeartbeats 4000000 in
theorem copied_any (a N : Int) (o : Ad) (L : List TxD) (w : World) (h : SlIn w o L.length (txs L)) (hn : L.length ≤ 1000000) :
    Calls Tryz.prog 80 #[.agg #[.int .i64 a, .int .i64 N, o.v]] w fun e w' => ∃ o' : Ad, e = .returned (.agg #[.int .i64 a, .int .i64 N, o'.v]) ∧
      o'.n = L.length ∧ w'.ownsRow w.heap.size 40 4 o'.v L.length (txs L) ∧ Below w.heap.size w w' := by
  obtain ⟨A, n, c⟩ := o
  have HI := Lib.hid h
  unfold Ad.v
  clear h
  go_enter Tryz.func80, Tryz.ntmps80
  go_wp2_with fail
  refine (cloneT_any ⟨A, n, c⟩ L.length (txs L) _ ((HI.out.below ((Below.refl _ _).alloc (Nat.le_refl _) _)).below ((Below.refl _ _).alloc (Nat.le_refl _) _)) (txs_length L) (txs_one L) hn).mono ?_
  rintro e w1 ⟨⟨A', n', c'⟩, rfl, hn', hob, hb⟩
  simp only at hn'
  subst hn'
  simp only [Ad.v] at hob
  have bx := (box_new w [.int .i64 a, .int .i64 N, .slice A n c] 42).below ((Below.refl _ _).alloc (Nat.le_refl _) (.cells #[.int .i64 0, .int .i64 0, .slice none 0 0] 42)) (by simp)
  have bx1 : Box w1 w.heap.size [.int .i64 a, .int .i64 N, .slice A n c] := bx.below hb (by simp; omega)
  have by0 := box_new (w.alloc (.cells #[.int .i64 a, .int .i64 N, .slice A n c] 42)) [.int .i64 0, .int .i64 0, .slice none 0 0] 42
  have by1 : Box w1 (w.heap.size + 1) [.int .i64 0, .int .i64 0, .slice none 0 0] := by
    have := by0.below hb (by simp)
    simpa using this
  have k0 := (bx1.2 0 _ rfl).1
  have k1 := (bx1.2 1 _ rfl).1
  have k2 := (bx1.2 2 _ rfl).1
  have f2 := (bx1.2 2 _ rfl).2
  have l0 := (by1.2 0 _ rfl).1
  have l1 := (by1.2 1 _ rfl).1
  have l2 := (by1.2 2 _ rfl).1
  have m0 := (by1.2 0 _ rfl).2
  have m1 := (by1.2 1 _ rfl).2
  have m2 := (by1.2 2 _ rfl).2
  clear bx bx1 by0 by1
  have hb3 : Below w.heap.size w w1 := (((Below.refl _ _).alloc (Nat.le_refl _) _).alloc (by simp) _).trans (hb.mono (by simp; omega))
  have hob2 : w1.ownsRow (w.heap.size + 1 + 1) 40 4 (.slice A' L.length c') L.length (txs L) := ownS_more hob (by simp)
  have HOB := Lib.hid hob2
  have HB3 := Lib.hid hb3
  clear hob hob2
  unfold Ad.v
  go_wp2_with fail
  refine bodyPost_ret (v := .agg #[.int .i64 a, .int .i64 N, .slice A' L.length c']) (by simp [results, Tryz.results80, go_sem, l0, l1, l2]) rfl ⟨Ad.mk A' L.length c', rfl, rfl, ?_, ?_⟩
  · exact ownS_more (B := w.heap.size + 1 + 1) (ownsRow_setCell_below (ownsRow_setCell_below (ownsRow_setCell_below (ownsRow_setCell_below HOB.out (by simp; omega) _) (by simp) _) (by simp) _) (by simp) _) (by omega)
  · exact (((HB3.out.setCell (by simp) _).setCell (by simp) _).setCell (by simp) _).setCell (by simp) _

end Go.Proofs.YteepobghdpnabaaGreat
namespace Go.Proofs.YteepobghdpnabaaGreat
open Go.RowKit

theorem set_same {α : Type} {l : List α} {i : Nat} {x : α} (h : l[i]? = some x) : l.set i x = l := by
  apply List.ext_getElem?
  intro j
  by_cases hj : i = j
  · subst hj
    rw [List.getElem?_set_self (List.getElem?_eq_some_iff.1 h).1, h]
  · rw [List.getElem?_set_ne hj]

/-- the first k of the lists are the call's own -/
structure Mid {α : Type} (K : Kd α) (B C : Nat) (w : World) (o : Ad) (ms0 ms : List (α × Ad)) (k : Nat) : Prop where
  row : w.ownsRow B K.e K.s o.v o.n (cellsK K ms)
  len : ms.length = o.n
  map : ms.map Prod.fst = ms0.map Prod.fst
  rest : ∀ j, k ≤ j → ms[j]? = ms0[j]?
  sub : ∀ j x, j < k → ms[j]? = some x → w.ownsRow C K.e2 K.s2 x.2.v x.2.n (K.bd x.1) ∧ K.len x.1 = x.2.n
  nod : ∀ i j x y, i < j → j < k → ms[i]? = some x → ms[j]? = some y → ∀ b, x.2.v.ownBlock = some b → y.2.v.ownBlock ≠ some b
section
variable {α : Type} {K : Kd α} {B C : Nat} {w w1 w2 : World} {o o' : Ad} {ms0 ms : List (α × Ad)} {k : Nat} {x : α × Ad}
theorem mid_start (h : w.ownsRow B K.e K.s o.v o.n (cellsK K ms0)) (hl : ms0.length = o.n) : Mid K B C w o ms0 ms0 0 := ⟨h, hl, rfl, fun _ _ => rfl, fun j x hj => by omega, fun i j x y hi hj => by omega⟩
theorem Mid.all (h : Mid K B C w o ms0 ms k) (hk : o.n ≤ k) {x : α × Ad} (hx : x ∈ ms) : w.ownsRow C K.e2 K.s2 x.2.v x.2.n (K.bd x.1) ∧ K.len x.1 = x.2.n := by
  obtain ⟨i, hi⟩ := List.mem_iff_getElem?.1 hx
  exact h.sub i x (by have := (List.getElem?_eq_some_iff.1 hi).1; have := h.len; omega) hi
theorem Mid.end_ (h : Mid K B C w o ms0 ms k) (hk : o.n ≤ k) (hBC : B ≤ C) : RowOwn K B w o ms ∧ ms.map Prod.fst = ms0.map Prod.fst := by
  refine ⟨⟨h.row, h.len, fun x hx => ⟨ownS_more (h.all hk hx).1 hBC, (h.all hk hx).2⟩, ?_⟩, h.map⟩
  · rw [List.pairwise_iff_getElem]
    intro i j hi hj hij
    exact h.nod i j _ _ hij (by have := h.len; omega) (List.getElem?_eq_getElem hi) (List.getElem?_eq_getElem hj)
/-- a call that makes the next list, and its store: whatever the stores write besides -/
theorem Mid.step (h : Mid K B C w o ms0 ms k) (hC : C ≤ w.heap.size) (hx : ms0[k]? = some x) (hb : Below w.heap.size w w1) (ho : w1.ownsRow w.heap.size K.e2 K.s2 o'.v o'.n (K.bd x.1)) (hl : K.len x.1 = o'.n)
    (hr : w2.ownsRow B K.e K.s o.v o.n (cellsK K (ms.set k (x.1, o')))) (ht : Touch (fun b => o.v.ownBlock = some b) w1 w2) : Mid K B C w2 o ms0 (ms.set k (x.1, o')) (k + 1) := by
  have hkx : ms[k]? = some x := (h.rest k (Nat.le_refl _)).trans hx
  have hkl : k < ms.length := (List.getElem?_eq_some_iff.1 hkx).1
  have hself : (ms.set k (x.1, o'))[k]? = some (x.1, o') := List.getElem?_set_self hkl
  have hoth : ∀ j, j ≠ k → (ms.set k (x.1, o'))[j]? = ms[j]? := fun j hj => List.getElem?_set_ne (Ne.symm hj)
  have hbo : ∀ b, o.v.ownBlock = some b → o'.v.ownBlock ≠ some b := fun b h1 h2 => by
    have := (own_lt ho h2).2
    have := (own_lt h.row h1).1
    omega
  have ho2 : w2.ownsRow C K.e2 K.s2 o'.v o'.n (K.bd x.1) := ownS_more (own_kept ho fun g hg hlt => ht.block g hlt fun hf => hbo g hf hg) hC
  refine ⟨hr, by rw [List.length_set]; exact h.len, ?_, fun j hj => ?_, fun j y hj hy => ?_, fun i j y z hij hj hy hz b hyb hzb => ?_⟩
  · rw [← h.map, List.map_set]
    exact set_same (by rw [List.getElem?_map, hkx]; rfl)
  · rw [hoth j (by omega)]; exact h.rest j (by omega)
  · by_cases hjk : j = k
    · subst hjk
      rw [hself] at hy
      cases hy
      exact ⟨ho2, hl⟩
    · rw [hoth j hjk] at hy
      obtain ⟨h1, h2⟩ := h.sub j y (by omega) hy
      refine ⟨own_kept (ownS_below h1 hb) fun g hg hlt => ht.block g hlt fun hf => ?_, h2⟩
      exact own_unlike h.row h1 K.ne hf hg
  · rw [hoth i (by omega)] at hy
    by_cases hjk : j = k
    · subst hjk
      rw [hself] at hz
      cases hz
      have := (own_lt (h.sub i y hij hy).1 hyb).1
      have := (own_lt ho hzb).2
      omega
    · rw [hoth j hjk] at hz
      exact h.nod i j y z hij (by omega) hy hz b hyb hzb
theorem Mid.at_ (h : Mid K B C w o ms0 ms k) (hx : ms0[k]? = some x) : ms[k]? = some x ∧ k < o.n := by
  have hkx : ms[k]? = some x := (h.rest k (Nat.le_refl _)).trans hx
  exact ⟨hkx, by have := (List.getElem?_eq_some_iff.1 hkx).1; have := h.len; omega⟩
/-- the row's cells are found in memory -/
theorem Mid.cells (h : Mid K B C w o ms0 ms k) (hx : ms0[k]? = some x) : ∃ g c, o.v = .slice (some ⟨g, 0, none⟩) o.n c ∧ o.A = some ⟨g, 0, none⟩ ∧ o.c = c ∧ B ≤ g ∧ g < w.heap.size ∧ (∀ j v, (K.cells x.1 x.2.v)[j]? = some v → w.cell? ⟨g, k * K.s + j, none⟩ = some v) ∧ ∀ j, w.frozen? ⟨g, j, none⟩ = false := by
  obtain ⟨hkx, hk⟩ := h.at_ hx
  obtain ⟨g, c, hv, hB, hg⟩ := h.row.form (by omega)
  have hv' := hv
  simp only [Ad.v, Value.slice.injEq, true_and] at hv'
  have hrow := h.row
  rw [hv] at hrow
  refine ⟨g, c, hv, hv'.1, hv'.2, hB, hg, fun j v hj => ?_, fun j => hrow.frozenAt j⟩
  have h1 := cellsK_at K hkx hj
  have hl := (List.getElem?_eq_some_iff.1 h1).1
  rw [cellsK_length] at hl
  have := hrow.cellAt (k * K.s + j) (by rw [← h.len]; exact hl)
  rw [this, h1]
theorem Mid.touch {F : Nat → Prop} (h : Mid K B C w o ms0 ms k) (ht : Touch F w w1) (hF : ∀ b, F b → b < B) (hBC : B ≤ C) : Mid K B C w1 o ms0 ms k :=
  ⟨own_kept h.row fun g hg hl => ht.block g hl fun hf => by have := (own_lt h.row hg).2; have := hF g hf; omega, h.len, h.map, h.rest, fun j x hj hx => ⟨own_kept (h.sub j x hj hx).1 fun g hg hl => ht.block g hl fun hf => by have := (own_lt (h.sub j x hj hx).1 hg).2; have := hF g hf; omega, (h.sub j x hj hx).2⟩, h.nod⟩
end

end Go.Proofs.YteepobghdpnabaaGreat
