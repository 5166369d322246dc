/-
 A row of structs whose lists are being copied, one by one.
-/
import Derived.Test.YteepobghdpnabaaGreatKBf
import Derived.Test.YteepobghdpnabaaGreatKBh
namespace Go.Proofs.YteepobghdpnabaaGreat
open Go.RowKit

theorem set_same {α : Type} {l : List α} {i : Nat} {x : α} (h : l[i]? = some x) : l.set i x = l := by
 apply List.ext_getElem?
 intro j
 by_cases hj : i = j
 ·subst hj
  rw [List.getElem?_set_self (List.getElem?_eq_some_iff.1 h).1, h]
 ·rw [List.getElem?_set_ne hj]

structure Mid {α : Type} (K : Kd α) (B C : Nat) (w : World) (o : Ad) (ms0 ms : List (α × Ad)) (k : Nat) : Prop where
 row : w.ownsRow B K.e K.s o.v o.n (cellsK K ms)
 len : ms.length = o.n
 map : ms.map Prod.fst = ms0.map Prod.fst
 rest : ∀ j, k ≤ j → ms[j]? = ms0[j]?
 sub : ∀ j x, j < k → ms[j]? = some x → w.ownsRow C K.e2 K.s2 x.2.v x.2.n (K.bd x.1) ∧ K.len x.1 = x.2.n
 nod : ∀ i j x y, i < j → j < k → ms[i]? = some x → ms[j]? = some y → ∀ b, x.2.v.ownBlock = some b → y.2.v.ownBlock ≠ some b
section
variable {α : Type} {K : Kd α} {B C : Nat} {w w1 w2 : World} {o o' : Ad} {ms0 ms : List (α × Ad)} {k : Nat} {x : α × Ad}
theorem mid_start (h : w.ownsRow B K.e K.s o.v o.n (cellsK K ms0)) (hl : ms0.length = o.n) : Mid K B C w o ms0 ms0 0 := ⟨h, hl, rfl, fun _ _ => rfl, fun j x hj => by omega, fun i j x y hi hj => by omega⟩
theorem Mid.all (h : Mid K B C w o ms0 ms k) (hk : o.n ≤ k) {x : α × Ad} (hx : x ∈ ms) : w.ownsRow C K.e2 K.s2 x.2.v x.2.n (K.bd x.1) ∧ K.len x.1 = x.2.n := by
 obtain ⟨i, hi⟩ := List.mem_iff_getElem?.1 hx
 exact h.sub i x (by have := (List.getElem?_eq_some_iff.1 hi).1; have := h.len; omega) hi
theorem Mid.end_ (h : Mid K B C w o ms0 ms k) (hk : o.n ≤ k) (hBC : B ≤ C) : RowOwn K B w o ms ∧ ms.map Prod.fst = ms0.map Prod.fst := by
 refine ⟨⟨h.row, h.len, fun x hx => ⟨ownS_more (h.all hk hx).1 hBC, (h.all hk hx).2⟩, ?_⟩, h.map⟩
 ·rw [List.pairwise_iff_getElem]
  intro i j hi hj hij
  exact h.nod i j _ _ hij (by have := h.len; omega) (List.getElem?_eq_getElem hi) (List.getElem?_eq_getElem hj)
theorem Mid.step (h : Mid K B C w o ms0 ms k) (hC : C ≤ w.heap.size) (hx : ms0[k]? = some x) (hb : Below w.heap.size w w1) (ho : w1.ownsRow w.heap.size K.e2 K.s2 o'.v o'.n (K.bd x.1)) (hl : K.len x.1 = o'.n)
  (hr : w2.ownsRow B K.e K.s o.v o.n (cellsK K (ms.set k (x.1, o')))) (ht : Touch (fun b => o.v.ownBlock = some b) w1 w2) : Mid K B C w2 o ms0 (ms.set k (x.1, o')) (k + 1) := by
 have hkx : ms[k]? = some x := (h.rest k (Nat.le_refl _)).trans hx
 have hkl : k < ms.length := (List.getElem?_eq_some_iff.1 hkx).1
 have hself : (ms.set k (x.1, o'))[k]? = some (x.1, o') := List.getElem?_set_self hkl
 have hoth : ∀ j, j ≠ k → (ms.set k (x.1, o'))[j]? = ms[j]? := fun j hj => List.getElem?_set_ne (Ne.symm hj)
 have hbo : ∀ b, o.v.ownBlock = some b → o'.v.ownBlock ≠ some b := fun b h1 h2 => by
  have := (own_lt ho h2).2
  have := (own_lt h.row h1).1
  omega
 have ho2 : w2.ownsRow C K.e2 K.s2 o'.v o'.n (K.bd x.1) := ownS_more (own_kept ho fun g hg hlt => ht.block g hlt fun hf => hbo g hf hg) hC
 refine ⟨hr, by rw [List.length_set]; exact h.len, ?_, fun j hj => ?_, fun j y hj hy => ?_, fun i j y z hij hj hy hz b hyb hzb => ?_⟩
 ·rw [← h.map, List.map_set]
  exact set_same (by rw [List.getElem?_map, hkx]; rfl)
 ·rw [hoth j (by omega)]; exact h.rest j (by omega)
 ·by_cases hjk : j = k
  ·subst hjk
   rw [hself] at hy
   cases hy
   exact ⟨ho2, hl⟩
  ·rw [hoth j hjk] at hy
   obtain ⟨h1, h2⟩ := h.sub j y (by omega) hy
   refine ⟨own_kept (ownS_below h1 hb) fun g hg hlt => ht.block g hlt fun hf => ?_, h2⟩
   exact own_unlike h.row h1 K.ne hf hg
 ·rw [hoth i (by omega)] at hy
  by_cases hjk : j = k
  ·subst hjk
   rw [hself] at hz
   cases hz
   have := (own_lt (h.sub i y hij hy).1 hyb).1
   have := (own_lt ho hzb).2
   omega
  ·rw [hoth j hjk] at hz
   exact h.nod i j y z hij (by omega) hy hz b hyb hzb
theorem Mid.at_ (h : Mid K B C w o ms0 ms k) (hx : ms0[k]? = some x) : ms[k]? = some x ∧ k < o.n := by
 have hkx : ms[k]? = some x := (h.rest k (Nat.le_refl _)).trans hx
 exact ⟨hkx, by have := (List.getElem?_eq_some_iff.1 hkx).1; have := h.len; omega⟩
theorem Mid.cells (h : Mid K B C w o ms0 ms k) (hx : ms0[k]? = some x) : ∃ g c, o.v = .slice (some ⟨g, 0, none⟩) o.n c ∧ o.A = some ⟨g, 0, none⟩ ∧ o.c = c ∧ B ≤ g ∧ g < w.heap.size ∧ (∀ j v, (K.cells x.1 x.2.v)[j]? = some v → w.cell? ⟨g, k * K.s + j, none⟩ = some v) ∧ ∀ j, w.frozen? ⟨g, j, none⟩ = false := by
 obtain ⟨hkx, hk⟩ := h.at_ hx
 obtain ⟨g, c, hv, hB, hg⟩ := h.row.form (by omega)
 have hv' := hv
 simp only [Ad.v, Value.slice.injEq, true_and] at hv'
 have hrow := h.row
 rw [hv] at hrow
 refine ⟨g, c, hv, hv'.1, hv'.2, hB, hg, fun j v hj => ?_, fun j => hrow.frozenAt j⟩
 have h1 := cellsK_at K hkx hj
 have hl := (List.getElem?_eq_some_iff.1 h1).1
 rw [cellsK_length] at hl
 have := hrow.cellAt (k * K.s + j) (by rw [← h.len]; exact hl)
 rw [this, h1]
theorem Mid.touch {F : Nat → Prop} (h : Mid K B C w o ms0 ms k) (ht : Touch F w w1) (hF : ∀ b, F b → b < B) (hBC : B ≤ C) : Mid K B C w1 o ms0 ms k :=
 ⟨own_kept h.row fun g hg hl => ht.block g hl fun hf => by have := (own_lt h.row hg).2; have := hF g hf; omega, h.len, h.map, h.rest, fun j x hj hx => ⟨own_kept (h.sub j x hj hx).1 fun g hg hl => ht.block g hl fun hf => by have := (own_lt (h.sub j x hj hx).1 hg).2; have := hF g hf; omega, (h.sub j x hj hx).2⟩, h.nod⟩
end

end Go.Proofs.YteepobghdpnabaaGreat
namespace Go.Proofs.YteepobghdpnabaaGreat
open Go.RowKit

structure WFew (P : WkD) (m : Nat) : Prop where
 o : P.O.length ≤ m
 w : P.W.length ≤ m
 h : P.H.length ≤ m
 r : P.R.length ≤ m
 s : ∀ x ∈ P.W, x.S.length ≤ m
 l : ∀ x ∈ P.H, x.L.length ≤ m
theorem WFew.more {P : WkD} {m m' : Nat} (h : WFew P m) (hm : m ≤ m') : WFew P m' := ⟨Nat.le_trans h.o hm, Nat.le_trans h.w hm, Nat.le_trans h.h hm, Nat.le_trans h.r hm, fun x hx => Nat.le_trans (h.s x hx) hm, fun x hx => Nat.le_trans (h.l x hx) hm⟩
theorem len_fst {α : Type} {ms : List (α × Ad)} {l : List α} (h : ms.map Prod.fst = l) : ms.length = l.length := by rw [← h, List.length_map]
theorem mem_fst {α : Type} {ms : List (α × Ad)} {l : List α} (h : ms.map Prod.fst = l) {x : α × Ad} (hx : x ∈ ms) : x.1 ∈ l := by rw [← h]; exact List.mem_map_of_mem hx

def Cloned9 (P : WkD) (w : World) (e : Ending) (w' : World) : Prop := ∃ a' : WkA, e = .returned (wkV P a') ∧ WNew w.heap.size w' P a' ∧ Below w.heap.size w w'
def cC (P : WkD) (o1 o2 o3 o4 : Ad) : List Value := [.int .i64 P.i, .int .i64 P.N, .int .i64 P.x, o1.v, .int .i64 P.g, .int .i64 P.c, o2.v, o3.v, o4.v]
theorem cC_cells {w : World} {g : Nat} {P : WkD} {o1 o2 o3 o4 : Ad} (h : Box w g (cC P o1 o2 o3 o4)) : w.cell? ⟨g, 0, none⟩ = some (.int .i64 P.i) ∧ w.cell? ⟨g, 1, none⟩ = some (.int .i64 P.N) ∧ w.cell? ⟨g, 2, none⟩ = some (.int .i64 P.x) ∧
  w.cell? ⟨g, 3, none⟩ = some (.slice o1.A o1.n o1.c) ∧ w.cell? ⟨g, 4, none⟩ = some (.int .i64 P.g) ∧ w.cell? ⟨g, 5, none⟩ = some (.int .i64 P.c) ∧ w.cell? ⟨g, 6, none⟩ = some (.slice o2.A o2.n o2.c) ∧
  w.cell? ⟨g, 7, none⟩ = some (.slice o3.A o3.n o3.c) ∧ w.cell? ⟨g, 8, none⟩ = some (.slice o4.A o4.n o4.c) :=
 ⟨(h.2 0 _ rfl).1, (h.2 1 _ rfl).1, (h.2 2 _ rfl).1, (h.2 3 _ rfl).1, (h.2 4 _ rfl).1, (h.2 5 _ rfl).1, (h.2 6 _ rfl).1, (h.2 7 _ rfl).1, (h.2 8 _ rfl).1⟩
theorem below_touch {w w1 w2 : World} {g : Nat} (h : Below g w w1) (ht : Touch (fun k => k = g) w1 w2) (hg : g ≤ w1.heap.size) : Below g w w2 := h.trans (ht.below (fun k hk => by omega) hg)

structure CL (g : Nat) (w : World) (P : WkD) (a : WkA) (o1 o2 : Ad) (C : Nat) (ms : List (WtD × Ad)) (k : Nat) (wr : World) : Prop where
 box : Box wr g (cC P o1 o2 a.H a.R)
 by_ : Box wr (g + 1) zeroC
 below : Below g w wr
 opn : wr.ownsRow (g + 2) 40 4 o1.v o1.n (txs P.O)
 mid : Mid KW (g + 2) C wr o2 a.ms ms k
 c : C ≤ wr.heap.size
 s : g + 2 ≤ wr.heap.size
structure CM (g : Nat) (w : World) (P : WkD) (a : WkA) (o1 o2 o3 : Ad) (C : Nat) (ms : List (WtD × Ad)) (hs : List (HlD × Ad)) (k : Nat) (wr : World) : Prop where
 box : Box wr g (cC P o1 o2 o3 a.R)
 by_ : Box wr (g + 1) zeroC
 below : Below g w wr
 opn : wr.ownsRow (g + 2) 40 4 o1.v o1.n (txs P.O)
 far : ∀ b, o1.v.ownBlock = some b → b < C
 wts : RowOwn KW (g + 2) wr o2 ms
 mid : Mid KH (g + 2) C wr o3 a.hs hs k
 c : C ≤ wr.heap.size
 s : g + 2 ≤ wr.heap.size
section
variable {g C k : Nat} {w wr w1 w2 : World} {P : WkD} {a : WkA} {o1 o2 o3 o' : Ad} {ms : List (WtD × Ad)} {hs : List (HlD × Ad)}
theorem CL.step {x : WtD × Ad} (h : CL g w P a o1 o2 C ms k wr) (hx : a.ms[k]? = some x) (hb : Below wr.heap.size wr w1) (ho : w1.ownsRow wr.heap.size 3 1 o'.v o'.n (i64s x.1.S)) (hl : x.1.S.length = o'.n) {gr : Nat} (hgr : o2.v.ownBlock = some gr)
  (h2 : w2 = w1.setCell ⟨gr, k * 2 + 1, none⟩ o'.v) : CL g w P a o1 o2 C (ms.set k (x.1, o')) (k + 1) w2 := by
 have hgl := own_lt h.mid.row hgr
 have ht : Touch (fun b => o2.v.ownBlock = some b) w1 w2 := by rw [h2]; exact (Touch.refl _ _).set (.inl hgr) _
 have hT : Touch (fun b => o2.v.ownBlock = some b) wr w2 := (Touch.of hb).trans ht fun _ hf => .inl hf
 have hs := hT.size
 refine ⟨h.box.touch hT fun hf => ?_, h.by_.touch hT fun hf => ?_, h.below.trans (hT.below (fun b hf => ?_) ?_), own_kept h.opn fun b hb2 hlt => hT.block b hlt fun hf => ?_, h.mid.step h.c hx hb ho hl ?_ ht, ?_, ?_⟩
 ·have := (own_lt h.mid.row hf).2; omega
 ·have := (own_lt h.mid.row hf).2; omega
 ·have := (own_lt h.mid.row hf).2; omega
 ·have := h.s; omega
 ·exact own_unlike h.mid.row h.opn (show KW.e ≠ 40 by decide) hf hb2
 ·obtain ⟨g', c', hv, hA, hc', _, _, _, _⟩ := h.mid.cells hx
  have hgg : g' = gr := by rw [hv] at hgr; simpa [Value.ownBlock] using hgr
  subst hgg
  have hrow : w1.ownsRow (g + 2) KW.e KW.s o2.v o2.n (cellsK KW ms) := ownS_below h.mid.row hb
  rw [h2]
  rw [hv] at hrow ⊢
  rw [← cellsK_set KW o' (h.mid.at_ hx).1]
  exact (hrow.stored (k * 2 + 1) o'.v).1
 ·have := h.c; omega
 ·have := h.s; omega
theorem CM.step {x : HlD × Ad} (h : CM g w P a o1 o2 o3 C ms hs k wr) (hx : a.hs[k]? = some x) (hb : Below wr.heap.size wr w1) (ho : w1.ownsRow wr.heap.size 40 4 o'.v o'.n (txs x.1.L)) (hl : x.1.L.length = o'.n) {gr : Nat} (hgr : o3.v.ownBlock = some gr)
  (h2 : w2 = ((w1.setCell ⟨gr, k * 4 + 1, none⟩ (.int .i64 x.1.a)).setCell ⟨gr, k * 4 + 2, none⟩ (.int .i64 x.1.n)).setCell ⟨gr, k * 4 + 3, none⟩ o'.v) : CM g w P a o1 o2 o3 C ms (hs.set k (x.1, o')) (k + 1) w2 := by
 have hgl := own_lt h.mid.row hgr
 have ht : Touch (fun b => o3.v.ownBlock = some b) w1 w2 := by rw [h2]; exact (((Touch.refl _ _).set (.inl hgr) _).set (.inl hgr) _).set (.inl hgr) _
 have hT : Touch (fun b => o3.v.ownBlock = some b) wr w2 := (Touch.of hb).trans ht fun _ hf => .inl hf
 have hs' := hT.size
 refine ⟨h.box.touch hT fun hf => ?_, h.by_.touch hT fun hf => ?_, h.below.trans (hT.below (fun b hf => ?_) ?_), own_kept h.opn fun b hb2 hlt => hT.block b hlt fun hf => ?_, h.far, h.wts.touch hT (fun b hb2 hf => ?_) (fun y hy b hb2 hf => ?_), h.mid.step h.c hx hb ho hl ?_ ht, ?_, ?_⟩
 ·have := (own_lt h.mid.row hf).2; omega
 ·have := (own_lt h.mid.row hf).2; omega
 ·have := (own_lt h.mid.row hf).2; omega
 ·have := h.s; omega
 ·exact own_unlike h.mid.row h.opn (show KH.e ≠ 40 by decide) hf hb2
 ·exact own_unlike h.mid.row h.wts.row (show KH.e ≠ KW.e by decide) hf hb2
 ·exact own_unlike h.mid.row (h.wts.sub y hy).1 (show KH.e ≠ KW.e2 by decide) hf hb2
 ·obtain ⟨g', c', hv, hA, hc', _, _, _, _⟩ := h.mid.cells hx
  have hgg : g' = gr := by rw [hv] at hgr; simpa [Value.ownBlock] using hgr
  subst hgg
  have hrow : w1.ownsRow (g + 2) KH.e KH.s o3.v o3.n (cellsK KH hs) := ownS_below h.mid.row hb
  have hkx := (h.mid.at_ hx).1
  have e1 : (cellsK KH hs).set (k * 4 + 1) (.int .i64 x.1.a) = cellsK KH hs := set_same (cellsK_at KH hkx (j := 1) rfl)
  have e2 : (cellsK KH hs).set (k * 4 + 2) (.int .i64 x.1.n) = cellsK KH hs := set_same (cellsK_at KH hkx (j := 2) rfl)
  rw [h2]
  rw [hv] at hrow ⊢
  rw [← cellsK_set KH o' hkx]
  have r1 := (hrow.stored (k * 4 + 1) (.int .i64 x.1.a)).1
  rw [e1] at r1
  have r2 := (r1.stored (k * 4 + 2) (.int .i64 x.1.n)).1
  rw [e2] at r2
  exact (r2.stored (k * 4 + 3) o'.v).1
 ·have := h.c; omega
 ·have := h.s; omega
end

set_option maxRecDepth 100000 in
set_option maxHeartbeats 16000000 in
theorem clone_any (P : WkD) (a : WkA) (w : World) (h : WIn w P a) (hf : WFew P 1000000) : Calls Tryz.prog 90 #[wkV P a] w (Cloned9 P w) := by
  obtain ⟨g, hg⟩ : ∃ g, g = w.heap.size := ⟨_, rfl⟩
  obtain ⟨w0, hw0⟩ : ∃ w0, w0 = (w.alloc (.cells #[.int .i64 P.i, .int .i64 P.N, .int .i64 P.x, .slice a.O.A a.O.n a.O.c, .int .i64 P.g, .int .i64 P.c, .slice a.W.A a.W.n a.W.c, .slice a.H.A a.H.n a.H.c, .slice a.R.A a.R.n a.R.c] 27)).alloc (.cells #[.int .i64 0, .int .i64 0, .int .i64 0, .slice none 0 0, .int .i64 0, .int .i64 0, .slice none 0 0, .slice none 0 0, .slice none 0 0] 27) := ⟨_, rfl⟩
  have hs0 : w0.heap.size = g + 2 := by rw [hw0, hg]; simp
  have hb0 : Below g w w0 := by rw [hw0, hg]; exact ((Below.refl _ _).alloc (Nat.le_refl _) _).alloc (by simp) _
  have bx0 : Box w0 g (cC P a.O a.W a.H a.R) := by
    rw [hw0, hg]
    exact (box_new w (cC P a.O a.W a.H a.R) 27).below ((Below.refl _ _).alloc (Nat.le_refl _) _) (by simp)
  have by0 : Box w0 (g + 1) zeroC := by
    rw [hw0, hg]
    have h := box_new (w.alloc (.cells #[.int .i64 P.i, .int .i64 P.N, .int .i64 P.x, .slice a.O.A a.O.n a.O.c, .int .i64 P.g, .int .i64 P.c, .slice a.W.A a.W.n a.W.c, .slice a.H.A a.H.n a.H.c, .slice a.R.A a.R.n a.R.c] 27)) zeroC 27
    rw [show (w.alloc (.cells #[.int .i64 P.i, .int .i64 P.N, .int .i64 P.x, .slice a.O.A a.O.n a.O.c, .int .i64 P.g, .int .i64 P.c, .slice a.W.A a.W.n a.W.c, .slice a.H.A a.H.n a.H.c, .slice a.R.A a.R.n a.R.c] 27)).heap.size = w.heap.size + 1 by simp] at h
    exact h
  have HIN : Hid (∀ wX, Below g w wX → WIn wX P a) := by show ∀ wX, _; intro wX hb; rw [hg] at hb; exact h.below hb
  have HG := Lib.hid hg
  have HW0 := Lib.hid hw0
  have HS0 := Lib.hid hs0
  have HF := Lib.hid hf
  have HEW := Lib.hid h.eW
  have HEH := Lib.hid h.eH
  have hnW : a.ms.length ≤ 1000000 := by rw [len_fst h.eW]; exact hf.w
  have hnH : a.hs.length ≤ 1000000 := by rw [len_fst h.eH]; exact hf.h
  clear h hf hw0 hs0
  unfold wkV Ad.v
  go_enter Tryz.func90, Tryz.ntmps90
  go_upto_region 1 with fail
  rw [← HW0.out, ← hg]
  have hg0 : g ≤ w0.heap.size := by rw [HS0.out]; omega
  have hl0 : g + 2 ≤ w0.heap.size := by rw [HS0.out]; exact Nat.le_refl _
  clear hg
  -- what is open
  obtain ⟨k0, k1, k2, k3, k4, k5, k6, k7, k8⟩ := cC_cells bx0
  go_wp2_with fail
  refine (cloneT_any a.O P.O.length (txs P.O) _ (HIN.out _ hb0).open_ (txs_length _) (txs_one _) HF.out.o).mono ?_
  rintro e v1 ⟨o1, rfl, hn1, hq1, hc1⟩
  dsimp only [Ad.v]
  have bx1a := bx0.below hc1 (by omega)
  have by1a := by0.below hc1 (by omega)
  have hb1a := hb0.trans (hc1.mono hg0)
  have hv1 := hc1.size
  clear k0 k1 k2 k3 k4 k5 k6 k7 k8
  obtain ⟨k0, k1, k2, k3, k4, k5, k6, k7, k8⟩ := cC_cells bx1a
  go_wp2_with (first | (refine wpList_store_cell rfl 22 _ _ rfl g 3 o1.v (cC P a.O a.W a.H a.R) rfl rfl rfl rfl bx1a (show 3 < 9 by decide) size_sTx ?_))
  intro w1 bx1 tt1
  have t1 := tt1 (fun k => k = g) rfl
  have by1 := by1a.touch t1 (show ¬ (g + 1 = g) by omega)
  have hb1 := below_touch hb1a t1 (by omega)
  have hs1 := t1.size
  have hg1 : g ≤ w1.heap.size := by omega
  have hl1 : g + 2 ≤ w1.heap.size := by omega
  clear k0 k1 k2 k3 k4 k5 k6 k7 k8
  have ho1 : w1.ownsRow (g + 2) 40 4 o1.v o1.n (txs P.O) := by
    have := ownS_more (own_touch hq1 t1 (fun k hk => by omega)) hl0
    rwa [← hn1] at this
  have HN1 : Hid (P.O.length = o1.n) := hn1.symm
  have hfar1 : ∀ b, o1.v.ownBlock = some b → b < w1.heap.size := fun b hb => (own_lt ho1 hb).1
  obtain ⟨k0, k1, k2, k3, k4, k5, k6, k7, k8⟩ := cC_cells bx1
  go_wp2_with fail
  refine (cloneW_any a.W a.ms.length (cellsK KW a.ms) _ (HIN.out _ hb1).waits.row (cellsK_length KW _) (cellsK_oneCell KW _) hnW).mono ?_
  rintro e v2 ⟨o2, rfl, hn2, hq2, hc2⟩
  dsimp only [Ad.v]
  have bx2a := bx1.below hc2 (by omega)
  have by2a := by1.below hc2 (by omega)
  have hb2a := hb1.trans (hc2.mono hg1)
  have hv2 := hc2.size
  clear k0 k1 k2 k3 k4 k5 k6 k7 k8
  obtain ⟨k0, k1, k2, k3, k4, k5, k6, k7, k8⟩ := cC_cells bx2a
  go_wp2_with (first | (refine wpList_store_cell rfl 23 _ _ rfl g 6 o2.v (cC P o1 a.W a.H a.R) rfl rfl rfl rfl bx2a (show 6 < 9 by decide) size_sWait ?_))
  intro w2 bx2 tt2
  have t2 := tt2 (fun k => k = g) rfl
  have by2 := by2a.touch t2 (show ¬ (g + 1 = g) by omega)
  have hb2 := below_touch hb2a t2 (by omega)
  have hs2 := t2.size
  have hg2 : g ≤ w2.heap.size := by omega
  have hl2 : g + 2 ≤ w2.heap.size := by omega
  clear k0 k1 k2 k3 k4 k5 k6 k7 k8
  have ho2 : w2.ownsRow (g + 2) 40 4 o1.v o1.n (txs P.O) := own_touch (ownS_below ho1 hc2) t2 (fun k hk => by omega)
  have hr2 : w2.ownsRow (g + 2) 56 2 o2.v o2.n (cellsK KW a.ms) := by
    have := ownS_more (own_touch hq2 t2 (fun k hk => by omega)) hl1
    rwa [← hn2] at this
  have HCL : Hid (CL g w P a o1 o2 w2.heap.size a.ms 0 w2) := ⟨bx2, by2, hb2, ho2, mid_start hr2 hn2.symm, Nat.le_refl _, hl2⟩
  have HFAR := Lib.hid hfar1
  have hsz2 : w1.heap.size ≤ w2.heap.size := by omega
  have HSZ2 := Lib.hid hsz2
  have hN2 : o2.n ≤ 1000000 := by omega
  have HN2 : Hid (a.ms.length = o2.n) := hn2.symm
  obtain ⟨k0, k1, k2, k3, k4, k5, k6, k7, k8⟩ := cC_cells bx2
  clear bx0 by0 bx1 by1 bx2 by2 hq1 hq2 hc1 hc2 t1 t2 tt1 tt2 ho1 ho2 hr2 hb1a hb2a hfar1 hn1 hn2 hb1 hb2 hs1 hs2 hv1 hv2 hg1 hl1 hg2 hsz2 bx1a by1a bx2a by2a hb0 hg0 hl0
  have HC2 : Hid (g + 2 ≤ w2.heap.size) := hl2
  clear hl2
  obtain ⟨C, hC⟩ : ∃ C, C = w2.heap.size := ⟨_, rfl⟩
  rw [← hC] at HCL HSZ2 HC2
  have HC := Lib.hid hC
  clear hC
  go_wp2_with fail
  go_loopw [16] (fun i wr => ∃ (k : Nat) (ms : List (WtD × Ad)), i = .int .i64 k ∧ k ≤ o2.n ∧ Hid (CL g w P a o1 o2 C ms k wr)) (fun i _ => o2.n - (intOf i).toNat)
  case atStart => exact ⟨0, a.ms, rfl, Nat.zero_le _, HCL.out⟩
  case round =>
    clear k0 k1 k2 k3 k4 k5 k6 k7 k8
    obtain ⟨k, ms, rfl, hk, HL⟩ := hrel
    by_cases hlt : k < o2.n
    · obtain ⟨x, hx⟩ : ∃ x, a.ms[k]? = some x := ⟨_, List.getElem?_eq_getElem (by rw [HN2.out]; exact hlt)⟩
      have HX := Lib.hid hx
      obtain ⟨gr, cr, hv, hA, hcr, hBg, hgl, hcell, hfr⟩ := HL.out.mid.cells hx
      have hgg : gr ≠ g := by omega
      have j6 : wr.cell? ⟨g, 6, none⟩ = some (.slice (some ⟨gr, 0, none⟩) o2.n cr) := by
        have := (cC_cells HL.out.box).2.2.2.2.2.2.1
        rwa [hA, hcr] at this
      have c1 : wr.cell? ⟨gr, k * 2 + 1, none⟩ = some (.slice x.2.A x.2.n x.2.c) := hcell 1 _ rfl
      have f1 : wr.frozen? ⟨gr, k * 2 + 1, none⟩ = false := hfr _
      have hgx : g < wr.heap.size := by omega
      have HS : Hid (SlIn wr.drew x.2 x.1.S.length (i64s x.1.S)) := ((HIN.out _ HL.out.below).waits.sub x (List.mem_of_getElem? hx)).drew
      have HFX : Hid (x.1.S.length ≤ 1000000) := HF.out.s _ (mem_fst HEW.out (List.mem_of_getElem? hx))
      have HV : Hid (o2.v.ownBlock = some gr) := by show _ = _; rw [hv]; rfl
      clear hx hv hA hcr hcell hfr
      have i0 : (0 : Int) ≤ (k : Int) := by omega
      have i1 : (k : Int) < (o2.n : Int) := by omega
      go_wp2_with fail
      go_region_with (first
        | (go_at_call 124; refine (cloneI_any x.2 x.1.S.length (i64s x.1.S) _ HS.out (by rw [i64s_length, Nat.mul_one]) (i64s_one _) HFX.out).mono ?_; rintro e w3 ⟨⟨A', n', c'⟩, rfl, hn', ho', hb'⟩
           obtain rfl : n' = x.1.S.length := hn'
           dsimp only [Ad.v]
           have hb3 : Below wr.heap.size wr w3 := ((Below.refl _ _).drew).trans hb'
           have e6 := (hb3.cell (p := ⟨g, 6, none⟩) hgx).trans j6
           have d1 := (hb3.cell (p := ⟨gr, k * 2 + 1, none⟩) hgl).trans c1
           have g1 := (hb3.frozen (p := ⟨gr, k * 2 + 1, none⟩) hgl).trans f1))
      all_goals
        go_wp2_with fail
        go_roundw
        case rel => exact ⟨k + 1, ms.set k (x.1, ⟨A', x.1.S.length, c'⟩), by go_num, by omega, HL.out.step (o' := ⟨A', x.1.S.length, c'⟩) HX.out hb3 ho' rfl HV.out rfl⟩
        case measure => simp [intOf]; omega
    · have i1 : ¬ ((k : Int) < (o2.n : Int)) := by omega
      obtain rfl : k = o2.n := by omega
      obtain ⟨w3, rfl⟩ : ∃ w3, w3 = wr := ⟨_, rfl⟩
      clear hk hlt
      have hW3 := (HL.out.mid.end_ (Nat.le_refl _) HC2.out).1
      have HEW3 : Hid (ms.map Prod.fst = P.W) := HL.out.mid.map.trans HEW.out
      have ho3 := HL.out.opn
      have bx3 := HL.out.box
      have by3 := HL.out.by_
      have hb3 := HL.out.below
      have hl3 := HL.out.s
      have hC3 := HL.out.c
      have hg3 : g ≤ w3.heap.size := by omega
      obtain ⟨k0, k1, k2, k3, k4, k5, k6, k7, k8⟩ := cC_cells bx3
      clear HL HCL
      go_wp2_with fail
      refine (cloneH_any a.H a.hs.length (cellsK KH a.hs) _ (HIN.out _ hb3).held.row (cellsK_length KH _) (cellsK_oneCell KH _) hnH).mono ?_
      rintro e v4 ⟨o4, rfl, hn4, hq4, hc4⟩
      dsimp only [Ad.v]
      have bx4a := bx3.below hc4 (by omega)
      have by4a := by3.below hc4 (by omega)
      have hb4a := hb3.trans (hc4.mono hg3)
      have hv4 := hc4.size
      clear k0 k1 k2 k3 k4 k5 k6 k7 k8
      obtain ⟨k0, k1, k2, k3, k4, k5, k6, k7, k8⟩ := cC_cells bx4a
      go_wp2_with (first | (refine wpList_store_cell rfl 24 _ _ rfl g 7 o4.v (cC P o1 o2 a.H a.R) rfl rfl rfl rfl bx4a (show 7 < 9 by decide) size_sHeld ?_))
      intro w4 bx4 tt4
      have t4 := tt4 (fun k => k = g) rfl
      have by4 := by4a.touch t4 (show ¬ (g + 1 = g) by omega)
      have hb4 := below_touch hb4a t4 (by omega)
      have hs4 := t4.size
      have hg4 : g ≤ w4.heap.size := by omega
      have hl4 : g + 2 ≤ w4.heap.size := by omega
      clear k0 k1 k2 k3 k4 k5 k6 k7 k8
      have ho4 : w4.ownsRow (g + 2) 40 4 o1.v o1.n (txs P.O) := own_touch (ownS_below ho3 hc4) t4 (fun k hk => by omega)
      have hW4 : RowOwn KW (g + 2) w4 o2 ms := (hW3.below hc4).touch t4 (fun b hb hf => by have := (own_lt hW3.row hb).2; omega) (fun y hy b hb hf => by have := (own_lt (hW3.sub y hy).1 hb).2; omega)
      have hr4 : w4.ownsRow (g + 2) 70 4 o4.v o4.n (cellsK KH a.hs) := by
        have := ownS_more (own_touch hq4 t4 (fun k hk => by omega)) hl3
        rwa [← hn4] at this
      have hfar4 : ∀ b, o1.v.ownBlock = some b → b < w4.heap.size := fun b hb => (own_lt ho4 hb).1
      have HCM : Hid (CM g w P a o1 o2 o4 w4.heap.size ms a.hs 0 w4) := ⟨bx4, by4, hb4, ho4, hfar4, hW4, mid_start hr4 hn4.symm, Nat.le_refl _, hl4⟩
      have HD2 : Hid (g + 2 ≤ w4.heap.size) := hl4
      have hN4 : o4.n ≤ 1000000 := by omega
      have HN4 : Hid (a.hs.length = o4.n) := hn4.symm
      obtain ⟨k0, k1, k2, k3, k4, k5, k6, k7, k8⟩ := cC_cells bx4
      clear bx3 by3 bx4 by4 hq4 hc4 t4 tt4 ho3 ho4 hr4 hb4a hfar4 hn4 hb3 hb4 hs4 hv4 hg3 hl3 hg4 hl4 bx4a by4a hW3 hW4 hC3
      obtain ⟨D, hD⟩ : ∃ D, D = w4.heap.size := ⟨_, rfl⟩
      rw [← hD] at HCM HD2
      have HD := Lib.hid hD
      clear hD
      go_wp2_with fail
      go_loopw [39] (fun i wr => ∃ (k : Nat) (hs : List (HlD × Ad)), i = .int .i64 k ∧ k ≤ o4.n ∧ Hid (CM g w P a o1 o2 o4 D ms hs k wr)) (fun i _ => o4.n - (intOf i).toNat)
      case atStart => exact ⟨0, a.hs, rfl, Nat.zero_le _, HCM.out⟩
      case round =>
        clear k0 k1 k2 k3 k4 k5 k6 k7 k8
        obtain ⟨k, hs, rfl, hk, HL⟩ := hrel
        by_cases hlt : k < o4.n
        · obtain ⟨x, hx⟩ : ∃ x, a.hs[k]? = some x := ⟨_, List.getElem?_eq_getElem (by rw [HN4.out]; exact hlt)⟩
          have HX := Lib.hid hx
          obtain ⟨gr, cr, hv, hA, hcr, hBg, hgl, hcell, hfr⟩ := HL.out.mid.cells hx
          have j7 : wr.cell? ⟨g, 7, none⟩ = some (.slice (some ⟨gr, 0, none⟩) o4.n cr) := by
            have := (cC_cells HL.out.box).2.2.2.2.2.2.2.1
            rwa [hA, hcr] at this
          have c1 : wr.cell? ⟨gr, k * 4 + 1, none⟩ = some (.int .i64 x.1.a) := hcell 1 _ rfl
          have c2 : wr.cell? ⟨gr, k * 4 + 2, none⟩ = some (.int .i64 x.1.n) := hcell 2 _ rfl
          have c3 : wr.cell? ⟨gr, k * 4 + 3, none⟩ = some (.slice x.2.A x.2.n x.2.c) := hcell 3 _ rfl
          have f1 : wr.frozen? ⟨gr, k * 4 + 1, none⟩ = false := hfr _
          have f2 : wr.frozen? ⟨gr, k * 4 + 2, none⟩ = false := hfr _
          have f3 : wr.frozen? ⟨gr, k * 4 + 3, none⟩ = false := hfr _
          have hgx : g < wr.heap.size := by omega
          have HS : Hid (SlIn wr.drew x.2 x.1.L.length (txs x.1.L)) := ((HIN.out _ HL.out.below).held.sub x (List.mem_of_getElem? hx)).drew
          have HFX : Hid (x.1.L.length ≤ 1000000) := HF.out.l _ (mem_fst HEH.out (List.mem_of_getElem? hx))
          have HV : Hid (o4.v.ownBlock = some gr) := by show _ = _; rw [hv]; rfl
          clear hx hv hA hcr hcell hfr
          have i0 : (0 : Int) ≤ (k : Int) := by omega
          have i1 : (k : Int) < (o4.n : Int) := by omega
          go_wp2_with fail
          go_region_with (first
            | (go_at_call 80; refine (copied_any x.1.a x.1.n x.2 x.1.L _ HS.out HFX.out).mono ?_; rintro e w5 ⟨⟨A', n', c'⟩, rfl, hn', ho', hb'⟩
               obtain rfl : n' = x.1.L.length := hn'
               dsimp only [Ad.v]
               have hb5 : Below wr.heap.size wr w5 := ((Below.refl _ _).drew).trans hb'
               have e7 := (hb5.cell (p := ⟨g, 7, none⟩) hgx).trans j7
               have d1 := (hb5.cell (p := ⟨gr, k * 4 + 1, none⟩) hgl).trans c1
               have d2 := (hb5.cell (p := ⟨gr, k * 4 + 2, none⟩) hgl).trans c2
               have d3 := (hb5.cell (p := ⟨gr, k * 4 + 3, none⟩) hgl).trans c3
               have g1 := (hb5.frozen (p := ⟨gr, k * 4 + 1, none⟩) hgl).trans f1
               have g2 := (hb5.frozen (p := ⟨gr, k * 4 + 2, none⟩) hgl).trans f2
               have g3 := (hb5.frozen (p := ⟨gr, k * 4 + 3, none⟩) hgl).trans f3))
          all_goals
            go_wp2_with fail
            go_roundw
            case rel => exact ⟨k + 1, hs.set k (x.1, ⟨A', x.1.L.length, c'⟩), by go_num, by omega, HL.out.step (o' := ⟨A', x.1.L.length, c'⟩) HX.out hb5 ho' rfl HV.out rfl⟩
            case measure => simp [intOf]; omega
        · have i1 : ¬ ((k : Int) < (o4.n : Int)) := by omega
          obtain rfl : k = o4.n := by omega
          obtain ⟨w5, rfl⟩ : ∃ w5, w5 = wr := ⟨_, rfl⟩
          clear hk hlt
          have hW5 := HL.out.wts
          have hH5 := (HL.out.mid.end_ (Nat.le_refl _) HD2.out).1
          have HEH5 : Hid (hs.map Prod.fst = P.H) := HL.out.mid.map.trans HEH.out
          have hapO : ∀ x ∈ hs, ∀ b, o1.v.ownBlock = some b → x.2.v.ownBlock ≠ some b := fun x hx b h1 h2 => by
            have h3 := HL.out.far b h1
            have h4 := (own_lt (HL.out.mid.all (Nat.le_refl _) hx).1 h2).2
            omega
          have ho5 := HL.out.opn
          have bx5 := HL.out.box
          have by5 := HL.out.by_
          have hb5 := HL.out.below
          have hl5 := HL.out.s
          have hg5 : g ≤ w5.heap.size := by omega
          obtain ⟨k0, k1, k2, k3, k4, k5, k6, k7, k8⟩ := cC_cells bx5
          clear HL HCM
          go_wp2_with fail
          refine (cloneI_any a.R P.R.length (i64s P.R) _ (HIN.out _ hb5).ready (by rw [i64s_length, Nat.mul_one]) (i64s_one _) HF.out.r).mono ?_
          rintro e v6 ⟨o6, rfl, hn6, hq6, hc6⟩
          dsimp only [Ad.v]
          have bx6a := bx5.below hc6 (by omega)
          have by6a := by5.below hc6 (by omega)
          have hb6a := hb5.trans (hc6.mono hg5)
          have hv6 := hc6.size
          clear k0 k1 k2 k3 k4 k5 k6 k7 k8
          obtain ⟨k0, k1, k2, k3, k4, k5, k6, k7, k8⟩ := cC_cells bx6a
          go_wp2_with (first | (refine wpList_store_cell rfl 25 _ _ rfl g 8 o6.v (cC P o1 o2 o4 a.R) rfl rfl rfl rfl bx6a (show 8 < 9 by decide) size_sInt ?_))
          intro w6 bx6 tt6
          have t6 := tt6 (fun k => k = g) rfl
          have by6 := by6a.touch t6 (show ¬ (g + 1 = g) by omega)
          have hb6 := below_touch hb6a t6 (by omega)
          have hs6 := t6.size
          have hg6 : g ≤ w6.heap.size := by omega
          have hl6 : g + 2 ≤ w6.heap.size := by omega
          clear k0 k1 k2 k3 k4 k5 k6 k7 k8
          have ho6 : w6.ownsRow (g + 2) 40 4 o1.v o1.n (txs P.O) := own_touch (ownS_below ho5 hc6) t6 (fun k hk => by omega)
          have hW6 : RowOwn KW (g + 2) w6 o2 ms := (hW5.below hc6).touch t6 (fun b hb hf => by have := (own_lt hW5.row hb).2; omega) (fun y hy b hb hf => by have := (own_lt (hW5.sub y hy).1 hb).2; omega)
          have hH6 : RowOwn KH (g + 2) w6 o4 hs := (hH5.below hc6).touch t6 (fun b hb hf => by have := (own_lt hH5.row hb).2; omega) (fun y hy b hb hf => by have := (own_lt (hH5.sub y hy).1 hb).2; omega)
          have hr6 : w6.ownsRow (g + 2) 3 1 o6.v o6.n (i64s P.R) := by
            have := ownS_more (own_touch hq6 t6 (fun k hk => by omega)) hl5
            rwa [← hn6] at this
          have hapR : ∀ x ∈ ms, ∀ b, o6.v.ownBlock = some b → x.2.v.ownBlock ≠ some b := fun x hx b h1 h2 => by
            have h3 := (own_lt hq6 h1).2
            have h4 := (own_lt (hW5.sub x hx).1 h2).1
            omega
          have hN6 : P.O.length = o1.n := HN1.out
          have HNEW : Hid (WNew (g + 2) w6 P ⟨o1, o2, o4, o6, ms, hs⟩) := ⟨⟨hW6, HEW3.out, hH6, HEH5.out, hr6, hn6.symm, hapR⟩, ho6, hN6, hapO⟩
          have HB6 := Lib.hid hb6
          have HL6 := Lib.hid hl6
          clear hW6 hH6 hr6 hapR hN6 ho6 hapO hW5 hH5 ho5 hq6
          go_wp2_with (first
            | (refine wpList_load_box rfl 27 _ rfl g rfl (cC P o1 o2 o4 o6) bx6 _ Tryz.underlying27 rfl size_wk ?_)
            | (refine wpList_store_box rfl 27 _ _ rfl (g + 1) 0 (cC P o1 o2 o4 o6) zeroC (cC P o1 o2 o4 o6) rfl rfl by6 (show 0 + 9 ≤ 9 by decide) rfl size_wk rfl ?_))
          intro w7 by7 T7
          have t7 := T7 (fun k => k = g + 1) rfl
          obtain ⟨r0, r1, r2, r3, r4, r5, r6, r7, r8⟩ := cC_cells by7
          have hn7 := HNEW.out.touch t7 (fun k hk hf => by have := (HNEW.out.core.lt hf).2; omega) (fun k hk hf => by have := (own_lt HNEW.out.open_ hf).2; omega)
          have hb7 : Below g w w7 := HB6.out.trans (t7.below (fun k hk => by omega) (by have := HL6.out; omega))
          go_wp2_with fail
          refine bodyPost_ret (v := wkV P ⟨o1, o2, o4, o6, ms, hs⟩) (by simp [results, Tryz.results90, go_sem, r0, r1, r2, r3, r4, r5, r6, r7, r8, wkV, Ad.v]) rfl ⟨_, rfl, ?_, ?_⟩
          · rw [← HG.out]; exact hn7.more (by omega)
          · rw [← HG.out]; exact hb7

end Go.Proofs.YteepobghdpnabaaGreat
