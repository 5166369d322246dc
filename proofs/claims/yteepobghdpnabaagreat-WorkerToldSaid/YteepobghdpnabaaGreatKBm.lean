/-
 Package worker's settle: what is kept by enough goes from the waits to what is ready.
-/
import Derived.Deep.AppendLies
import Derived.Laws.CopyRow
import Derived.Deep.DeepCutAuto
import Derived.Deep.CutRange
import Derived.Deep.RegionLaw
import Derived.Test.YteepobghdpnabaaGreatKBl
import Derived.Test.YteepobghdpnabaaGreatKBf
import Derived.Test.YteepobghdpnabaaGreatKBi
import Derived.Test.YteepobghdpnabaaGreatKBg
import Derived.Test.YteepobghdpnabaaGreatKBd
import Derived.Test.YteepobghdpnabaaGreatKBa
import Derived.Test.YteepobghdpnabaaGreatKBb
import Derived.Test.YteepobghdpnabaaGreatKBh
namespace Go.Proofs.YteepobghdpnabaaGreat
open Go.RowKit

/-! ### on plain lists -/
def leftK (N : Int) (ms : List (WtD × Ad)) : List (WtD × Ad) := ms.filter fun x => !enough N x.1.S
def goneI (N : Int) (ms : List (WtD × Ad)) (R : List Int) : List Int := ((ms.filter fun x => enough N x.1.S).map fun x => x.1.d).filter fun d => decide (d ∉ R)
theorem leftK_next {N : Int} {ms : List (WtD × Ad)} {k : Nat} {x : WtD × Ad} (h : ms[k]? = some x) : leftK N (ms.take (k + 1)) = leftK N (ms.take k) ++ (if enough N x.1.S = true then [] else [x]) := by
 unfold leftK
 rw [take_nxt h, List.filter_append]
 congr 1
 cases he : enough N x.1.S <;> simp [he]
theorem goneI_next {N : Int} {ms : List (WtD × Ad)} {R : List Int} {k : Nat} {x : WtD × Ad} (h : ms[k]? = some x) : goneI N (ms.take (k + 1)) R = goneI N (ms.take k) R ++ (if enough N x.1.S = true ∧ x.1.d ∉ R then [x.1.d] else []) := by
 unfold goneI
 rw [take_nxt h, List.filter_append, List.map_append, List.filter_append]
 congr 1
 cases he : enough N x.1.S with
 | false => simp [he]
 | true =>
  by_cases hd : x.1.d ∈ R
  ·simp [he, hd]
  ·simp [he, hd]
theorem settle_is {P : WkD} {a : WkA} (h : a.ms.map Prod.fst = P.W) : settleW P = { P with W := (leftK P.N a.ms).map Prod.fst, R := P.R ++ goneI P.N a.ms P.R } := by
 unfold settleW leftK goneI enoughW
 rw [← h]
 simp only [List.filter_map, List.map_map]
 rfl

structure SL (B g b mS C : Nat) (P : WkD) (a : WkA) (w : World) (oL o8 : Ad) (k : Nat) (wr : World) : Prop where
 at_ : WAt B g wr { P with R := P.R ++ goneI P.N (a.ms.take k) P.R } { a with R := o8 }
 left : wr.ownsRow C 56 2 oL.v oL.n (cellsK KW (leftK P.N (a.ms.take k)))
 lenL : (leftK P.N (a.ms.take k)).length = oL.n
 set : SetIs wr b mS (digsOf P.R)
 far : ∀ j, o8.v.ownBlock = some j → j ≠ b
 bC : b < C
 bB : B ≤ b
 c : C ≤ wr.heap.size
 cB : B ≤ C
 wC : ∀ j, a.W.v.ownBlock = some j → j < C
 touch : Touch (fun j => j = g ∨ a.R.v.ownBlock = some j) w wr
 own8 : ∀ j, o8.v.ownBlock = some j → a.R.v.ownBlock = some j ∨ w.heap.size ≤ j
 wsz : w.heap.size ≤ C
section
variable {B g b mS C k : Nat} {P : WkD} {a : WkA} {w wr w1 w2 : World} {oL oL' o8 o8' : Ad} {x : WtD × Ad}
theorem SL.skip (h : SL B g b mS C P a w oL o8 k wr) (hb : Below wr.heap.size wr w1) : SL B g b mS C P a w oL o8 k w1 :=
 ⟨h.at_.below hb, ownS_below h.left hb, h.lenL, h.set.below hb, h.far, h.bC, h.bB, by have := h.c; have := hb.size; omega, h.cB, h.wC, h.touch.on (Touch.of hb), h.own8, h.wsz⟩
theorem SL.keep (h : SL B g b mS C P a w oL o8 k wr) (hx : a.ms[k]? = some x) (he : enough P.N x.1.S = false) (hg : wr.grownBy w2 oL.v.ownBlock) (ho : w2.ownsRow C 56 2 oL'.v oL'.n (cellsK KW (leftK P.N (a.ms.take k)) ++ KW.cells x.1 x.2.v)) (hn : oL'.n = oL.n + 1) :
  SL B g b mS C P a w oL' o8 (k + 1) w2 := by
 have hT : Touch (fun j => oL.v.ownBlock = some j) wr w2 := Touch.grown hg fun j hj => hj
 have hC : ∀ j, oL.v.ownBlock = some j → C ≤ j := fun j hj => (own_lt h.left hj).2
 have hgC : g < C := by have := h.at_.lt; have := h.cB; omega
 have hcB := h.cB
 have hbC := h.bC
 have hn' := h.at_.new.core
 have hno : ∀ j, oL.v.ownBlock = some j → ¬ ({ a with R := o8 } : WkA).owns j := fun j hf ho => by
  rcases ho with ho | ho | ho | ⟨y, hy, ho⟩ | ⟨y, hy, ho⟩
  ·have := h.wC j ho; have := hC j hf; omega
  ·exact own_unlike h.left hn'.held.row (show KW.e ≠ KH.e by decide) hf ho
  ·exact own_unlike h.left hn'.ready (show KW.e ≠ 3 by decide) hf ho
  ·exact own_unlike h.left (hn'.waits.sub y hy).1 (show KW.e ≠ KW.e2 by decide) hf ho
  ·exact own_unlike h.left (hn'.held.sub y hy).1 (show KW.e ≠ KH.e2 by decide) hf ho
 have el : leftK P.N (a.ms.take (k + 1)) = leftK P.N (a.ms.take k) ++ [x] := by rw [leftK_next hx, if_neg (by rw [he]; decide)]
 have eg : goneI P.N (a.ms.take (k + 1)) P.R = goneI P.N (a.ms.take k) P.R := by rw [goneI_next hx, if_neg (by rw [he]; simp), List.append_nil]
 refine ⟨⟨by rw [eg]; exact h.at_.box.touch hT fun hf => by have := hC g hf; omega, by rw [eg]; exact h.at_.new.touch hT hno (fun j hf ho => own_unlike h.left h.at_.new.open_ (show KW.e ≠ 40 by decide) hf ho), h.at_.lt, by have := h.at_.le; have := hT.size; omega⟩, by rw [el, cellsK_append, cellsK_one]; exact ho, by rw [el, List.length_append, h.lenL, hn]; rfl, h.set.block (hT.block b h.set.lt fun hf => by have := hC b hf; omega), h.far, h.bC, h.bB, by have := h.c; have := hT.size; omega, h.cB, h.wC, h.touch.trans hT (fun j hj => .inr (by have := hC j hj; have := h.wsz; omega)), h.own8, h.wsz⟩
theorem SL.gone (h : SL B g b mS C P a w oL o8 k wr) (hx : a.ms[k]? = some x) (he : enough P.N x.1.S = true) (hd : x.1.d ∈ P.R) : SL B g b mS C P a w oL o8 (k + 1) wr := by
 have el : leftK P.N (a.ms.take (k + 1)) = leftK P.N (a.ms.take k) := by rw [leftK_next hx, if_pos he, List.append_nil]
 have eg : goneI P.N (a.ms.take (k + 1)) P.R = goneI P.N (a.ms.take k) P.R := by rw [goneI_next hx, if_neg (fun h => h.2 hd), List.append_nil]
 exact ⟨by rw [eg]; exact h.at_, by rw [el]; exact h.left, by rw [el]; exact h.lenL, h.set, h.far, h.bC, h.bB, h.c, h.cB, h.wC, h.touch, h.own8, h.wsz⟩
theorem SL.more (h : SL B g b mS C P a w oL o8 k wr) (hx : a.ms[k]? = some x) (he : enough P.N x.1.S = true) (hd : x.1.d ∉ P.R) (hg : wr.grownBy w2 o8.v.ownBlock) (ho : w2.ownsRow B 3 1 o8'.v o8'.n (i64s (P.R ++ goneI P.N (a.ms.take k) P.R) ++ [.int .i64 x.1.d])) (hn : o8'.n = o8.n + 1)
  (hat : o8.v.ownBlock = o8'.v.ownBlock ∨ o8'.v.ownBlock = some wr.heap.size) : SL B g b mS C P a w oL o8' (k + 1) (w2.setCell ⟨g, 8, none⟩ o8'.v) := by
 have hT : Touch (fun j => o8.v.ownBlock = some j) wr w2 := Touch.grown hg fun j hj => hj
 have hB : ∀ j, o8.v.ownBlock = some j → B ≤ j := fun j hj => (own_lt h.at_.new.core.ready hj).2
 have hlt := h.at_.lt
 have hle := h.at_.le
 have hcB := h.cB
 have hbC := h.bC
 have hbB := h.bB
 have hs := hT.size
 have el : leftK P.N (a.ms.take (k + 1)) = leftK P.N (a.ms.take k) := by rw [leftK_next hx, if_pos he, List.append_nil]
 have eg : P.R ++ goneI P.N (a.ms.take (k + 1)) P.R = P.R ++ goneI P.N (a.ms.take k) P.R ++ [x.1.d] := by rw [goneI_next hx, if_pos ⟨he, hd⟩, List.append_assoc]
 have hblk : ∀ j, o8'.v.ownBlock = some j → o8.v.ownBlock = some j ∨ wr.heap.size ≤ j := fun j hj => by
  rcases hat with e | e
  ·exact .inl (e.trans hj)
  ·rw [e] at hj; cases hj; exact .inr (Nat.le_refl _)
 have hnew := h.at_.new.setR (L := P.R ++ goneI P.N (a.ms.take k) P.R ++ [x.1.d]) (o := o8') hT (by rw [i64s_append]; exact ho) (by rw [List.length_append, hn, ← h.at_.new.core.rL]; rfl) hblk
 have Tg : Touch (fun j => j = g) w2 (w2.setCell ⟨g, 8, none⟩ o8'.v) := (Touch.refl (fun j => j = g) w2).set (.inl rfl) o8'.v
 have hbx := (h.at_.box.touch hT fun hf => by have := hB g hf; omega).set (j := 8) (u := o8'.v) (show 8 < 9 by decide)
 have hsz := Tg.size
 have hsl := h.set.lt
 refine ⟨⟨by rw [eg]; exact hbx, by rw [eg]; exact hnew.touch Tg (fun j hj ho => by have := (hnew.core.lt ho).2; omega) (fun j hj ho => by have := (own_lt hnew.open_ ho).2; omega), hlt, by omega⟩, by rw [el]; exact own_touch (own_kept h.left fun j hj hl => hT.block j hl fun hf => own_unlike h.at_.new.core.ready h.left (show 3 ≠ KW.e by decide) hf hj) Tg (fun j hj => by omega), by rw [el]; exact h.lenL, (h.set.block (hT.block b hsl fun hf => h.far b hf rfl)).block (Tg.block b (by omega) (by omega)), fun j hj => ?_, hbC, hbB, by have := h.c; omega, hcB, h.wC, (h.touch.trans hT (fun j hj => (h.own8 j hj).imp .inr id)).on (Tg.mono fun j hj => .inl hj), fun j hj => ?_, h.wsz⟩
 ·rcases hblk j hj with e | e
  ·exact h.far j e
  ·omega
 ·rcases hblk j hj with e | e
  ·exact h.own8 j e
  ·have := h.touch.size
   exact .inr (by omega)
theorem SL.end_ (h : SL B g b mS C P a w oL o8 k wr) (hk : a.ms.length ≤ k) (he : a.ms.map Prod.fst = P.W) : WAt B g (wr.setCell ⟨g, 6, none⟩ oL.v) (settleW P) { a with R := o8, W := oL, ms := leftK P.N a.ms } ∧ Touch (fun j => j = g ∨ a.R.v.ownBlock = some j) w (wr.setCell ⟨g, 6, none⟩ oL.v) := by
 have ht : a.ms.take k = a.ms := List.take_of_length_le hk
 have h1 := h.at_
 have h2 := h.left
 have h3 := h.lenL
 rw [ht] at h1 h2 h3
 have hlt := h1.lt
 have hmem : ∀ y ∈ leftK P.N a.ms, y ∈ a.ms := fun y hy => (List.mem_filter.1 hy).1
 have hrow : RowOwn KW B wr oL (leftK P.N a.ms) := ⟨ownS_more h2 h.cB, h3, fun y hy => h1.new.core.waits.sub y (hmem y hy), h1.new.core.waits.nod.filter _⟩
 have hnew := h1.new.setW (L := (leftK P.N a.ms).map Prod.fst) (Touch.refl _ wr) hrow rfl (fun y hy => h1.new.core.apR y (hmem y hy))
 have Tg : Touch (fun j => j = g) wr (wr.setCell ⟨g, 6, none⟩ oL.v) := (Touch.refl (fun j => j = g) wr).set (.inl rfl) oL.v
 rw [settle_is he]
 exact ⟨⟨h1.box.set (j := 6) (u := oL.v) (show 6 < 9 by decide), hnew.touch Tg (fun j hj ho => by have := (hnew.core.lt ho).2; omega) (fun j hj ho => by have := (own_lt hnew.open_ ho).2; omega), hlt, by have := h1.le; have := Tg.size; omega⟩, h.touch.on (Tg.mono fun j hj => .inl hj)⟩
end

theorem RowOwn.cells {α : Type} {K : Kd α} {B k : Nat} {w : World} {a : Ad} {ms : List (α × Ad)} {x : α × Ad} (h : RowOwn K B w a ms) (hx : ms[k]? = some x) : ∃ g c, a.A = some ⟨g, 0, none⟩ ∧ a.c = c ∧ B ≤ g ∧ g < w.heap.size ∧ k < a.n ∧ (∀ j v, (K.cells x.1 x.2.v)[j]? = some v → w.cell? ⟨g, k * K.s + j, none⟩ = some v) ∧ ∀ j, w.frozen? ⟨g, j, none⟩ = false := by
 have hk : k < a.n := by have := (List.getElem?_eq_some_iff.1 hx).1; have := h.len; omega
 obtain ⟨g, c, hv, hB, hg⟩ := h.row.form (by omega)
 have hv' := hv
 simp only [Ad.v, Value.slice.injEq, true_and] at hv'
 have hrow := h.row
 rw [hv] at hrow
 refine ⟨g, c, hv'.1, hv'.2, hB, hg, hk, fun j v hj => ?_, fun j => hrow.frozenAt j⟩
 have h1 := cellsK_at K hx hj
 have hl := (List.getElem?_eq_some_iff.1 h1).1
 rw [cellsK_length] at hl
 have := hrow.cellAt (k * K.s + j) (by rw [← h.len]; exact hl)
 rw [this, h1]

theorem leftK_len (N : Int) (ms : List (WtD × Ad)) : (leftK N ms).length ≤ ms.length := List.length_filter_le _ _
theorem goneI_len (N : Int) (ms : List (WtD × Ad)) (R : List Int) : (goneI N ms R).length ≤ ms.length := by
 unfold goneI
 refine Nat.le_trans (List.length_filter_le _ _) ?_
 rw [List.length_map]
 exact List.length_filter_le _ _
theorem SL.lens {B g b mS C k : Nat} {P : WkD} {a : WkA} {w wr : World} {oL o8 : Ad} (h : SL B g b mS C P a w oL o8 k wr) : oL.n ≤ k ∧ o8.n ≤ P.R.length + k := by
 have h1 := h.lenL
 have h2 := h.at_.new.core.rL
 simp only [List.length_append] at h2
 have h3 := leftK_len P.N (a.ms.take k)
 have h4 := goneI_len P.N (a.ms.take k) P.R
 have h5 : (a.ms.take k).length ≤ k := by rw [List.length_take]; exact Nat.min_le_left _ _
 omega

def SettleTo (B g : Nat) (P : WkD) (a : WkA) (w : World) (e : Ending) (w' : World) : Prop := ∃ a', e = .returned (.tuple #[]) ∧ WAt B g w' (settleW P) a' ∧ Touch (fun k => k = g ∨ a.R.v.ownBlock = some k) w w' ∧ a'.O = a.O ∧ a'.hs = a.hs
set_option maxRecDepth 100000 in
set_option maxHeartbeats 16000000 in
theorem settle_any (B g : Nat) (P : WkD) (a : WkA) (w : World) (h : WAt B g w P a) (hm : may P.N = true) (hd : ∀ x ∈ P.W, digB x.d = true) (hf : WFew P 400000) :
    Calls Tryz.prog 96 #[.pointer (some ⟨g, 0, none⟩)] w (SettleTo B g P a w) := by
  obtain ⟨i0, hi0, hz0, hz1, hz2⟩ := info_parts info_zwait
  have HI0 := Lib.hid hi0
  have HZ0 := Lib.hid hz0
  have HZ1 := Lib.hid hz1
  have HZ2 := Lib.hid hz2
  have HM := Lib.hid hm
  have HD := Lib.hid hd
  have HF := Lib.hid hf
  have HEW := Lib.hid h.new.core.eW
  have HA := Lib.hid h
  have hgl : g < w.heap.size := h.box.1
  have hnW : a.ms.length = a.W.n := h.new.core.waits.len
  have hnl : a.ms.length ≤ 400000 := by rw [len_fst h.new.core.eW]; exact hf.w
  obtain ⟨AW, nW, cW, hoW⟩ : ∃ A n c, a.W = ⟨A, n, c⟩ := ⟨_, _, _, rfl⟩
  have HOW := Lib.hid hoW
  obtain ⟨k0, k1, k2, k3, k4, k5, k6, k7, k8⟩ := wk_cells h.box
  rw [hoW] at k6 hnW
  have hRd := slIn_own h.new.core.ready h.new.core.rL
  have hle := h.le
  have hlt := h.lt
  clear hi0 hz0 hz1 hz2 hm hd hf hoW k0 k2 k3 k4 k5 k7
  have HNW : Hid (a.ms.length = nW) := hnW
  have hnW2 : nW ≤ 400000 := by have := HNW.out; omega
  go_enter Tryz.func96, Tryz.ntmps96
  go_wp2_with fail
  refine (setOf_any a.R.A a.R.c a.R.n P.R _ hRd.len hRd.rd (by have := HF.out.r; have := hRd.len; omega)).mono ?_
  rintro e w1 ⟨b, mS, rfl, hset, hmS, hbb, hb1⟩
  have e6 := (hb1.cell (p := ⟨g, 6, none⟩) hgl).trans k6
  have HSL : Hid (SL B g b mS w1.heap.size P a w ⟨none, 0, 0⟩ a.R 0 w1) := by
    have h1 := h.below hb1
    have e1 : goneI P.N (a.ms.take 0) P.R = [] := rfl
    have e2 : leftK P.N (a.ms.take 0) = [] := rfl
    refine ⟨by rw [e1, List.append_nil]; exact h1, by rw [e2]; exact World.ownsRow_nil _ _ _ _, by rw [e2]; rfl, hset, fun j hj => ?_, hset.lt, by omega, Nat.le_refl _, h1.le, fun j hj => (own_lt h1.new.core.waits.row hj).1, Touch.of hb1, fun j hj => .inl hj, hb1.size⟩
    have := (own_lt h.new.core.ready hj).1
    omega
  obtain ⟨C, hC⟩ : ∃ C, C = w1.heap.size := ⟨_, rfl⟩
  rw [← hC] at HSL
  clear hC hset hbb k6 k8 k1 h hRd
  go_wp2_with fail
  go_loopw [3, 18] (fun v i wr => ∃ (k : Nat) (oL o8 : Ad), i = .int .i64 k ∧ v = .slice oL.A oL.n oL.c ∧ k ≤ nW ∧ Hid (SL B g b mS C P a w oL o8 k wr)) (fun _ i _ => nW - (intOf i).toNat)
  case atStart => exact ⟨0, ⟨none, 0, 0⟩, a.R, rfl, rfl, Nat.zero_le _, HSL.out⟩
  case round =>
    clear e6
    obtain ⟨k, oL, o8, rfl, rfl, hk, HS⟩ := hrel
    by_cases hlt2 : k < nW
    · obtain ⟨x, hx⟩ : ∃ x, a.ms[k]? = some x := ⟨_, List.getElem?_eq_getElem (by rw [HNW.out]; exact hlt2)⟩
      have HX := Lib.hid hx
      obtain ⟨gr, cr, hA, hcr, hBg, hgrl, -, hcell, -⟩ := HS.out.at_.new.core.waits.cells hx
      rw [HOW.out] at hA
      simp only at hA
      subst hA
      have c0 : wr.cell? ⟨gr, k * 2, none⟩ = some (.int .i64 x.1.d) := hcell 0 _ rfl
      have c1 : wr.cell? ⟨gr, k * 2 + 1, none⟩ = some (.slice x.2.A x.2.n x.2.c) := hcell 1 _ rfl
      have hsub := slIn_own (HS.out.at_.new.core.waits.sub x (List.mem_of_getElem? hx)).1 (HS.out.at_.new.core.waits.sub x (List.mem_of_getElem? hx)).2
      have hk1 : wr.cell? ⟨g, 1, none⟩ = some (.int .i64 P.N) := (HS.out.at_.box.2 1 _ rfl).1
      have hgw : g < wr.heap.size := HS.out.at_.box.1
      have HFX : Hid (x.1.S.length ≤ 400000) := HF.out.s _ (mem_fst HEW.out (List.mem_of_getElem? hx))
      have HDX : Hid (digB x.1.d = true) := HD.out _ (mem_fst HEW.out (List.mem_of_getElem? hx))
      clear hx hcell hcr
      have i0' : (0 : Int) ≤ (k : Int) := by omega
      have i1 : (k : Int) < (nW : Int) := by omega
      go_upto_region 5 with fail
      obtain ⟨w2, hw2⟩ : ∃ w2, w2 = wr.alloc (.cells #[.int .i64 x.1.d, .slice x.2.A x.2.n x.2.c] 56) := ⟨_, rfl⟩
      rw [← hw2]
      have hb2 : Below wr.heap.size wr w2 := by rw [hw2]; exact (Below.refl _ _).alloc (Nat.le_refl _) _
      have bx2 : Box w2 wr.heap.size [.int .i64 x.1.d, .slice x.2.A x.2.n x.2.c] := by rw [hw2]; exact box_new wr _ _
      have HS2 := Lib.hid (HS.out.skip hb2)
      have hsub2 : SlIn w2 x.2 x.1.S.length (i64s x.1.S) := hsub.below hb2
      have HSUB := Lib.hid hsub2
      have y0 : ∀ z : Calm w2, z.val.cell? ⟨wr.heap.size, 0, none⟩ = some (.int .i64 x.1.d) := fun z => (z.ok.cell (p := ⟨wr.heap.size, 0, none⟩) bx2.1).trans (bx2.2 0 _ rfl).1
      have y1 : ∀ z : Calm w2, z.val.cell? ⟨wr.heap.size, 1, none⟩ = some (.slice x.2.A x.2.n x.2.c) := fun z => (z.ok.cell (p := ⟨wr.heap.size, 1, none⟩) bx2.1).trans (bx2.2 1 _ rfl).1
      have yN : ∀ z : Calm w2, z.val.cell? ⟨g, 1, none⟩ = some (.int .i64 P.N) := fun z => (z.ok.cell (p := ⟨g, 1, none⟩) HS2.out.at_.box.1).trans (HS2.out.at_.box.2 1 _ rfl).1
      have HBX := Lib.hid bx2
      have hwl := bx2.1
      clear hw2 bx2 c0 c1 hsub hk1 hb2 hsub2
      refine wp_region_calm (by kernel_rfl) (by kernel_rfl) ?_
      repeat (go_big_quiet_step (first
        | (go_at_call 132; exact calm_tells (enough_yes P.N x.2.A x.2.c x.2.n x.1.S _ HM.out HSUB.out.len (HSUB.out.rd.below (Calm.ok _)) (by have := HFX.out; have := HSUB.out.len; omega)))))
      refine wpQuiet_nil ?_
      rintro _ ⟨z, rfl⟩
      have hz := z.ok
      have HS3 := Lib.hid (HS2.out.skip hz)
      have d0 := y0 z
      have d1 := y1 z
      have hzl : wr.heap.size < z.val.heap.size := by have := hz.size; omega
      have HBZ := Lib.hid (HBX.out.below hz hwl)
      obtain ⟨w3, hw3⟩ : ∃ w3, w3 = z.val := ⟨_, rfl⟩
      rw [← hw3] at d0 d1 HS3 hzl HBZ ⊢
      clear hz y0 y1 yN hw3 z HS2 hwl HBX
      have hlens := HS3.out.lens
      have hRl := HF.out.r
      cases he : enough P.N x.1.S with
      | false =>
        have HE := Lib.hid he
        have HB4 : Hid (Below w3.heap.size w3 (w3.alloc (.cells #[.int .i64 x.1.d, .slice x.2.A x.2.n x.2.c] 56))) := (Below.refl _ _).alloc (Nat.le_refl _) _
        clear he
        go_wp2_with (at_builtin; refine wpList_append_lies _ rfl _ _ 23 rfl C 56 i0 zwait 2 32 Tryz.underlying23 HI0.out HZ0.out HZ1.out HZ2.out rfl (by decide) (.slice oL.A oL.n oL.c) oL.n (cellsK KW (leftK P.N (a.ms.take k))) rfl (ownS_below HS3.out.left HB4.out) ⟨w3.heap.size, 0, none⟩ 1 1 (KW.cells x.1 x.2.v) rfl rfl (fun j y hj => by rw [Addr.add_lit, Nat.zero_add]; exact cells_new w3 (KW.cells x.1 x.2.v) 56 j y hj) (KW.one x.1 x.2.v rfl) (by decide) (by unfold maxLen; omega) (by omega) (by have := HS3.out.c; have := HB4.out.size; omega) _ rfl ?_)
        intro g' c' w5 q1 q2 q3 q4
        have hkeep := (HS3.out.skip HB4.out).keep (oL' := ⟨some ⟨g', 0, none⟩, oL.n + 1, c'⟩) HX.out HE.out q2 q1 rfl
        have HKEEP := Lib.hid hkeep
        clear q1 q2 q3 q4 hkeep d0 d1
        go_wp2_with fail
        go_roundw
        case rel => exact ⟨k + 1, ⟨some ⟨g', 0, none⟩, oL.n + 1, c'⟩, o8, by go_num, rfl, by omega, HKEEP.out⟩
        case measure => simp [intOf]; omega
      | true =>
        have HE := Lib.hid he
        clear he
        by_cases hdR : x.1.d ∈ P.R
        · have HIN : Hid (decide (x.1.d ∈ digsOf P.R) = true) := decide_eq_true (List.mem_filter.2 ⟨hdR, HDX.out⟩)
          have HDR := Lib.hid hdR
          clear hdR
          go_wp2_with (go_at_call 78; refine (has_any b mS _ x.1.d _ HS3.out.set HDX.out).mono ?_; rw [HIN.out]; rintro e w4 ⟨rfl, hb4⟩)
          go_roundw
          case rel => exact ⟨k + 1, oL, o8, by go_num, rfl, by omega, (HS3.out.skip hb4).gone HX.out HE.out HDR.out⟩
          case measure => simp [intOf]; omega
        · have HIN : Hid (decide (x.1.d ∈ digsOf P.R) = false) := decide_eq_false fun hq => hdR (List.mem_filter.1 hq).1
          have HDR := Lib.hid hdR
          clear hdR
          go_upto_region 9 with (go_at_call 78; refine (has_any b mS _ x.1.d _ HS3.out.set HDX.out).mono ?_; rw [HIN.out]; rintro e w4 ⟨rfl, hb4⟩)
          have hS4 := HS3.out.skip hb4
          have HS4 := Lib.hid hS4
          have b0 : w4.cell? ⟨wr.heap.size, 0, none⟩ = some (.int .i64 x.1.d) := (hb4.cell (p := ⟨wr.heap.size, 0, none⟩) hzl).trans d0
          have b8 : w4.cell? ⟨g, 8, none⟩ = some (.slice o8.A o8.n o8.c) := (hS4.at_.box.2 8 _ rfl).1
          have f8 : w4.frozen? ⟨g, 8, none⟩ = false := (hS4.at_.box.2 8 _ rfl).2
          have hg4 : g < w4.heap.size := hS4.at_.box.1
          have hzl4 : wr.heap.size < w4.heap.size := by have := hb4.size; omega
          have HROW : Hid (w4.ownsRow B 3 1 (.slice o8.A o8.n o8.c) o8.n (i64s (P.R ++ goneI P.N (a.ms.take k) P.R))) := hS4.at_.new.core.ready
          have HOB : Hid (∀ j, (Value.slice o8.A o8.n o8.c).ownBlock = some j → B ≤ j) := by show ∀ j, _; exact fun j hj => (own_lt hS4.at_.new.core.ready hj).2
          have hB4 : B ≤ w4.heap.size := by have := hS4.at_.le; omega
          clear hS4 d0 d1 hb4
          go_region_law (first
            | (refine step_app_lies _ (by rfl) _ _ _ (by rfl) B 3 (.int .i64 0) 8 Tryz.underlying25 info_zint rfl (by decide) _ o8.n (i64s (P.R ++ goneI P.N (a.ms.take k) P.R)) (by rfl) (HROW.out.alloc _) w4.heap.size (.int .i64 x.1.d) (by rfl) (cell_new _ _ _) (by rfl) (by omega) (by simp; omega) ?_
               intro g' c' w7 ho7 hg7 hl7
               have hba : Below w4.heap.size w4 (w4.drew.alloc (.cells #[.int .i64 x.1.d] 3)) := ((Below.refl _ _).drew).alloc (Nat.le_refl _) _
               have hmore := (HS4.out.skip hba).more (o8' := ⟨some ⟨g', 0, none⟩, o8.n + 1, c'⟩) HX.out HE.out HDR.out hg7 ho7 rfl (by rcases hl7 with hl7 | hl7; exact .inl hl7; exact .inr (by rw [hl7]; rfl))
               have hgl7 : some g ≠ (Value.slice o8.A o8.n o8.c).ownBlock := fun hq => by have := HOB.out g hq.symm; omega
               have f7 : w7.frozen? ⟨g, 8, none⟩ = false := ((World.frozen?_of_block (a := ⟨g, 8, none⟩) (hg7.block g (show g < (w4.alloc (.cells #[.int .i64 x.1.d] 3)).heap.size by simp; omega) hgl7)).trans (hba.frozen (p := ⟨g, 8, none⟩) hg4)).trans f8
               have j7 : w7.cell? ⟨g, 8, none⟩ = some (.slice o8.A o8.n o8.c) := ((World.cell?_of_block (a := ⟨g, 8, none⟩) (hg7.block g (show g < (w4.alloc (.cells #[.int .i64 x.1.d] 3)).heap.size by simp; omega) hgl7)).trans (hba.cell (p := ⟨g, 8, none⟩) hg4)).trans b8))
          all_goals
            have HMORE := Lib.hid hmore
            clear hmore ho7 hg7 hl7
            go_wp2_with fail
            go_roundw
            case rel => exact ⟨k + 1, oL, ⟨some ⟨g', 0, none⟩, o8.n + 1, c'⟩, by go_num, rfl, by omega, HMORE.out⟩
            case measure => simp [intOf]; omega
    · have i1 : ¬ ((k : Int) < (nW : Int)) := by omega
      have k6 : wr.cell? ⟨g, 6, none⟩ = some (.slice a.W.A a.W.n a.W.c) := (HS.out.at_.box.2 6 _ rfl).1
      have f6 : wr.frozen? ⟨g, 6, none⟩ = false := (HS.out.at_.box.2 6 _ rfl).2
      have hend := HS.out.end_ (by rw [HNW.out]; omega) HEW.out
      have HEND := Lib.hid hend
      clear hend
      go_wp2_with fail
      go_end0
      exact ⟨_, rfl, HEND.out.1, HEND.out.2, rfl, rfl⟩

end Go.Proofs.YteepobghdpnabaaGreat
namespace Go.Proofs.YteepobghdpnabaaGreat
open Go.RowKit

/-! ### numbers in rising lists -/
/-! ### one list of a row turned -/
theorem cellsK_like {α : Type} {K : Kd α} {ms : List (α × Ad)} {i : Nat} {x y : α} (o : Ad) (hc : ∀ v, K.cells y v = K.cells x v) : cellsK K (ms.set i (y, o)) = cellsK K (ms.set i (x, o)) := by
 unfold cellsK
 rw [List.flatMap_def, List.flatMap_def, List.map_set, List.map_set]
 simp only [hc]
theorem RowOwn.put {α : Type} {K : Kd α} {B i gr : Nat} {w w1 : World} {a o : Ad} {ms : List (α × Ad)} {x : α × Ad} {y : α} (h : RowOwn K B w a ms) (hx : ms[i]? = some x) (ht : Touch (fun k => x.2.v.ownBlock = some k) w w1) (ho : w1.ownsRow B K.e2 K.s2 o.v o.n (K.bd y)) (hl : K.len y = o.n)
  (hb : ∀ k, o.v.ownBlock = some k → x.2.v.ownBlock = some k ∨ w.heap.size ≤ k) (hc : ∀ v, K.cells y v = K.cells x.1 v) (hgr : a.v.ownBlock = some gr) : RowOwn K B (w1.setCell ⟨gr, i * K.s + K.at2, none⟩ o.v) a (ms.set i (y, o)) := by
 have hil : i < ms.length := (List.getElem?_eq_some_iff.1 hx).1
 have hxm := List.mem_of_getElem? hx
 have hgl := (own_lt h.row hgr).1
 have hrow1 : w1.ownsRow B K.e K.s a.v a.n (cellsK K ms) := own_kept h.row fun g hg hlt => ht.block g hlt fun hf => own_unlike h.row (h.sub x hxm).1 K.ne hg hf
 have Tg : Touch (fun k => k = gr) w1 (w1.setCell ⟨gr, i * K.s + K.at2, none⟩ o.v) := (Touch.refl (fun k => k = gr) w1).set (.inl rfl) o.v
 have hown2 : ∀ {v : Value} {n : Nat} {xs : List Value}, w1.ownsRow B K.e2 K.s2 v n xs → (w1.setCell ⟨gr, i * K.s + K.at2, none⟩ o.v).ownsRow B K.e2 K.s2 v n xs := fun hv => own_kept hv fun g hg hlt => Tg.block g hlt fun hf => by
  subst hf
  exact own_unlike hrow1 hv K.ne hgr hg
 have hnod := h.nod
 rw [List.pairwise_iff_getElem] at hnod
 have hoth : ∀ (j : Nat) (z : α × Ad), ms[j]? = some z → j ≠ i → ∀ k, z.2.v.ownBlock = some k → x.2.v.ownBlock ≠ some k := fun j z hj hji k hz hxk => by
  obtain ⟨hjl, hje⟩ := List.getElem?_eq_some_iff.1 hj
  obtain ⟨_, hie⟩ := List.getElem?_eq_some_iff.1 hx
  rcases Nat.lt_or_gt_of_ne hji with h1 | h1
  ·exact hnod j i hjl hil h1 k (by rw [hje]; exact hz) (by rw [hie]; exact hxk)
  ·exact hnod i j hil hjl h1 k (by rw [hie]; exact hxk) (by rw [hje]; exact hz)
 have hfar : ∀ (j : Nat) (z : α × Ad), ms[j]? = some z → j ≠ i → ∀ k, z.2.v.ownBlock = some k → o.v.ownBlock ≠ some k := fun j z hj hji k hz hok => by
  rcases hb k hok with e | e
  ·exact hoth j z hj hji k hz e
  ·have := (own_lt (h.sub z (List.mem_of_getElem? hj)).1 hz).1
   omega
 refine ⟨?_, by rw [List.length_set]; exact h.len, fun z hz => ?_, ?_⟩
 ·rw [cellsK_like o hc, ← cellsK_set K o hx]
  obtain ⟨g, c, hv, hB, hg⟩ := hrow1.form (by have := h.len; omega)
  have hgg : g = gr := by rw [hv] at hgr; simpa [Value.ownBlock] using hgr
  subst hgg
  rw [hv] at hrow1 ⊢
  exact (hrow1.stored (i * K.s + K.at2) o.v).1
 ·obtain ⟨j, hj⟩ := List.mem_iff_getElem?.1 hz
  by_cases hji : j = i
  ·subst hji
   rw [List.getElem?_set_self hil] at hj
   cases hj
   exact ⟨hown2 ho, hl⟩
  ·rw [List.getElem?_set_ne (Ne.symm hji)] at hj
   have hs := h.sub z (List.mem_of_getElem? hj)
   exact ⟨hown2 (own_kept hs.1 fun g hg hlt => ht.block g hlt fun hf => hoth j z hj hji g hg hf), hs.2⟩
 ·rw [List.pairwise_iff_getElem]
  intro p q hp hq hpq k
  have hp' : p < ms.length := by simpa using hp
  have hq' : q < ms.length := by simpa using hq
  by_cases hpi : p = i
  ·subst hpi
   have hqe : (ms.set p (y, o))[q] = ms[q] := List.getElem_set_ne (by omega) _
   rw [List.getElem_set_self, hqe]
   intro h1 h2
   exact hfar q ms[q] (List.getElem?_eq_getElem hq') (by omega) k h2 h1
  ·have hpe : (ms.set i (y, o))[p] = ms[p] := List.getElem_set_ne (by omega) _
   rw [hpe]
   by_cases hqi : q = i
   ·subst hqi
    rw [List.getElem_set_self]
    exact hfar p ms[p] (List.getElem?_eq_getElem hp') hpi k
   ·have hqe : (ms.set i (y, o))[q] = ms[q] := List.getElem_set_ne (by omega) _
    rw [hqe]
    exact hnod p q hp' hq' hpq k
/-! ### acknowledge -/
end Go.Proofs.YteepobghdpnabaaGreat
