/-
 slices.Delete of the first transactions of a row.
-/
import Derived.Test.YteepobghdpnabaaGreatKBe
import Derived.Test.YteepobghdpnabaaGreatKBg
import Derived.Test.YteepobghdpnabaaGreatKBr
import Derived.Test.YteepobghdpnabaaGreatKBq
namespace Go.Proofs.YteepobghdpnabaaGreat
open Go.RowKit

theorem ztx_one : ∀ v ∈ (Value.agg #[.int .i64 0, .int .i64 0, .string ByteArray.empty, .string ByteArray.empty]).cells.toList, v.oneCell' = true := by
 intro v hv
 simp [Value.cells] at hv
 rcases hv with rfl | rfl <;> rfl

set_option maxRecDepth 100000 in
set_option maxHeartbeats 4000000 in
theorem deleteT_any (B g cap m j : Nat) (xs : List Value) (w : World) (h : w.ownsRow B 40 4 (.slice (some ⟨g, 0, none⟩) (m + j) cap) (m + j) xs) (hj : 1 ≤ j) (hn : m + j ≤ 1000000) (h1 : ∀ v ∈ xs, v.oneCell' = true) :
  Calls Tryz.prog 91 #[.slice (some ⟨g, 0, none⟩) (m + j) cap, .int .i64 0, .int .i64 j] w fun e w' =>
   e = .returned (.slice (some ⟨g, 0, none⟩) m cap) ∧ w'.ownsRow B 40 4 (.slice (some ⟨g, 0, none⟩) m cap) m (xs.drop (j * 4)) ∧ w.grownBy w' (some g) := by
 obtain ⟨cur, hg, hb, hnc, hcm, hcs, hx⟩ := row_open h
 obtain ⟨i0, hi0, hz0, hz1, hz2⟩ := info_parts info_tx
 have HCM := Lib.hid hcm
 unfold maxLen at hcm
 have hgd : w.drew.heap[g]? = some (.cells cur 40 (0, 0)) := hg
 obtain ⟨cs1, hcs1⟩ : ∃ cs1, cs1 = (cur.toList.drop (j * 4)).take (m * 4) := ⟨_, rfl⟩
 have hlen : cs1.length = m * 4 := by rw [hcs1]; simp; omega
 obtain ⟨cur1, hcur1⟩ : ∃ cur1, cur1 = over cur 0 cs1 := ⟨_, rfl⟩
 obtain ⟨w1, hw1⟩ : ∃ w1, w1 = w.drew.setRow g cur1 := ⟨_, rfl⟩
 have hsz1 : cur1.size = cur.size := by rw [hcur1]; exact over_size (by omega)
 have hg1 : w1.heap[g]? = some (.cells cur1 40 (0, 0)) := by rw [hw1, hcur1]; exact row_over _ hgd _ _
 have hrun : ∀ (A : Option Addr), (0 < m → A = some ⟨g, j * 4, none⟩) → ∀ ty c,
   (Builtin.append_ #[22, 22] ty #[.slice (some ⟨g, 0, none⟩) 0 cap, .slice A m c]).run Tryz.prog w.drew = .ok (.slice (some ⟨g, 0, none⟩) m cap) w1 := by
  intro A hA ty c
  have := run_append_in (P := Tryz.prog) w.drew (t := 22) (ty := ty) Tryz.underlying22 hi0 (n := 0) (cap := cap) hgd (A := A) (k := m) (kc := c) (cs := cs1)
   (by rw [hz1]; exact hlen) (fun h0 => ⟨_, hA h0, by rw [hcs1]; exact cells_part hgd _ _⟩) (by omega) (by rw [hz1]; omega) (by rw [hcs1]; exact one_part_in hx h1 (by omega))
  rw [Nat.zero_add, Nat.zero_mul, ← hcur1, ← hw1] at this
  exact this
 obtain ⟨cur2, hcur2⟩ : ∃ cur2, cur2 = over cur1 (m * 4) (Builtin.zeroCells (Value.agg #[.int .i64 0, .int .i64 0, .string ByteArray.empty, .string ByteArray.empty]).cells j).toList := ⟨_, rfl⟩
 obtain ⟨w2, hw2⟩ : ∃ w2, w2 = w1.setRow g cur2 := ⟨_, rfl⟩
 have hclr : ∀ ty c, (Builtin.clear_ #[22] ty #[.slice (some ⟨g, m * 4, none⟩) j c]).run Tryz.prog w1 = .ok (.tuple #[]) w2 := by
  intro ty c
  rw [hw2, hcur2]
  exact run_clear_in (P := Tryz.prog) w1 Tryz.underlying22 hi0 hz0 hg1 (by show m * 4 + j * 4 ≤ _; rw [hsz1]; omega) ztx_one (by decide) (by omega)
 have hres : w2.ownsRow B 40 4 (.slice (some ⟨g, 0, none⟩) m cap) m (xs.drop (j * 4)) ∧ w.grownBy w2 (some g) := by
  have hzl : (Builtin.zeroCells (Value.agg #[.int .i64 0, .int .i64 0, .string ByteArray.empty, .string ByteArray.empty]).cells j).toList.length = j * 4 := by rw [Array.length_toList, size_zeroCells]; rfl
  refine ⟨row_shut (cur := cur2) ?_ hb (by omega) HCM.out ?_ ?_, ?_⟩
  ·rw [hw2, hcur2]; exact row_over _ hg1 _ _
  ·rw [hcur2, over_size (by rw [hzl, hsz1]; omega), hsz1, hcs]
  ·have hcl : cur.toList.length = cap * 4 := by rw [Array.length_toList, hcs]
   have hl1 : cur1.toList.length = cap * 4 := by rw [Array.length_toList, hsz1, hcs]
   rw [hcur2, over_list, List.append_assoc, List.take_append_of_le_length (by rw [List.length_take, hl1]; omega), List.take_take, Nat.min_self, hcur1, over_list, List.take_zero, List.nil_append, List.take_append_of_le_length (by omega), List.take_of_length_le (by omega), hcs1, ← hx, List.drop_take, show (m + j) * 4 - j * 4 = m * 4 by omega]
  ·rw [hw2, hw1]
   exact grown_trans (w' := w.drew.setRow g cur1) (grown_trans (w' := w.drew) ⟨rfl, rfl, rfl, Nat.le_refl _, fun _ _ _ => rfl⟩ (setRow_grown w.drew g cur1)) (setRow_grown _ g cur2)
 have HR := Lib.hid hrun
 have HC := Lib.hid hclr
 have HS := Lib.hid hres
 clear hrun hclr hres hsz1 hcs hlen hz0 hz1 hz2 hi0 h1 hcur1 hcs1 hx hw1 hw2 hcur2 h hg hgd hg1
 obtain ⟨n, hnn⟩ : ∃ n, n = m + j := ⟨_, rfl⟩
 rw [← hnn]
 have e1 : (0 : Int) ≤ (j : Int) := by omega
 have e3 : (j : Int) ≤ (n : Int) := by omega
 have e4 : (n : Int) ≤ (cap : Int) := by omega
 have e5 : ¬ ((0 : Int) = (j : Int)) := by omega
 have k4 : j ≤ n := by omega
 have k6 : m ≤ n := by omega
 have k7 : ¬ (cap = m) := by omega
 have k8 : (m : Int) ≤ (n : Int) := by omega
 have k9 : (0 : Int) ≤ (m : Int) := by omega
 have e6 : n - j = m := by omega
 have e7 : n - m = j := by omega
 have k3 : (0 : Int) ≤ (cap : Int) := by omega
 have k2 : (0 : Int) ≤ (n : Int) := by omega
 clear hnn
 by_cases hc : cap = j
 ·obtain rfl : m = 0 := by omega
  obtain rfl : n = cap := by omega
  subst hc
  have hr2 := HR.out none (fun h0 => absurd h0 (by decide))
  have hr3 := HR.out (some ⟨g, 0, none⟩) (fun h0 => absurd h0 (by decide))
  have hc2 := HC.out
  rw [Nat.zero_mul] at hc2
  have HR2 := Lib.hid hr3
  have HC2 := Lib.hid hc2
  clear HR HC hr2 hr3 hc2 e3 e4 k4 k6 k7 k8 k9 e6 e7
  go_enter Tryz.func91, Tryz.ntmps91
  go_wp2
  go_still_tail 6, (by kernel_rfl)
  change wpList _ _ _ _ _ w.drew
  go_wp2_with (first | (at_builtin; refine wpList_app_run _ rfl (.tmp 22) (.tmp 25) 22 22 rfl rfl rfl (HR2.out _ _) ?_) | refine wpList_clear_run (o := ⟨none, _, _, _, _, _⟩) _ rfl (.tmp 31) 22 rfl rfl (HC2.out _ _) ?_)
  go_ret
  exact ⟨rfl, HS.out⟩
 ·go_enter Tryz.func91, Tryz.ntmps91
  go_wp2
  go_still_tail 6, (by kernel_rfl)
  change wpList _ _ _ _ _ w.drew
  go_wp2_with (first | (at_builtin; refine wpList_app_run _ rfl (.tmp 22) (.tmp 25) 22 22 rfl rfl rfl (HR.out _ (fun _ => rfl) _ _) ?_) | refine wpList_clear_run (o := ⟨none, _, _, _, _, _⟩) _ rfl (.tmp 31) 22 rfl rfl (HC.out _ _) ?_)
  go_ret
  exact ⟨rfl, HS.out⟩

end Go.Proofs.YteepobghdpnabaaGreat
namespace Go.Proofs.YteepobghdpnabaaGreat
open Go.RowKit

def Ret2 (P : WkD) (x : Int) (w : World) (e : Ending) (w' : World) : Prop := ∃ a', e = .returned (.tuple #[wkV P a', .int .i64 x]) ∧ WNew w.heap.size w' P a' ∧ Below w.heap.size w w'
def Ret3 (P : WkD) (l : List OtD) (x : Int) (w : World) (e : Ending) (w' : World) : Prop := ∃ (a' : WkA) (o' : Ad) (ms : List (OtD × Ad)), e = .returned (.tuple #[wkV P a', o'.v, .int .i64 x]) ∧ WNew w.heap.size w' P a' ∧ RowOwn KM w.heap.size w' o' ms ∧ ms.map Prod.fst = l ∧
 (∀ y ∈ ms, ∀ k, y.2.v.ownBlock = some k → a'.O.v.ownBlock ≠ some k ∧ ∀ z ∈ a'.hs, z.2.v.ownBlock ≠ some k) ∧ Below w.heap.size w w'
theorem ifMay_no {P : WkD} (h : mayW P = false) (e : Int) : ifMay P e = 1 := by rw [ifMay, h]; rfl
theorem ifMay_yes {P : WkD} (h : mayW P = true) (e : Int) : ifMay P e = e := by rw [ifMay, h]; rfl
theorem zero_cells {w : World} {g : Nat} (h : Box w g zeroC) : w.cell? ⟨g, 0, none⟩ = some (.int .i64 0) ∧ w.cell? ⟨g, 1, none⟩ = some (.int .i64 0) ∧ w.cell? ⟨g, 2, none⟩ = some (.int .i64 0) ∧ w.cell? ⟨g, 3, none⟩ = some (.slice none 0 0) ∧ w.cell? ⟨g, 4, none⟩ = some (.int .i64 0) ∧
  w.cell? ⟨g, 5, none⟩ = some (.int .i64 0) ∧ w.cell? ⟨g, 6, none⟩ = some (.slice none 0 0) ∧ w.cell? ⟨g, 7, none⟩ = some (.slice none 0 0) ∧ w.cell? ⟨g, 8, none⟩ = some (.slice none 0 0) :=
 ⟨(h.2 0 _ rfl).1, (h.2 1 _ rfl).1, (h.2 2 _ rfl).1, (h.2 3 _ rfl).1, (h.2 4 _ rfl).1, (h.2 5 _ rfl).1, (h.2 6 _ rfl).1, (h.2 7 _ rfl).1, (h.2 8 _ rfl).1⟩

set_option maxRecDepth 100000 in
set_option maxHeartbeats 16000000 in
theorem new_any (i N : Int) (w : World) : Calls Tryz.prog 69 #[.int .i64 i, .int .i64 N] w (Ret2 (if mayW (newW i N) = true then newW i N else zeroW) (if mayW (newW i N) = true then 0 else 1) w) := by
 obtain ⟨b, hb⟩ : ∃ b, b = mayW (newW i N) := ⟨_, rfl⟩
 rw [← hb]
 obtain ⟨g, hg⟩ : ∃ g, g = w.heap.size := ⟨_, rfl⟩
 obtain ⟨w1, hw1⟩ : ∃ w1, w1 = w.alloc (.cells #[.int .i64 0, .int .i64 0, .int .i64 0, .slice none 0 0, .int .i64 0, .int .i64 0, .slice none 0 0, .slice none 0 0, .slice none 0 0] 27) := ⟨_, rfl⟩
 obtain ⟨w2, hw2⟩ : ∃ w2, w2 = w1.alloc (.cells #[.int .i64 i, .int .i64 N, .int .i64 1, .slice none 0 0, .int .i64 0, .int .i64 0, .slice none 0 0, .slice none 0 0, .slice none 0 0] 27) := ⟨_, rfl⟩
 have hs1 : w1.heap.size = g + 1 := by rw [hw1, hg]; simp
 have bx1 : Box w1 g zeroC := by rw [hw1, hg]; exact box_new w zeroC 27
 have hb2 : Below g w w2 := by rw [hw2, hw1, hg]; exact ((Below.refl _ _).alloc (Nat.le_refl _) _).alloc (by simp) _
 have bx2 : Box w2 g zeroC := by rw [hw2]; exact bx1.below ((Below.refl _ _).alloc (Nat.le_refl _) _) (by omega)
 have by2 : Box w2 (g + 1) (wkC (newW i N) zeroWA) := by rw [hw2, ← hs1]; exact box_new w1 (wkC (newW i N) zeroWA) 27
 have hcheck := check_is b (newW i N) zeroWA w2 hb.symm (wNew_new 0 w2 i N).in_ ⟨by simp [newW], by simp [newW], by simp [newW], by simp [newW], fun x hx => by simp [newW] at hx, fun x hx => by simp [newW] at hx⟩
 have HW1 := Lib.hid hw1
 have HW2 := Lib.hid hw2
 have HG := Lib.hid hg
 have HS1 := Lib.hid hs1
 have HCK := Lib.hid hcheck
 have HB2 := Lib.hid hb2
 have HX := Lib.hid bx2
 have HY := Lib.hid by2
 have hgl : g < w2.heap.size := bx2.1
 have hgl1 : g + 1 < w2.heap.size := by2.1
 clear hw1 hw2 hg hs1 hcheck hb2 bx1 bx2 by2 hb
 go_enter Tryz.func69, Tryz.ntmps69
 go_upto_region 1 with fail
 rw [← HW1.out]
 go_upto_region 2 with fail
 rw [HS1.out, ← HW2.out, ← HG.out]
 cases b with
 | false =>
  go_wp2_with (first
   | (refine wpList_load_box rfl 27 _ rfl (g + 1) rfl (wkC (newW i N) zeroWA) HY.out _ Tryz.underlying27 rfl size_wk ?_)
   | (go_at_call 18; refine HCK.out.mono ?_; rintro e w3 ⟨rfl, hb3⟩)
   | (refine wpList_store_box rfl 27 _ _ rfl g 0 zeroC zeroC zeroC rfl rfl (HX.out.below hb3 hgl) (show 0 + 9 ≤ 9 by decide) rfl size_wk rfl ?_; intro w4 bx4 T4))
  obtain ⟨r0, r1, r2, r3, r4, r5, r6, r7, r8⟩ := zero_cells bx4
  have t4 := T4 (fun k => k = g) rfl
  have hsz := hb3.size
  refine bodyPost_ret (v := .tuple #[wkV zeroW zeroWA, .int .i64 1]) (by simp [results, Tryz.results69, go_sem, r0, r1, r2, r3, r4, r5, r6, r7, r8, wkV, Ad.v, zeroW, zeroWA, noAd, okV]) rfl ⟨zeroWA, rfl, wNew_zero _ _, ?_⟩
  rw [← HG.out]
  exact (HB2.out.trans (hb3.mono (by omega))).trans (t4.below (fun k hk => by omega) (by omega))
 | true =>
  go_wp2_with (first
   | (refine wpList_load_box rfl 27 _ rfl (g + 1) rfl (wkC (newW i N) zeroWA) (by first | exact HY.out | exact HY.out.below hb3 hgl1) _ Tryz.underlying27 rfl size_wk ?_)
   | (go_at_call 18; refine HCK.out.mono ?_; rintro e w3 ⟨rfl, hb3⟩)
   | (refine wpList_store_box rfl 27 _ _ rfl g 0 (wkC (newW i N) zeroWA) zeroC (wkC (newW i N) zeroWA) rfl rfl (HX.out.below hb3 hgl) (show 0 + 9 ≤ 9 by decide) rfl size_wk rfl ?_; intro w4 bx4 T4))
  obtain ⟨r0, r1, r2, r3, r4, r5, r6, r7, r8⟩ := wk_cells bx4
  have t4 := T4 (fun k => k = g) rfl
  have hsz := hb3.size
  refine bodyPost_ret (v := .tuple #[wkV (newW i N) zeroWA, .int .i64 0]) (by simp [results, Tryz.results69, go_sem, r0, r1, r2, r3, r4, r5, r6, r7, r8, wkV, Ad.v, newW, zeroWA, noAd]) rfl ⟨zeroWA, rfl, wNew_new _ _ _ _, ?_⟩
  rw [← HG.out]
  exact (HB2.out.trans (hb3.mono (by omega))).trans (t4.below (fun k hk => by omega) (by omega))

end Go.Proofs.YteepobghdpnabaaGreat
namespace Go.Proofs.YteepobghdpnabaaGreat
open Go.RowKit

theorem set2 {pre X R : List Value} {k : Nat} (hp : pre.length = k * 2) (hX : X.length = 2) {u0 u1 : Value} : ((pre ++ (X ++ R)).set (k * 2) u0).set (k * 2 + 1) u1 = (pre ++ [u0, u1]) ++ R := by
 match X, hX with
 | [a, b], _ =>
  rw [List.set_append_right _ _ (by omega), List.set_append_right _ _ (by omega), show k * 2 - pre.length = 0 by omega, show k * 2 + 1 - pre.length = 1 by omega]
  simp
set_option maxRecDepth 100000 in
set_option maxHeartbeats 8000000 in
theorem spoilWk_far (B : Nat) (P : WkD) (a : WkA) (w : World) (h : WNew B w P a) (hf : WFew P 400000) :
  Calls Tryz.prog 68 #[wkV P a] w fun e w' => e = .returned (.tuple #[]) ∧ Touch (fun j => a.owns j ∨ a.O.v.ownBlock = some j) w w' := by
 obtain ⟨g, hg⟩ : ∃ g, g = w.heap.size := ⟨_, rfl⟩
 obtain ⟨wa0, hwa0⟩ : ∃ wa0, wa0 = w.alloc (.cells #[.int .i64 P.i, .int .i64 P.N, .int .i64 P.x, .slice a.O.A a.O.n a.O.c, .int .i64 P.g, .int .i64 P.c, .slice a.W.A a.W.n a.W.c, .slice a.H.A a.H.n a.H.c, .slice a.R.A a.R.n a.R.c] 27) := ⟨_, rfl⟩
 have hs0 : wa0.heap.size = g + 1 := by rw [hwa0]; simp; omega
 have bn0 : Box wa0 (g) (wkC P a) := by rw [hwa0, hg]; exact box_new w (wkC P a) 27
 have hb0 : Below g w wa0 := by rw [hwa0]; exact (Below.refl _ _).alloc (by omega) _
 have HX0 : Hid (Box wa0 (g) (wkC P a)) := bn0
 obtain ⟨w0, hw0⟩ : ∃ w0, w0 = wa0 := ⟨_, rfl⟩
 rw [← hw0] at HX0
 have hsz0 : w0.heap.size = g + 1 := by rw [hw0]; exact hs0
 have hb0w : Below g w w0 := by rw [hw0]; exact hb0
 have HW0 : Hid (w.alloc (.cells #[.int .i64 P.i, .int .i64 P.N, .int .i64 P.x, .slice a.O.A a.O.n a.O.c, .int .i64 P.g, .int .i64 P.c, .slice a.W.A a.W.n a.W.c, .slice a.H.A a.H.n a.H.c, .slice a.R.A a.R.n a.R.c] 27) = w0) := by show w.alloc (.cells #[.int .i64 P.i, .int .i64 P.N, .int .i64 P.x, .slice a.O.A a.O.n a.O.c, .int .i64 P.g, .int .i64 P.c, .slice a.W.A a.W.n a.W.c, .slice a.H.A a.H.n a.H.c, .slice a.R.A a.R.n a.R.c] 27) = w0; rw [hw0, hwa0]
 have HG : Hid (w.heap.size = g) := hg.symm
 have HS0 := Lib.hid hsz0
 have HB0 := Lib.hid hb0w
 have hl0 : g < w0.heap.size := by omega
 have hgw : g ≤ w0.heap.size := by omega
 have hF0 : ∀ j, (a.owns j ∨ a.O.v.ownBlock = some j) → j < g ∧ B ≤ j := by
  rintro j (hj | hj)
  ·rw [← HG.out]; exact h.core.lt hj
  ·rw [← HG.out]; exact own_lt h.open_ hj
 have HF0 := Lib.hid hF0
 have hbw0 : Below w.heap.size w w0 := by rw [HG.out]; exact HB0.out
 have hcore := h.core.below hbw0
 have hopen := ownS_below h.open_ hbw0
 have HC := Lib.hid hcore
 have HAPO : Hid (∀ x ∈ a.hs, ∀ k, a.O.v.ownBlock = some k → x.2.v.ownBlock ≠ some k) := by show ∀ x ∈ a.hs, _; exact h.apO
 have HF := Lib.hid hf
 have HSO := Lib.hid (spoilTxs_far B a.O.v a.O.n _ w0 hopen (by have h1 := h.oL; have h2 := hf.o; omega))
 have HOP := Lib.hid hopen
 have hOfar : ∀ j, a.O.v.ownBlock = some j → j ≠ g := fun j hj => by have := (hF0 j (.inr hj)).1; omega
 have HOF := Lib.hid hOfar
 obtain ⟨AW, nW, cW, hoW⟩ : ∃ A n c, a.W = ⟨A, n, c⟩ := ⟨_, _, _, rfl⟩
 have HOW := Lib.hid hoW
 have hlW : a.ms.length = nW := by have := h.core.waits.len; rw [hoW] at this; exact this
 have HLW := Lib.hid hlW
 have hnW : nW ≤ 400000 := by have h1 := len_fst h.core.eW; have := hf.w; omega
 have HEW := Lib.hid h.core.eW
 have HEH := Lib.hid h.core.eH

 have HWV : Hid (Value.slice AW nW cW = a.W.v) := by show _ = _; rw [hoW]; rfl
 clear hg hsz0 hb0w hw0 hwa0 hs0 bn0 hb0
 clear hF0 hbw0 hcore hopen h hf hOfar hlW
 unfold wkV Ad.v
 clear hoW
 unfold Ad.v at HSO
 go_enter Tryz.func68, Tryz.ntmps68
 go_upto_region 1 with fail
 rw [HG.out, HW0.out]
 have k3 : w0.cell? ⟨g, 3, none⟩ = some (.slice a.O.A a.O.n a.O.c) := (HX0.out.2 3 _ rfl).1
 go_upto_region 2 with (go_at_call 50; refine HSO.out.mono ?_; rintro e w1 ⟨rfl, ht1⟩)
 have HT1 : Hid (Touch (fun k => a.O.v.ownBlock = some k) w0 w1) := ht1
 have HS1 : Hid (w1.ownsRow B KW.e KW.s (.slice AW nW cW) nW ([] ++ cellsK KW (a.ms.drop 0))) := by
  show w1.ownsRow _ _ _ _ _ _
  rw [List.nil_append, List.drop_zero]
  have h1 := HC.out.waits.row
  rw [HOW.out] at h1
  exact own_kept h1 fun j hj hl => ht1.block j hl fun hf => own_unlike h1 HOP.out (show KW.e ≠ 40 by decide) hj hf
 have HBX1 : Hid (Box w1 g (wkC P a)) := HX0.out.touch ht1 (fun hf => HOF.out g hf rfl)
 have HTS1 : Hid (Touch (fun j => a.O.v.ownBlock = some j ∨ a.W.v.ownBlock = some j ∨ ∃ y ∈ a.ms.take 0, y.2.v.ownBlock = some j) w0 w1) := ht1.mono fun j hj => .inl hj
 clear ht1 k3
 go_wp2_with fail
 go_loopw [2] (fun i wr => ∃ (k : Nat) (pre : List Value), i = .int .i64 k ∧ k ≤ nW ∧ Hid (pre.length = k * 2) ∧ Hid (wr.ownsRow B KW.e KW.s (.slice AW nW cW) nW (pre ++ cellsK KW (a.ms.drop k))) ∧ Hid (Touch (fun j => a.O.v.ownBlock = some j ∨ a.W.v.ownBlock = some j ∨ ∃ y ∈ a.ms.take k, y.2.v.ownBlock = some j) w0 wr)) (fun i _ => nW - (intOf i).toNat)
 case atStart => exact ⟨0, [], rfl, by omega, rfl, HS1, HTS1⟩
 case round =>
  clear HS1 HTS1 HBX1 HT1
  obtain ⟨k, pre, rfl, hk, HP, HO, HT⟩ := hrel
  have i0 : (0 : Int) ≤ (k : Int) := by omega
  have hbx : Box wr g (wkC P a) := HX0.out.touch HT.out (by
   rintro (e | e | ⟨y, hy, e⟩)
   ·exact HOF.out g e rfl
   ·have := (HF0.out g (.inl (.inl e))).1; omega
   ·have := (HF0.out g (.inl (.inr (.inr (.inr (.inl ⟨y, List.mem_of_mem_take hy, e⟩)))))).1; omega)
  have k6 : wr.cell? ⟨g, 6, none⟩ = some (.slice AW nW cW) := by have := (hbx.2 6 _ rfl).1; rw [HOW.out] at this; exact this
  have hgr : g < wr.heap.size := hbx.1
  have HBX := Lib.hid hbx
  by_cases hlt : k < nW
  ·obtain ⟨x, hx⟩ : ∃ x, a.ms[k]? = some x := ⟨_, List.getElem?_eq_getElem (by rw [HLW.out]; exact hlt)⟩
   have hcell := row_zero (K := KW) hx
   have HX := Lib.hid hx
   have hxm := List.mem_of_getElem? hx
   have ho := HO.out
   rw [hcell] at ho
   obtain ⟨gq, cap, hv, hBg, hglt⟩ := ho.form (by omega)
   simp only [Value.slice.injEq, true_and] at hv
   obtain ⟨rfl, rfl⟩ := hv
   have hgqW : a.W.v.ownBlock = some gq := by rw [← HWV.out]; rfl
   have hgg : g ≠ gq := fun e => by have := (HF0.out gq (.inl (.inl hgqW))).1; omega
   have HOX := Lib.hid ho
   have hat : ∀ j u, (KW.cells x.1 x.2.v)[j]? = some u → wr.cell? ⟨gq, k * 2 + j, none⟩ = some u := by
    intro j u hu
    have hj : j < 2 := by
     have := (List.getElem?_eq_some_iff.1 hu).1
     rw [KW.hs] at this
     exact this
    have h1 := ho.cellAt (k * 2 + j) (show k * 2 + j < nW * 2 by omega)
    rw [h1, List.getElem?_append_right (by rw [HP.out]; omega), HP.out, show k * 2 + j - k * 2 = j by omega, List.getElem?_append_left (by rw [KW.hs]; exact hj)]
    exact hu
   have d0 : wr.cell? ⟨gq, k * 2, none⟩ = some (.int .i64 x.1.d) := hat 0 _ rfl
   have d1 : wr.cell? ⟨gq, k * 2 + 1, none⟩ = some (.slice x.2.A x.2.n x.2.c) := hat 1 _ rfl
   have hnod : ∀ j, x.2.v.ownBlock = some j → ¬ (a.O.v.ownBlock = some j ∨ a.W.v.ownBlock = some j ∨ ∃ y ∈ a.ms.take k, y.2.v.ownBlock = some j) := by
    rintro j hj (e | e | ⟨y, hy, e⟩)
    ·exact own_unlike HOP.out (HC.out.waits.sub x hxm).1 (show 40 ≠ KW.e2 by decide) e hj
    ·exact HC.out.waits.apart hxm e hj
    ·obtain ⟨i, hi⟩ := List.mem_iff_getElem?.1 hy
     rw [List.getElem?_take] at hi
     split at hi
     ·rename_i hik
      have hp := List.pairwise_iff_getElem.1 HC.out.waits.nod i k (List.getElem?_eq_some_iff.1 hi).1 (List.getElem?_eq_some_iff.1 hx).1 hik j
      rw [(List.getElem?_eq_some_iff.1 hi).2, (List.getElem?_eq_some_iff.1 hx).2] at hp
      exact hp e hj
     ·cases hi
   have hsub := HC.out.waits.sub x hxm
   have hown : wr.ownsRow B 3 1 x.2.v x.2.n (i64s x.1.S) := own_kept hsub.1 fun j hj hl => HT.out.block j hl (hnod j hj)
   have HSP := Lib.hid (spoilNums_far B x.2.v x.2.n _ wr hown (by have h1 := hsub.2; have h2 := HF.out.s x.1 (mem_fst HEW.out hxm); have e : KW.len x.1 = x.1.S.length := rfl; omega))
   have hgx : x.2.v.ownBlock ≠ some gq := fun e => HC.out.waits.apart hxm hgqW e
   have hgx2 : x.2.v.ownBlock ≠ some g := fun e => by have := (HF0.out g (.inl (.inr (.inr (.inr (.inl ⟨x, hxm, e⟩)))))).1; omega
   have HGX := Lib.hid hgx
   have HGX2 := Lib.hid hgx2
   have HGW := Lib.hid hgqW
   have i1 : (k : Int) < (nW : Int) := by omega
   have f0 := ho.frozenAt (k * 2)
   have f1 := ho.frozenAt (k * 2 + 1)
   clear hcell hx ho hat hnod hsub hown hgx hgx2 hBg hgqW hbx
   unfold Ad.v at HSP
   go_upto_region 6 with (go_at_call 108; refine HSP.out.mono ?_; rintro e w2 ⟨rfl, ht2⟩)
   have hb2 := ht2.block gq hglt (fun e => HGX.out e)
   have a0 : w2.cell? ⟨gq, k * 2, none⟩ = some (.int .i64 x.1.d) := (World.cell?_of_block (a := ⟨gq, k * 2, none⟩) hb2).trans d0
   have a1 : w2.cell? ⟨gq, k * 2 + 1, none⟩ = some (.slice x.2.A x.2.n x.2.c) := (World.cell?_of_block (a := ⟨gq, k * 2 + 1, none⟩) hb2).trans d1
   have b0 : w2.frozen? ⟨gq, k * 2, none⟩ = false := (World.frozen?_of_block (a := ⟨gq, k * 2, none⟩) hb2).trans f0
   have b1 : w2.frozen? ⟨gq, k * 2 + 1, none⟩ = false := (World.frozen?_of_block (a := ⟨gq, k * 2 + 1, none⟩) hb2).trans f1
   have e6 : w2.cell? ⟨g, 6, none⟩ = some (.slice (some ⟨gq, 0, none⟩) nW cW) := (World.cell?_of_block (a := ⟨g, 6, none⟩) (ht2.block g hgr (fun e => HGX2.out e))).trans k6
   have HOW2 := Lib.hid (own_kept HOX.out fun j hj hl => ht2.block j hl (fun e => by
    have : j = gq := by simp only [Value.ownBlock, Option.some.injEq] at hj; exact hj.symm
    subst this
    exact HGX.out e))
   have HT2 : Hid (Touch (fun j => x.2.v.ownBlock = some j) wr w2) := ht2
   clear d0 d1 f0 f1 hb2 k6 ht2
   go_wp2
   go_roundw
   case rel =>
    have hchain := ((HOW2.out.stored (k * 2) (.int .i64 (-9))).1.stored (k * 2 + 1) (.slice none 0 0)).1
    rw [set2 HP.out rfl] at hchain
    refine ⟨k + 1, pre ++ [.int .i64 (-9), .slice none 0 0], by go_num, by omega, ?_, Lib.hid hchain, ?_⟩
    ·show _ = _
     rw [List.length_append, HP.out]
     show k * 2 + 2 = (k + 1) * 2
     omega
    ·have h1 : Touch (fun j => a.O.v.ownBlock = some j ∨ a.W.v.ownBlock = some j ∨ ∃ y ∈ a.ms.take (k + 1), y.2.v.ownBlock = some j) w0 w2 := (HT.out.mono fun j hj => hj.imp id fun hj => hj.imp id (fun ⟨y, hy, e⟩ => ⟨y, List.take_subset_take_left a.ms (Nat.le_succ k) hy, e⟩)).on (HT2.out.mono fun j hj => .inr (.inr ⟨x, List.mem_of_getElem? (by rw [List.getElem?_take, if_pos (Nat.lt_succ_self k)]; exact HX.out), hj⟩))
     exact (h1.set (.inl (.inr (.inl HGW.out))) _).set (.inl (.inr (.inl HGW.out))) _
   case measure => simp [intOf]; omega
  ·have i1 : ¬ ((k : Int) < (nW : Int)) := by omega
   have hT' : Touch (fun j => a.O.v.ownBlock = some j ∨ a.W.v.ownBlock = some j ∨ ∃ y ∈ a.ms, y.2.v.ownBlock = some j) w0 wr := HT.out.mono fun j hj => hj.imp id fun hj => hj.imp id (fun ⟨y, hy, e⟩ => ⟨y, List.mem_of_mem_take hy, e⟩)
   have hheld : RowOwn KH B wr a.H a.hs := HC.out.held.touch hT' (by
    rintro j hj (e | e | ⟨y, hy, e⟩)
    ·exact own_unlike HOP.out HC.out.held.row (show 40 ≠ KH.e by decide) e hj
    ·exact own_unlike HC.out.waits.row HC.out.held.row (show KW.e ≠ KH.e by decide) e hj
    ·exact own_unlike (HC.out.waits.sub y hy).1 HC.out.held.row (show KW.e2 ≠ KH.e by decide) e hj) (by
    rintro z hz j hj (e | e | ⟨y, hy, e⟩)
    ·exact HAPO.out z hz j e hj
    ·exact own_unlike HC.out.waits.row (HC.out.held.sub z hz).1 (show KW.e ≠ KH.e2 by decide) e hj
    ·exact own_unlike (HC.out.waits.sub y hy).1 (HC.out.held.sub z hz).1 (show KW.e2 ≠ KH.e2 by decide) e hj)
   have hready : wr.ownsRow B 3 1 a.R.v a.R.n (i64s P.R) := own_kept HC.out.ready fun j hj hl => hT'.block j hl (by
    rintro (e | e | ⟨y, hy, e⟩)
    ·exact own_unlike HOP.out HC.out.ready (show 40 ≠ 3 by decide) e hj
    ·exact own_unlike HC.out.waits.row HC.out.ready (show KW.e ≠ 3 by decide) e hj
    ·exact HC.out.apR y hy j hj e)
   have HSH := Lib.hid (spoilHelds_far B a.H a.hs wr hheld (by have h1 := len_fst HEH.out; have := HF.out.h; omega) (fun y hy => by have := HF.out.l y.1 (mem_fst HEH.out hy); omega) (fun j => a.H.v.ownBlock = some j ∨ ∃ y ∈ a.hs, y.2.v.ownBlock = some j) (fun j hj => hj))
   have k7 : wr.cell? ⟨g, 7, none⟩ = some (.slice a.H.A a.H.n a.H.c) := (HBX.out.2 7 _ rfl).1
   have HRDY := Lib.hid hready
   have HTT := Lib.hid hT'
   clear hheld hready hT' hbx
   unfold Ad.v at HSH
   go_upto_region 8 with (go_at_call 112; refine HSH.out.mono ?_; rintro e w3 ⟨rfl, ht3⟩)
   have ht3' : Touch (fun j => a.H.v.ownBlock = some j ∨ ∃ y ∈ a.hs, y.2.v.ownBlock = some j) wr w3 := ht3
   have hbx3 := HBX.out.touch ht3' (by
    rintro (e | ⟨y, hy, e⟩)
    ·have := (HF0.out g (.inl (.inr (.inl e)))).1; omega
    ·have := (HF0.out g (.inl (.inr (.inr (.inr (.inr ⟨y, hy, e⟩)))))).1; omega)
   have hready3 : w3.ownsRow B 3 1 a.R.v a.R.n (i64s P.R) := own_kept HRDY.out fun j hj hl => ht3'.block j hl (by
    rintro (e | ⟨y, hy, e⟩)
    ·exact own_unlike HC.out.held.row HC.out.ready (show KH.e ≠ 3 by decide) e hj
    ·exact own_unlike (HC.out.held.sub y hy).1 HC.out.ready (show KH.e2 ≠ 3 by decide) e hj)
   have HSR := Lib.hid (spoilNums_far B a.R.v a.R.n _ w3 hready3 (by have h1 := HC.out.rL; have := HF.out.r; omega))
   have k8 : w3.cell? ⟨g, 8, none⟩ = some (.slice a.R.A a.R.n a.R.c) := (hbx3.2 8 _ rfl).1
   have hg3 : g < w3.heap.size := hbx3.1
   have HT3 := Lib.hid ht3'
   clear ht3 ht3' hbx3 hready3
   unfold Ad.v at HSR
   go_wp2_with (go_at_call 108; refine HSR.out.mono ?_; rintro e w4 ⟨rfl, ht4⟩)
   have ht4' : Touch (fun j => a.R.v.ownBlock = some j) w3 w4 := ht4
   have hall : Touch (fun j => a.owns j ∨ a.O.v.ownBlock = some j) w0 w4 := ((HTT.out.mono fun j hj => by
    rcases hj with e | e | ⟨y, hy, e⟩
    ·exact .inr e
    ·exact .inl (.inl e)
    ·exact .inl (.inr (.inr (.inr (.inl ⟨y, hy, e⟩))))).on (HT3.out.mono fun j hj => by
    rcases hj with e | ⟨y, hy, e⟩
    ·exact .inl (.inr (.inl e))
    ·exact .inl (.inr (.inr (.inr (.inr ⟨y, hy, e⟩)))))).on (ht4'.mono fun j hj => .inl (.inr (.inr (.inl hj))))
   have hall0 : Touch (fun j => a.owns j ∨ a.O.v.ownBlock = some j) w w0 := by
    rw [← HW0.out]
    exact (Touch.refl _ w).alloc _
   go_end0
   exact ⟨rfl, hall0.on hall⟩
end Go.Proofs.YteepobghdpnabaaGreat
