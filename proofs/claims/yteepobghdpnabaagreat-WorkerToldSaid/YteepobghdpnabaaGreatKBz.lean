/-
 Which scripts on package worker are let go.
-/
import Derived.Deep.CutRange
import Derived.Deep.CutBlock
import Derived.Test.YteepobghdpnabaaGreatKBp
import Derived.Test.YteepobghdpnabaaGreatKBy
import Derived.Test.YteepobghdpnabaaGreatKBv
import Derived.Test.YteepobghdpnabaaGreatKBt
namespace Go.Proofs.YteepobghdpnabaaGreat
open Go.RowKit

theorem heldWt_le : ∀ (n : Nat) (l : List HlD) (C : Nat), (∀ x ∈ l, txW x.L.length x.L ≤ 140737488351232 + C) → heldWt n l ≤ max n (1048576 + 140737488351232 + C)
 | n, [], C, _ => by unfold heldWt; omega
 | n, x :: r, C, h => by
  unfold heldWt
  split
  ·have h1 := heldWt_le (n + txW x.L.length x.L) r C fun y hy => h y (List.mem_cons_of_mem _ hy)
   have h2 := h x List.mem_cons_self
   omega
  ·omega
theorem heldWt_each : ∀ (l : List HlD) (n : Nat), heldWt n l < 1048576 → ∀ x ∈ l, x.L.length ≤ heldWt n l
 | [], n, _, x, hx => by simp at hx
 | y :: r, n, h, x, hx => by
  rw [heldWt_cons] at h ⊢
  split at h
  ·rename_i hn
   rw [if_pos hn]
   rcases List.mem_cons.1 hx with rfl | hx
   ·have h1 := heldWt_ge (n + txW x.L.length x.L) r
    have h2 := txW_ge x.L.length x.L
    omega
   ·exact heldWt_each r _ h x hx
  ·rename_i hn
   omega
def HeavyZ (s : ScrZ) (w : World) (e : Ending) (w' : World) : Prop := ∃ b : Bool, e = .returned (.bool b) ∧ Below w.heap.size w w' ∧ (b = false → LightZ s)

set_option maxRecDepth 100000 in
set_option maxHeartbeats 8000000 in
theorem heavyZ_any (s : ScrZ) (w : World) (h : ScrIn w s) : Calls Tryz.prog 14 #[scrV s] w (HeavyZ s w) := by
 obtain ⟨g, hg⟩ : ∃ g, g = w.heap.size := ⟨_, rfl⟩
 obtain ⟨w1, hw1⟩ : ∃ w1, w1 = w.alloc (.cells #[.int .i64 s.P.i, .int .i64 s.P.N, .int .i64 s.P.x, .slice s.a.O.A s.a.O.n s.a.O.c, .int .i64 s.P.g, .int .i64 s.P.c, .slice s.a.W.A s.a.W.n s.a.W.c, .slice s.a.H.A s.a.H.n s.a.H.c, .slice s.a.R.A s.a.R.n s.a.R.c, .slice s.A s.n s.c] 30) := ⟨_, rfl⟩
 have hb1 : Below g w w1 := by rw [hw1]; exact (Below.refl _ _).alloc (by omega) _
 have bx1 : Box w1 g (scrC s) := by rw [hw1, hg]; exact box_new w (scrC s) 30
 have HG : Hid (w.heap.size = g) := hg.symm
 have HW : Hid (w.alloc (.cells #[.int .i64 s.P.i, .int .i64 s.P.N, .int .i64 s.P.x, .slice s.a.O.A s.a.O.n s.a.O.c, .int .i64 s.P.g, .int .i64 s.P.c, .slice s.a.W.A s.a.W.n s.a.W.c, .slice s.a.H.A s.a.H.n s.a.H.c, .slice s.a.R.A s.a.R.n s.a.R.c, .slice s.A s.n s.c] 30) = w1) := hw1.symm
 have hsz : w1.heap.size = g + 1 := by rw [hw1, hg]; simp
 have HIN : Hid (∀ wX, Below w1.heap.size w1 wX → ScrIn wX s) := by
  show ∀ wX, _
  exact fun wX hX => h.below (by rw [← hg]; exact hb1.trans (hX.mono (by omega)))
 have HBX : Hid (∀ wX, Below w1.heap.size w1 wX → Box wX g (scrC s)) := by
  show ∀ wX, _
  exact fun wX hX => bx1.below hX bx1.1
 have HB1 := Lib.hid hb1
 obtain ⟨nO, hnO⟩ : ∃ n, n = s.a.O.n := ⟨_, rfl⟩
 obtain ⟨nW, hnW⟩ : ∃ n, n = s.a.W.n := ⟨_, rfl⟩
 obtain ⟨nH, hnH⟩ : ∃ n, n = s.a.H.n := ⟨_, rfl⟩
 obtain ⟨nR, hnR⟩ : ∃ n, n = s.a.R.n := ⟨_, rfl⟩
 obtain ⟨nL, hnL⟩ : ∃ n, n = s.n := ⟨_, rfl⟩
 have hz := h.wk
 have lO : s.P.O.length = nO := by rw [hnO]; exact hz.open_.len
 have lW : s.P.W.length = nW := by rw [hnW, ← hz.eW, List.length_map]; exact hz.waits.row.len
 have lH : s.P.H.length = nH := by rw [hnH, ← hz.eH, List.length_map]; exact hz.held.row.len
 have lR : s.P.R.length = nR := by rw [hnR]; exact hz.ready.len
 have lL : s.L.length = nL := by rw [hnL]; exact h.z
 have fO : nO ≤ 140737488351232 := by have := h.fit.o; omega
 have fW : nW ≤ 140737488351232 := by have := h.fit.w; omega
 have fH : nH ≤ 140737488351232 := by have := h.fit.h; omega
 have fR : nR ≤ 140737488351232 := by have := h.fit.r; omega
 have fL : nL ≤ 140737488351232 := by have := h.small; omega
 have HFIT := Lib.hid h.fit
 have HLO := Lib.hid lO
 have HLW := Lib.hid lW
 have HLH := Lib.hid lH
 have HLR := Lib.hid lR
 have HLL := Lib.hid lL
 have HLS := Lib.hid h.ls
 have HC : Hid (∀ wX, Below w1.heap.size w1 wX → wX.cell? ⟨g, 3, none⟩ = some (.slice s.a.O.A nO s.a.O.c) ∧ wX.cell? ⟨g, 6, none⟩ = some (.slice s.a.W.A nW s.a.W.c) ∧ wX.cell? ⟨g, 7, none⟩ = some (.slice s.a.H.A nH s.a.H.c) ∧ wX.cell? ⟨g, 8, none⟩ = some (.slice s.a.R.A nR s.a.R.c) ∧ wX.cell? ⟨g, 9, none⟩ = some (.slice s.A nL s.c)) := by
  show ∀ wX, _
  intro wX hX
  have hb := HBX.out wX hX
  rw [hnO, hnW, hnH, hnR, hnL]
  exact ⟨(hb.2 3 _ rfl).1, (hb.2 6 _ rfl).1, (hb.2 7 _ rfl).1, (hb.2 8 _ rfl).1, (hb.2 9 _ rfl).1⟩
 obtain ⟨X, hX⟩ : ∃ X, X = txW nO s.P.O := ⟨_, rfl⟩
 obtain ⟨Y, hY⟩ : ∃ Y, Y = heldWt nH s.P.H := ⟨_, rfl⟩
 have bX : X ≤ 4611686018427387904 / 4 := by
  have := txW_le nO s.P.O h.fit.ot
  rw [← hX] at this
  omega
 have bY : Y ≤ 4611686018427387904 / 4 := by
  have := heldWt_le nH s.P.H (1048576 + 2 * 140737488351232) (fun x hx => by have h1 := txW_le x.L.length x.L (h.fit.lt x hx); have h2 := h.fit.l x hx; omega)
  rw [← hY] at this
  omega
 have HTX : Hid (∀ wX, Below w1.heap.size w1 wX → Calls Tryz.prog 23 #[.slice s.a.O.A nO s.a.O.c] wX fun e w' => e = .returned (.int .i64 (X : Int)) ∧ ∃ d, w' = wX.drewN d) := by
  show ∀ wX, _
  intro wX hX2
  have h1 := (HIN.out wX hX2).wk.open_
  rw [hX]
  exact txWeight_is s.a.O.A s.a.O.c nO s.P.O wX lO h1.rd h.fit.ot (by rw [hnO]; exact h1.cap) h1.max
 have HHX : Hid (∀ wX, Below w1.heap.size w1 wX → Calls Tryz.prog 24 #[.slice s.a.H.A nH s.a.H.c] wX fun e w' => e = .returned (.int .i64 (Y : Int)) ∧ ∃ d, w' = wX.drewN d) := by
  show ∀ wX, _
  intro wX hX2
  have h1 := (HIN.out wX hX2).wk
  have h2 := heldWeight_is s.a.H s.a.hs s.P.H wX h1.held h1.eH h.fit.lt h.fit.h h.fit.l
  rw [lH] at h2
  rw [hY, hnH]
  rw [hnH] at h2
  exact h2
 have HXE := Lib.hid hX
 have HYE := Lib.hid hY
 have s1 : IntKind.i64.wrap ((X : Int) + (Y : Int)) = (X : Int) + (Y : Int) := IntWalk.i64_in _ (by omega)
 have s2 : IntKind.i64.wrap ((X : Int) + (Y : Int) + (nW : Int)) = (X : Int) + (Y : Int) + (nW : Int) := IntWalk.i64_in _ (by omega)
 have s3 : IntKind.i64.wrap ((X : Int) + (Y : Int) + (nW : Int) + (nR : Int)) = (X : Int) + (Y : Int) + (nW : Int) + (nR : Int) := IntWalk.i64_in _ (by omega)
 have b0 : X + Y + nW + nR ≤ 4611686018427387904 / 4 * 2 + 2 * 140737488351232 := by omega
 clear hz hw1 bx1 hg h lO lW lH lR lL hnO hnW hnH hnR hnL hX hY hb1
 unfold scrV
 go_enter Tryz.func14, Tryz.ntmps14
 go_upto_region 1 with fail
 rw [HG.out, HW.out]
 have hS0 : Below w1.heap.size w1 w1.drew := (Below.refl _ _).drew
 refine wp_region_held_drew (S := fun w' => Below w1.heap.size w1 w') (by kernel_rfl) hS0 (fun _ => ?_)
 refine ytake_0 (v := ?vv1) (by kernel_rfl) (by kernel_rfl) (by kernel_rfl) (fun _ _ _ h => h) (Or.inl ⟨by rfl, ?hy1⟩) hS0 ?_
 case hy1 =>
  intro wX hSw
  go_simp
  try with_reducible rfl
 try simp only [Act.put, List.setIfInBounds_toArray, List.set_cons_zero, List.set_cons_succ]
 refine ytake_1 (v := ?vv2) (by kernel_rfl) (by kernel_rfl) (by kernel_rfl) (fun _ _ _ h => h) (Or.inl ⟨by rfl, ?hy2⟩) hS0 ?_
 case hy2 =>
  intro wX hSw
  go_simp
  try with_reducible rfl
 try simp only [Act.put, List.setIfInBounds_toArray, List.set_cons_zero, List.set_cons_succ]
 refine ytake_2 (v := ?vv3) (by kernel_rfl) (by kernel_rfl) (by kernel_rfl) (fun _ _ _ h => h) (Or.inl ⟨by rfl, ?hy3⟩) hS0 ?_
 case hy3 =>
  intro wX hSw
  obtain ⟨c3, c6, c7, c8, c9⟩ := HC.out _ hSw
  go_simp
  try with_reducible rfl
 try simp only [Act.put, List.setIfInBounds_toArray, List.set_cons_zero, List.set_cons_succ]
 refine ytake_4 (v := ?vv4) (by kernel_rfl) (by kernel_rfl) (by kernel_rfl) (fun _ _ _ h => h) (Or.inl ⟨by rfl, ?hy4⟩) hS0 ?_
 case hy4 =>
  intro wX hSw
  go_simp
  try with_reducible rfl
 try simp only [Act.put, List.setIfInBounds_toArray, List.set_cons_zero, List.set_cons_succ]
 refine ytake_5 (v := ?vv5) (by kernel_rfl) (by kernel_rfl) (by kernel_rfl) (fun _ _ _ h => h) (Or.inl ⟨by rfl, ?hy5⟩) hS0 ?_
 case hy5 =>
  intro wX hSw
  go_simp
  try with_reducible rfl
 try simp only [Act.put, List.setIfInBounds_toArray, List.set_cons_zero, List.set_cons_succ]
 refine ytake_6 (v := ?vv6) (by kernel_rfl) (by kernel_rfl) (by kernel_rfl) (fun _ _ _ h => h) (Or.inl ⟨by rfl, ?hy6⟩) hS0 ?_
 case hy6 =>
  intro wX hSw
  obtain ⟨c3, c6, c7, c8, c9⟩ := HC.out _ hSw
  go_simp
  try with_reducible rfl
 try simp only [Act.put, List.setIfInBounds_toArray, List.set_cons_zero, List.set_cons_succ]
 refine ytake_9 (v := ?vv7) (by kernel_rfl) (by kernel_rfl) (by kernel_rfl) (fun _ _ _ h => h) (Or.inl ⟨by rfl, ?hy7⟩) hS0 ?_
 case hy7 =>
  intro wX hSw
  go_simp
  try with_reducible rfl
 try simp only [Act.put, List.setIfInBounds_toArray, List.set_cons_zero, List.set_cons_succ]
 refine ytake_10 (v := ?vv8) (by kernel_rfl) (by kernel_rfl) (by kernel_rfl) (fun _ _ _ h => h) (Or.inl ⟨by rfl, ?hy8⟩) hS0 ?_
 case hy8 =>
  intro wX hSw
  go_simp
  try with_reducible rfl
 try simp only [Act.put, List.setIfInBounds_toArray, List.set_cons_zero, List.set_cons_succ]
 refine ytake_11 (v := ?vv9) (by kernel_rfl) (by kernel_rfl) (by kernel_rfl) (fun _ _ _ h => h) (Or.inl ⟨by rfl, ?hy9⟩) hS0 ?_
 case hy9 =>
  intro wX hSw
  obtain ⟨c3, c6, c7, c8, c9⟩ := HC.out _ hSw
  go_simp
  try with_reducible rfl
 try simp only [Act.put, List.setIfInBounds_toArray, List.set_cons_zero, List.set_cons_succ]
 refine ytake_12 (v := ?vv10) (by kernel_rfl) (by kernel_rfl) (by kernel_rfl) (fun _ _ _ h => h) (Or.inl ⟨by rfl, ?hy10⟩) hS0 ?_
 case hy10 =>
  intro wX hSw
  go_simp
  try with_reducible rfl
 try simp only [Act.put, List.setIfInBounds_toArray, List.set_cons_zero, List.set_cons_succ]
 refine ytake_14 (v := ?vv11) (by kernel_rfl) (by kernel_rfl) (by kernel_rfl) (fun _ _ _ h => h) (Or.inl ⟨by rfl, ?hy11⟩) hS0 ?_
 case hy11 =>
  intro wX hSw
  go_simp
  try with_reducible rfl
 try simp only [Act.put, List.setIfInBounds_toArray, List.set_cons_zero, List.set_cons_succ]
 refine ytake_15 (v := ?vv12) (by kernel_rfl) (by kernel_rfl) (by kernel_rfl) (fun _ _ _ h => h) (Or.inl ⟨by rfl, ?hy12⟩) hS0 ?_
 case hy12 =>
  intro wX hSw
  go_simp
  try with_reducible rfl
 try simp only [Act.put, List.setIfInBounds_toArray, List.set_cons_zero, List.set_cons_succ]
 refine ytake_16 (v := ?vv13) (by kernel_rfl) (by kernel_rfl) (by kernel_rfl) (fun _ _ _ h => h) (Or.inl ⟨by rfl, ?hy13⟩) hS0 ?_
 case hy13 =>
  intro wX hSw
  obtain ⟨c3, c6, c7, c8, c9⟩ := HC.out _ hSw
  go_simp
  try with_reducible rfl
 try simp only [Act.put, List.setIfInBounds_toArray, List.set_cons_zero, List.set_cons_succ]
 refine ytake_17 (v := ?vv14) (by kernel_rfl) (by kernel_rfl) (by kernel_rfl) (fun _ _ _ h => h) (Or.inl ⟨by rfl, ?hy14⟩) hS0 ?_
 case hy14 =>
  intro wX hSw
  go_simp
  try with_reducible rfl
 try simp only [Act.put, List.setIfInBounds_toArray, List.set_cons_zero, List.set_cons_succ]
 refine yready_3 (by kernel_rfl) ?_
 intro KQ hK
 rw [if_pos (by rfl)]
 try go_simp
 refine (HTX.out _ hS0).mono ?_
 rintro e wb1 ⟨rfl, d1, hwb1⟩
 have hS1 : Below w1.heap.size w1 wb1 := by rw [hwb1]; exact below_n hS0 d1
 clear hwb1
 refine hK.out _ _ hS1 (fun _ => ?_)
 clear hK KQ
 try simp only [Act.put, List.setIfInBounds_toArray, List.set_cons_zero, List.set_cons_succ]
 refine yready_7 (by kernel_rfl) ?_
 intro KQ hK
 rw [if_pos (by rfl)]
 try go_simp
 refine (HHX.out _ hS1).mono ?_
 rintro e wb2 ⟨rfl, d2, hwb2⟩
 have hS2 : Below w1.heap.size w1 wb2 := by rw [hwb2]; exact below_n hS1 d2
 clear hwb2
 refine hK.out _ _ hS2 (fun _ => ?_)
 clear hK KQ
 try simp only [Act.put, List.setIfInBounds_toArray, List.set_cons_zero, List.set_cons_succ]
 refine ytake_8 (v := ?vv15) (by kernel_rfl) (by kernel_rfl) (by kernel_rfl) (fun _ _ _ h => h) (Or.inl ⟨by rfl, ?hy15⟩) hS2 ?_
 case hy15 =>
  intro wX hSw
  go_simp
  try with_reducible rfl
 try simp only [Act.put, List.setIfInBounds_toArray, List.set_cons_zero, List.set_cons_succ]
 refine ytake_13 (v := ?vv16) (by kernel_rfl) (by kernel_rfl) (by kernel_rfl) (fun _ _ _ h => h) (Or.inl ⟨by rfl, ?hy16⟩) hS2 ?_
 case hy16 =>
  intro wX hSw
  go_simp
  try with_reducible rfl
 try simp only [Act.put, List.setIfInBounds_toArray, List.set_cons_zero, List.set_cons_succ]
 refine ytake_18 (v := ?vv17) (by kernel_rfl) (by kernel_rfl) (by kernel_rfl) (fun _ _ _ h => h) (Or.inl ⟨by rfl, ?hy17⟩) hS2 ?_
 case hy17 =>
  intro wX hSw
  go_simp
  try with_reducible rfl
 try simp only [Act.put, List.setIfInBounds_toArray, List.set_cons_zero, List.set_cons_succ]
 refine ytake_19 (v := ?vv18) (by kernel_rfl) (by kernel_rfl) (by kernel_rfl) (fun _ _ _ h => h) (Or.inl ⟨by rfl, ?hy18⟩) hS2 ?_
 case hy18 =>
  intro wX hSw
  go_simp
  try with_reducible rfl
 try simp only [Act.put, List.setIfInBounds_toArray, List.set_cons_zero, List.set_cons_succ]
 refine wpAnyH_done (by kernel_rfl) ?_ _
 obtain ⟨w2, hw2⟩ : ∃ w2, w2 = wb2 := ⟨_, rfl⟩
 rw [← hw2] at hS2 ⊢
 have hB2 := hS2
 clear hw2 hS2 hS1 hS0
 go_wp2_with fail
 go_loopw [3, 4] (fun x i wr => ∃ j S : Nat, i = .int .i64 j ∧ x = .int .i64 S ∧ j ≤ nW ∧ S ≤ 4611686018427387904 ∧ Hid (X + Y + nW + nR ≤ S ∧ ∀ (k : Nat) (y : WtD), k < j → s.P.W[k]? = some y → y.S.length ≤ S) ∧ wr = w2) (fun _ i _ => nW - (intOf i).toNat)
 case atStart => exact ⟨0, X + Y + nW + nR, rfl, by go_num, by omega, by omega, ⟨Nat.le_refl _, fun k y hk => by omega⟩, rfl⟩
 case round =>
  obtain ⟨j, S, rfl, rfl, hj, hS, HS, rfl⟩ := hrel
  obtain ⟨c3, c6, c7, c8, c9⟩ := HC.out _ hB2
  clear c3 c7 c8 c9
  have i0 : (0 : Int) ≤ (j : Int) := by omega
  go_upto_region 3 with fail
  go_cut [34] from 25 to 33 (fun bv wx => bv = .bool (decide (j < nW ∧ S < 1048576)) ∧ wr = wx)
  case first =>
   by_cases hlt : j < nW
   ·have i1 : (j : Int) < (nW : Int) := by omega
    by_cases h20 : S < 1048576
    ·have i2 : (S : Int) < 1048576 := by omega
     have HD : Hid (decide (j < nW ∧ S < 1048576) = true) := decide_eq_true ⟨hlt, h20⟩
     go_wp2_with fail
     go_meet
     exact ⟨by rw [HD.out], rfl⟩
    ·have i2 : ¬ ((S : Int) < 1048576) := by omega
     have HD : Hid (decide (j < nW ∧ S < 1048576) = false) := decide_eq_false (fun h => h20 h.2)
     go_wp2_with fail
     go_meet
     exact ⟨by rw [HD.out], rfl⟩
   ·have i1 : ¬ ((j : Int) < (nW : Int)) := by omega
    have HD : Hid (decide (j < nW ∧ S < 1048576) = false) := decide_eq_false (fun h => hlt h.1)
    go_wp2_with fail
    go_meet
    exact ⟨by rw [HD.out], rfl⟩
  case rest =>
  obtain ⟨rfl, rfl⟩ := hcut
  by_cases hc : j < nW ∧ S < 1048576
  ·rw [decide_eq_true hc]
   obtain ⟨hlt, h20⟩ := hc
   have i1 : (j : Int) < (nW : Int) := by omega
   have hwk := (HIN.out _ hB2).wk
   obtain ⟨x, hx⟩ : ∃ x, s.a.ms[j]? = some x := ⟨_, List.getElem?_eq_getElem (by have h1 := len_fst hwk.eW; rw [h1, HLW.out]; exact hlt)⟩
   have hx2 : s.P.W[j]? = some x.1 := by rw [← hwk.eW, List.getElem?_map, hx]; rfl
   obtain ⟨b, off, hA, hbl, -, hcell⟩ := hwk.waits.cells hx
   have c1 : wr.cell? ⟨b, off + j * 2 + 1, none⟩ = some (.slice x.2.A x.2.n x.2.c) := by have := hcell 1 _ rfl; rw [← Nat.add_assoc] at this; exact this
   rw [hA] at c6
   have hsub := hwk.waits.sub x (List.mem_of_getElem? hx)
   have hxn : x.1.S.length = x.2.n := hsub.len
   have hxl := HFIT.out.s x.1 (List.mem_of_getElem? hx2)
   rw [hxn] at hxl
   have HXN := Lib.hid hxn
   have HX2 := Lib.hid hx2
   have s4 : IntKind.i64.wrap ((S : Int) + (x.2.n : Int)) = (S : Int) + (x.2.n : Int) := IntWalk.i64_in _ (by omega)
   clear hwk hx hx2 hA hcell hsub hxn s1 s2 s3
   go_wp2_with fail
   go_roundw
   case rel =>
    refine ⟨j + 1, S + x.2.n, by go_num, by go_num, by omega, by omega, ⟨by have := HS.out.1; omega, fun k y hk hy => ?_⟩, trivial⟩
    by_cases hkj : k = j
    ·subst hkj
     rw [HX2.out] at hy
     cases hy
     rw [HXN.out]
     omega
    ·have := HS.out.2 k y (by omega) hy
     omega
   case measure => simp [intOf]; omega
  ·rw [decide_eq_false hc]
   have HE : Hid (X + Y + nW + nR ≤ S ∧ (S < 1048576 → ∀ y ∈ s.P.W, y.S.length ≤ S)) := ⟨HS.out.1, fun h20 y hy => by
    obtain ⟨k, hk⟩ := List.getElem?_of_mem hy
    exact HS.out.2 k y (by have := (List.getElem?_eq_some_iff.1 hk).1; rw [HLW.out] at this; have : ¬ j < nW := fun h => hc ⟨h, h20⟩; omega) hk⟩
   clear hc
   go_wp2_with fail
   clear HS c6
   go_loopw [3, 5] (fun x i wr => ∃ k T : Nat, i = .int .i64 k ∧ x = .int .i64 T ∧ k ≤ nL ∧ T ≤ 6917529027641081856 ∧ Hid (S ≤ T ∧ ∀ (j : Nat) (y : ActD), j < k → s.L[j]? = some y → y.L.length ≤ T ∧ MsgFew 2000 y.b) ∧ Hid (Below w1.heap.size w1 wr)) (fun _ i _ => nL - (intOf i).toNat)
   case atStart => exact ⟨0, S, rfl, rfl, by omega, by omega, ⟨Nat.le_refl _, fun j y hj => by omega⟩, hB2⟩
   case round =>
    obtain ⟨k, T, rfl, rfl, hk, hT, HT, HQ⟩ := hrel
    obtain ⟨c3, c6, c7, c8, c9⟩ := HC.out _ HQ.out
    clear c3 c6 c8
    have i3 : (0 : Int) ≤ (k : Int) := by omega
    by_cases hlk : k < nL
    ·have i4 : (k : Int) < (nL : Int) := by omega
     by_cases h2k : T < 1048576
     ·have i5 : (T : Int) < 1048576 := by omega
      obtain ⟨b, off, x, hA, hx, hm, hbl, hrg⟩ := (HIN.out _ HQ.out).at_ (k := k) (by have h1 := (HIN.out _ HQ.out).z; rw [← h1, HLL.out]; exact hlk)
      rw [hA] at c9
      have hact := (HIN.out _ HQ.out).acts x hm
      have hxn : x.n ≤ 140737488351232 := HLS.out x hm
      have HXL : Hid (x.L.length = x.n) := hact.z
      have htf := hact.t.2.2
      have HRG : Hid (∀ wX, Below wr.heap.size wr wX → wX.cell? ⟨g, 9, none⟩ = some (.slice (some ⟨b, off, none⟩) nL s.c) ∧ wX.rangeAt b (off + k * 26) (actC x)) := by
       show ∀ wX, _
       intro wX hX
       have hX1 : Below w1.heap.size w1 wX := HQ.out.trans (hX.mono HQ.out.size)
       refine ⟨by rw [← hA]; exact (HC.out wX hX1).2.2.2.2, fun j v hv => ?_⟩
       exact (hX.cell (p := ⟨b, off + k * 26 + j, none⟩) hbl).trans (hrg j v hv)
      have HMS : Hid (∀ wX, Below wr.heap.size wr wX → MsgIn wX x.m x.b) := by
       show ∀ wX, _
       exact fun wX hX => hact.m.below hX
      have HOK := Lib.hid hact.ok
      have HFEW := Lib.hid hact.few
      have HXX := Lib.hid hx
      have hZ1 : txW 1 [x.t] ≤ 1048576 + 2 * 140737488351232 + 1 := by
       have := txW_le 1 [x.t] (fun t ht => by rw [List.mem_singleton.1 ht]; exact htf)
       omega
      have HTF := Lib.hid htf
      obtain ⟨Z, hZ⟩ : ∃ Z, Z = txW 1 [x.t] := ⟨_, rfl⟩
      have HZE := Lib.hid hZ
      rw [← hZ] at hZ1
      have s4 : IntKind.i64.wrap ((T : Int) + (Z : Int)) = (T : Int) + (Z : Int) := IntWalk.i64_in _ (by omega)
      have s5 : IntKind.i64.wrap ((T : Int) + (Z : Int) + (x.n : Int)) = (T : Int) + (Z : Int) + (x.n : Int) := IntWalk.i64_in _ (by omega)
      clear hA hm hrg hact htf hZ hx s1 s2 s3
      go_upto_region 9 with fail
      clear c9
      have hS0 : Below wr.heap.size wr wr.drew := (Below.refl _ _).drew
      refine wp_region_held_drew (S := fun w' => Below wr.heap.size wr w') (by kernel_rfl) hS0 (fun _ => ?_)
      refine ytake_0 (v := ?vv19) (by kernel_rfl) (by kernel_rfl) (by kernel_rfl) (fun _ _ _ h => h) (Or.inl ⟨by rfl, ?hy19⟩) hS0 ?_
      case hy19 =>
       intro wX hSw
       go_simp
       try with_reducible rfl
      try simp only [Act.put, List.setIfInBounds_toArray, List.set_cons_zero, List.set_cons_succ]
      refine ytake_1 (v := ?vv20) (by kernel_rfl) (by kernel_rfl) (by kernel_rfl) (fun _ _ _ h => h) (Or.inl ⟨by rfl, ?hy20⟩) hS0 ?_
      case hy20 =>
       intro wX hSw
       go_simp
       try with_reducible rfl
      try simp only [Act.put, List.setIfInBounds_toArray, List.set_cons_zero, List.set_cons_succ]
      refine ytake_2 (v := ?vv21) (by kernel_rfl) (by kernel_rfl) (by kernel_rfl) (fun _ _ _ h => h) (Or.inl ⟨by rfl, ?hy21⟩) hS0 ?_
      case hy21 =>
       intro wX hSw
       obtain ⟨q9, qr⟩ := HRG.out _ hSw
       go_simp
       try with_reducible rfl
      try simp only [Act.put, List.setIfInBounds_toArray, List.set_cons_zero, List.set_cons_succ]
      refine ytake_3 (v := ?vv22) (by kernel_rfl) (by kernel_rfl) (by kernel_rfl) (fun _ _ _ h => h) (Or.inl ⟨by rfl, ?hy22⟩) hS0 ?_
      case hy22 =>
       intro wX hSw
       go_simp
       try with_reducible rfl
      try simp only [Act.put, List.setIfInBounds_toArray, List.set_cons_zero, List.set_cons_succ]
      refine ytake_4 (v := ?vv23) (by kernel_rfl) (by kernel_rfl) (by kernel_rfl) (fun _ _ _ h => h) (Or.inl ⟨by rfl, ?hy23⟩) hS0 ?_
      case hy23 =>
       intro wX hSw
       go_simp
       try with_reducible rfl
      try simp only [Act.put, List.setIfInBounds_toArray, List.set_cons_zero, List.set_cons_succ]
      refine ytake_5 (v := ?vv24) (by kernel_rfl) (by kernel_rfl) (by kernel_rfl) (fun _ _ _ h => h) (Or.inl ⟨by rfl, ?hy24⟩) hS0 ?_
      case hy24 =>
       intro wX hSw
       go_simp
       try with_reducible rfl
      try simp only [Act.put, List.setIfInBounds_toArray, List.set_cons_zero, List.set_cons_succ]
      refine ytake_6 (by kernel_rfl) (by kernel_rfl) (by kernel_rfl) (fun _ _ _ h => h) (yieldsIf_load_mid rfl 40 _ rfl b (off + k * 26 + 2) (by first | rfl | simp) [.int .i64 x.t.s, .int .i64 x.t.q, .string x.t.k, .string x.t.v] _ (fun w' h => act_tx (HRG.out w' h).2) Tryz.underlying40 rfl size_tx) hS0 ?_
      try simp only [Act.put, List.setIfInBounds_toArray, List.set_cons_zero, List.set_cons_succ]
      refine ytake_10 (v := ?vv25) (by kernel_rfl) (by kernel_rfl) (by kernel_rfl) (fun _ _ _ h => h) (Or.inl ⟨by rfl, ?hy25⟩) hS0 ?_
      case hy25 =>
       intro wX hSw
       go_simp
       try with_reducible rfl
      try simp only [Act.put, List.setIfInBounds_toArray, List.set_cons_zero, List.set_cons_succ]
      refine ytake_11 (v := ?vv26) (by kernel_rfl) (by kernel_rfl) (by kernel_rfl) (fun _ _ _ h => h) (Or.inl ⟨by rfl, ?hy26⟩) hS0 ?_
      case hy26 =>
       intro wX hSw
       obtain ⟨q9, qr⟩ := HRG.out _ hSw
       go_simp
       try with_reducible rfl
      try simp only [Act.put, List.setIfInBounds_toArray, List.set_cons_zero, List.set_cons_succ]
      refine ytake_12 (v := ?vv27) (by kernel_rfl) (by kernel_rfl) (by kernel_rfl) (fun _ _ _ h => h) (Or.inl ⟨by rfl, ?hy27⟩) hS0 ?_
      case hy27 =>
       intro wX hSw
       go_simp
       try with_reducible rfl
      try simp only [Act.put, List.setIfInBounds_toArray, List.set_cons_zero, List.set_cons_succ]
      refine ytake_13 (v := ?vv28) (by kernel_rfl) (by kernel_rfl) (by kernel_rfl) (fun _ _ _ h => h) (Or.inl ⟨by rfl, ?hy28⟩) hS0 ?_
      case hy28 =>
       intro wX hSw
       go_simp
       try with_reducible rfl
      try simp only [Act.put, List.setIfInBounds_toArray, List.set_cons_zero, List.set_cons_succ]
      refine ytake_14 (v := ?vv29) (by kernel_rfl) (by kernel_rfl) (by kernel_rfl) (fun _ _ _ h => h) (Or.inl ⟨by rfl, ?hy29⟩) hS0 ?_
      case hy29 =>
       intro wX hSw
       go_simp
       try with_reducible rfl
      try simp only [Act.put, List.setIfInBounds_toArray, List.set_cons_zero, List.set_cons_succ]
      refine ytake_15 (v := ?vv30) (by kernel_rfl) (by kernel_rfl) (by kernel_rfl) (fun _ _ _ h => h) (Or.inl ⟨by rfl, ?hy30⟩) hS0 ?_
      case hy30 =>
       intro wX hSw
       obtain ⟨q9, qr⟩ := HRG.out _ hSw
       have qn := qr 25 _ rfl
       go_simp
       try with_reducible rfl
      try simp only [Act.put, List.setIfInBounds_toArray, List.set_cons_zero, List.set_cons_succ]
      refine ytake_16 (v := ?vv31) (by kernel_rfl) (by kernel_rfl) (by kernel_rfl) (fun _ _ _ h => h) (Or.inl ⟨by rfl, ?hy31⟩) hS0 ?_
      case hy31 =>
       intro wX hSw
       go_simp
       try with_reducible rfl
      try simp only [Act.put, List.setIfInBounds_toArray, List.set_cons_zero, List.set_cons_succ]
      obtain ⟨w4, hw4⟩ : ∃ w4, w4 = (wr.alloc (.cells #[.int .i64 x.t.s, .int .i64 x.t.q, .string x.t.k, .string x.t.v] 40)).drew := ⟨_, rfl⟩
      have hS4 : Below wr.heap.size wr w4 := by rw [hw4]; exact ((Below.refl _ _).alloc (Nat.le_refl _) _).drew
      have hrd4 : Rd w4 (some ⟨wr.heap.size, 0, none⟩) (txs [x.t]) := by rw [hw4]; exact rd_new wr x.t.cells 40
      have HTW := Lib.hid (txWeight_is (some ⟨wr.heap.size, 0, none⟩) 1 1 [x.t] w4 rfl hrd4 (fun t ht => by rw [List.mem_singleton.1 ht]; exact HTF.out) (by omega) (by unfold maxLen; omega))
      rw [← HZE.out] at HTW
      have HW4 := Lib.hid hw4
      clear hw4 hrd4
      refine yready_7 (by kernel_rfl) ?_
      intro KQ hK
      rw [if_pos (by rfl)]
      unfold Oper.wp execOp
      go_simp
      rw [← HW4.out]
      refine hK.out _ _ hS4 (fun _ => ?_)
      clear hK KQ
      try simp only [Act.put, List.setIfInBounds_toArray, List.set_cons_zero, List.set_cons_succ]
      refine yready_8 (by kernel_rfl) ?_
      intro KQ hK
      rw [if_pos (by rfl)]
      try go_simp
      refine HTW.out.mono ?_
      rintro e w5 ⟨rfl, d5, hwb5⟩
      have hS5 : Below wr.heap.size wr w5 := by rw [hwb5]; exact below_n hS4 d5
      clear hwb5
      refine hK.out _ _ hS5 (fun _ => ?_)
      clear hK KQ
      try simp only [Act.put, List.setIfInBounds_toArray, List.set_cons_zero, List.set_cons_succ]
      refine ytake_9 (v := ?vv32) (by kernel_rfl) (by kernel_rfl) (by kernel_rfl) (fun _ _ _ h => h) (Or.inl ⟨by rfl, ?hy32⟩) hS5 ?_
      case hy32 =>
       intro wX hSw
       go_simp
       try with_reducible rfl
      try simp only [Act.put, List.setIfInBounds_toArray, List.set_cons_zero, List.set_cons_succ]
      refine ytake_17 (v := ?vv33) (by kernel_rfl) (by kernel_rfl) (by kernel_rfl) (fun _ _ _ h => h) (Or.inl ⟨by rfl, ?hy33⟩) hS5 ?_
      case hy33 =>
       intro wX hSw
       go_simp
       try with_reducible rfl
      try simp only [Act.put, List.setIfInBounds_toArray, List.set_cons_zero, List.set_cons_succ]
      refine ytake_18 (v := ?vv34) (by kernel_rfl) (by kernel_rfl) (by kernel_rfl) (fun _ _ _ h => h) (Or.inl ⟨by rfl, ?hy34⟩) hS5 ?_
      case hy34 =>
       intro wX hSw
       go_simp
       try with_reducible rfl
      try simp only [Act.put, List.setIfInBounds_toArray, List.set_cons_zero, List.set_cons_succ]
      refine wpAnyH_done (by kernel_rfl) ?_ _
      have hb5 := hS5
      clear hS5 hS4 hS0 HTW HW4
      obtain ⟨q9, qr⟩ := HRG.out w5 hb5
      have hq5 : Below w1.heap.size w1 w5 := HQ.out.trans (hb5.mono HQ.out.size)
      have HQ5 := Lib.hid hq5
      have HHV := Lib.hid (mheavy_any x.m x.b w5 (HMS.out w5 hb5) HOK.out HFEW.out)
      have HQR := Lib.hid qr
      clear qr hb5 hq5
      go_wp2_with (refine wpList_load_mid rfl 48 _ rfl b (off + k * 26 + 6) rfl (msgC x.m x.b) _ (act_msg HQR.out) Tryz.underlying48 rfl size_mes ?_)
      refine HHV.out.mono ?_
      rintro e w6 ⟨bv, rfl, hb6, hfew⟩
      have HB6 : Hid (Below w1.heap.size w1 w6) := HQ5.out.trans (hb6.mono HQ5.out.size)
      cases bv with
      | true =>
       go_wp2_with fail
       go_ret
       exact ⟨true, rfl, by rw [HG.out]; exact HB1.out.trans (HB6.out.mono (by omega)), fun h => by cases h⟩
      | false =>
       have HFW : Hid (MsgFew 2000 x.b) := hfew rfl
       clear hfew hb6
       go_wp2_with fail
       go_roundw
       case rel =>
        refine ⟨k + 1, T + Z + x.n, by go_num, by go_num, by omega, by omega, ⟨by have := HT.out.1; omega, fun j y hj hy => ?_⟩, HB6⟩
        by_cases hjk : j = k
        ·subst hjk
         rw [HXX.out] at hy
         cases hy
         exact ⟨by rw [HXL.out]; omega, HFW.out⟩
        ·have := HT.out.2 j y (by omega) hy
         exact ⟨by omega, this.2⟩
       case measure => simp [intOf]; omega
     ·have i5 : ¬ ((T : Int) < 1048576) := by omega
      have i6 : (12000 : Int) < (T : Int) := by omega
      go_wp2_with fail
      go_ret
      exact ⟨true, rfl, by rw [HG.out]; exact HB1.out.trans (HQ.out.mono (by omega)), fun h => by cases h⟩
    ·have i4 : ¬ ((k : Int) < (nL : Int)) := by omega
     by_cases h3 : 12000 < T
     ·have i6 : (12000 : Int) < (T : Int) := by omega
      go_wp2_with fail
      go_ret
      exact ⟨true, rfl, by rw [HG.out]; exact HB1.out.trans (HQ.out.mono (by omega)), fun h => by cases h⟩
     ·have i6 : ¬ ((12000 : Int) < (T : Int)) := by omega
      by_cases h4 : 200 < nH
      ·have i7 : (200 : Int) < (nH : Int) := by omega
       go_wp2_with fail
       go_ret
       exact ⟨true, rfl, by rw [HG.out]; exact HB1.out.trans (HQ.out.mono (by omega)), fun h => by cases h⟩
      ·have i7 : ¬ ((200 : Int) < (nH : Int)) := by omega
       have HLT : Hid (LightZ s) := by
        have hST := HT.out.1
        have hXS := HE.out.1
        have hgX := txW_ge nO s.P.O
        have hgY := heldWt_ge nH s.P.H
        rw [← HXE.out] at hgX
        rw [← HYE.out] at hgY
        refine ⟨⟨by rw [HLO.out]; omega, by rw [HLW.out]; omega, by rw [HLH.out]; omega, by rw [HLR.out]; omega, fun y hy => ?_, fun y hy => ?_⟩, fun y hy => ?_⟩
        ·have := HE.out.2 (by omega) y hy
         omega
        ·have := heldWt_each s.P.H nH (by rw [← HYE.out]; omega) y hy
         rw [← HYE.out] at this
         omega
        ·obtain ⟨j, hj⟩ := List.getElem?_of_mem hy
         have := HT.out.2 j y (by have := (List.getElem?_eq_some_iff.1 hj).1; rw [HLL.out] at this; omega) hj
         exact ⟨by omega, this.2⟩
       by_cases h5 : 100 < nL
       ·have i8 : (100 : Int) < (nL : Int) := by omega
        go_wp2_with fail
        go_ret
        exact ⟨true, rfl, by rw [HG.out]; exact HB1.out.trans (HQ.out.mono (by omega)), fun h => by cases h⟩
       ·have i8 : ¬ ((100 : Int) < (nL : Int)) := by omega
        go_wp2_with fail
        go_ret
        exact ⟨false, rfl, by rw [HG.out]; exact HB1.out.trans (HQ.out.mono (by omega)), fun _ => HLT.out⟩

end Go.Proofs.YteepobghdpnabaaGreat
