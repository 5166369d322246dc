/-
  Package batch's Bytes.
-/
import Derived.Test.YtcfnomnhameleaaBNums
import Derived.Test.YtcfnomnhameleaaLists
namespace Go.Proofs.Ytcfnomnhameleaa
open Go.RowKit

theorem batTexts_none (a n : Int) (L : List TxD) : batTexts a n (L.take 0) = [batchW, numT a, numT n] := by simp [batTexts]

set_option maxRecDepth 100000 in
set_option maxHeartbeats 4000000 in
theorem bbytes_yes (a N : Int) (A : Option Addr) (c n : Nat) (L : List TxD) (w : World) (hb : batB a N L = true) (hz : L.length = n) (hr : Rd w A (txs L)) (hc : n ≤ c) :
    Calls Try.prog 67 #[.agg #[.int .i64 a, .int .i64 N, .slice A n c]] w (Made2 w.heap.size 5 w (u8s (batBytes a N L)) (.int .i64 0)) := by
  obtain ⟨⟨a0, a1⟩, ⟨n0, n1⟩, ⟨l0, l1⟩, ht⟩ := bat_all hb
  rw [hz] at l0 l1
  have HB := Lib.hid hb
  have HZ := Lib.hid hz
  have HT := Lib.hid ht
  clear hz ht
  obtain ⟨w1, hw1⟩ : ∃ w1, w1 = w.alloc (.cells #[.int .i64 a, .int .i64 N, .slice A n c] 36) := ⟨_, rfl⟩
  have hb1 : Below w.heap.size w w1 := by rw [hw1]; exact (Below.refl _ _).alloc (Nat.le_refl _) _
  have hs1 : w.heap.size < w1.heap.size := by rw [hw1]; simp
  have c0 : w1.cell? ⟨w.heap.size, 0, none⟩ = some (.int .i64 a) := by rw [hw1, World.cell?_alloc_at _ _ _ _ rfl]; rfl
  have c1 : w1.cell? ⟨w.heap.size, 1, none⟩ = some (.int .i64 N) := by rw [hw1, World.cell?_alloc_at _ _ _ _ rfl]; rfl
  have c2 : w1.cell? ⟨w.heap.size, 2, none⟩ = some (.slice A n c) := by rw [hw1, World.cell?_alloc_at _ _ _ _ rfl]; rfl
  have HP : Hid (∀ wX, Below w1.heap.size w1 wX → wX.cell? ⟨w.heap.size, 0, none⟩ = some (.int .i64 a) ∧ wX.cell? ⟨w.heap.size, 1, none⟩ = some (.int .i64 N)) := fun wX h => ⟨(h.cell (p := ⟨w.heap.size, 0, none⟩) hs1).trans c0, (h.cell (p := ⟨w.heap.size, 1, none⟩) hs1).trans c1⟩
  have HP2 : Hid (∀ wX, Below w1.heap.size w1 wX → wX.cell? ⟨w.heap.size, 2, none⟩ = some (.slice A n c)) := fun wX h => (h.cell (p := ⟨w.heap.size, 2, none⟩) hs1).trans c2
  have HW := Lib.hid hw1
  clear hw1 c0 c1 c2
  have hr1 := hr.below hb1
  go_enter Try.func67, Try.ntmps67
  go_wp2_with fail
  rw [← HW.out]
  refine (bcheck_yes a N A c n L _ HB.out HZ.out hr1).mono ?_
  rintro e w2 ⟨rfl, hb2⟩
  have c2 := HP2.out _ hb2
  have s1 : IntKind.i64.wrap (4 * (n : Int)) = ((4 * n : Nat) : Int) := by rw [IntWalk.i64_in _ (by omega)]; simp
  have s2 : IntKind.i64.wrap (3 + ((4 * n : Nat) : Int)) = ((3 + 4 * n : Nat) : Int) := by rw [IntWalk.i64_in _ (by omega)]; simp
  clear hb
  go_wp2_with (at_make; refine wpList_make_room _ rfl _ _ 93 rfl w1.heap.size 9 (.string ByteArray.empty) 16 Try.underlying93 info_str (by decide) (3 + 4 * n) rfl (by simp [go_sem]) (by omega) hb2.size ?_)
  intro v3 w3 ho3 hb3
  have hx3 : Below w1.heap.size w1 w3 := hb2.trans hb3
  obtain ⟨c0, c1⟩ := HP.out _ hx3
  clear c2 s1 s2 hb2 hb3
  go_wp2_with fail
  go_region_held3 (fun w' => w'.cell? ⟨w.heap.size, 0, none⟩ = some (.int .i64 a) ∧ w'.cell? ⟨w.heap.size, 1, none⟩ = some (.int .i64 N))
    (first | assumption | go_keep)
    (first
      | (go_at_call 90; refine (putNum_any _ _ (by omega) (by omega)).mono ?_; rintro e w5 ⟨rfl, hb5⟩; have hx5 : Below w1.heap.size w1 w5 := (by first | exact (hx4.drew.trans (hb5.mono hx4.size)) | exact (hx4.trans (hb5.mono hx4.size))); have hS5 := HP.out _ hx5; have ho5 := ownS_below (ownS_below ho3 (by first | exact hb4 | exact ((Below.refl _ _).drew).trans hb4)) (by first | exact hb5 | exact ((Below.refl _ _).drew).trans hb5))
      | (go_at_call 90; refine (putNum_any _ _ (by omega) (by omega)).mono ?_; rintro e w4 ⟨rfl, hb4⟩; have hx4 : Below w1.heap.size w1 w4 := (by first | exact hx3.trans (hb4.mono hx3.size) | exact (hx3.drew).trans (hb4.mono hx3.size)); have hS4 := HP.out _ hx4)
      | (refine step_app_far _ (by rfl) _ _ _ (by rfl) w1.heap.size 9 (.string ByteArray.empty) 16 Try.underlying93 info_str rfl (by decide) _ 0 _ (by rfl) (ho5.alloc _) (some ⟨w5.heap.size, 0, none⟩) 3 3 [.string batchW, .string (numT a), .string (numT N)] (by rfl) (by rfl) (rd_new w5 [.string batchW, .string (numT a), .string (numT N)] _) (by intro u hu; simp at hu; rcases hu with rfl | rfl | rfl <;> rfl) (by omega) (by have := hx5.size; simp; omega) ?_; intro v7 w7 ho7 hb8 hg8; have hx7 : Below w1.heap.size w1 w7 := (hx5.alloc (by have := hx5.size; omega) _).trans hb8; have hS7 := HP.out _ hx7))
  clear hS4 hS5 hS7 hb4 hb5 hb8 hx4 hx5 ho5 ho3 hx3 hg8
  have ho7' : w7.ownsRow w1.heap.size 9 1 v7 (3 + 4 * 0) (strs (batTexts a N (L.take 0))) := by rw [batTexts_none]; exact ho7
  have d7 := HP2.out _ hx7
  clear ho7
  go_wp2_with fail
  clear d7
  go_loopw [5, 31] (fun v i wz => ∃ j : Nat, i = .int .i64 j ∧ j ≤ n ∧ wz.ownsRow w1.heap.size 9 1 v (3 + 4 * j) (strs (batTexts a N (L.take j))) ∧ Below w1.heap.size w1 wz) (fun _ i _ => n - (intOf i).toNat)
  case atStart => exact ⟨0, rfl, by omega, by first | exact ho7' | exact ownS_n ho7' _, by first | exact hx7 | exact below_n hx7 _⟩
  case round =>
    obtain ⟨j, rfl, hj, ho, hbz⟩ := hrel
    have d2 := HP2.out _ hbz
    by_cases hlt : j < n
    · obtain ⟨b, off, t, rfl, hbl, hat, e0, e1, e2, e3⟩ := (hr.below (hb1.trans (hbz.mono (by omega)))).tx (i := j) (by rw [HZ.out]; exact hlt)
      obtain ⟨ts, tq, tk, tv⟩ := t
      simp only at e0 e1 e2 e3
      obtain ⟨⟨⟨g0, g1⟩, g2, g3⟩, _⟩ := HT.out _ (List.mem_of_getElem? hat)
      simp only at g0 g1 g2 g3
      have HUP := Lib.hid (texts_up (a := a) (n := N) hat)
      have i0 : (0 : Int) ≤ (j : Int) := by omega
      have i1 : (j : Int) < (n : Int) := by omega
      clear hat
      obtain ⟨wt, hwt⟩ : ∃ wt, wt = wr.alloc (.cells #[.int .i64 ts, .int .i64 tq, .string tk, .string tv] 99) := ⟨_, rfl⟩
      have hbt : Below w1.heap.size w1 wt := by rw [hwt]; exact hbz.alloc hbz.size _
      have hst : wr.heap.size < wt.heap.size := by rw [hwt]; simp
      have hot := ho.alloc (.cells #[.int .i64 ts, .int .i64 tq, .string tk, .string tv] 99)
      rw [← hwt] at hot
      have HLT := Lib.hid ho.lt
      have HPT : Hid (∀ wX, Below wt.heap.size wt wX → wX.cell? ⟨wr.heap.size, 0, none⟩ = some (.int .i64 ts) ∧ wX.cell? ⟨wr.heap.size, 1, none⟩ = some (.int .i64 tq) ∧ wX.cell? ⟨wr.heap.size, 2, none⟩ = some (.string tk) ∧ wX.cell? ⟨wr.heap.size, 3, none⟩ = some (.string tv)) := fun wX h => by
        refine ⟨(h.cell (p := ⟨wr.heap.size, 0, none⟩) hst).trans ?_, (h.cell (p := ⟨wr.heap.size, 1, none⟩) hst).trans ?_, (h.cell (p := ⟨wr.heap.size, 2, none⟩) hst).trans ?_, (h.cell (p := ⟨wr.heap.size, 3, none⟩) hst).trans ?_⟩
        all_goals
          rw [hwt, World.cell?_alloc_at _ _ _ _ rfl]
          rfl
      go_wp2_with fail
      rw [← hwt]
      obtain ⟨f0, f1, f2, f3⟩ := HPT.out _ (Below.refl _ _)
      clear hwt ho e0 e1 e2 e3 d2
      go_region_held3 (fun w' => w'.cell? ⟨wr.heap.size, 0, none⟩ = some (.int .i64 ts) ∧ w'.cell? ⟨wr.heap.size, 1, none⟩ = some (.int .i64 tq) ∧ w'.cell? ⟨wr.heap.size, 2, none⟩ = some (.string tk) ∧ w'.cell? ⟨wr.heap.size, 3, none⟩ = some (.string tv))
        (first | assumption | go_keep)
        (first
          | (go_at_call 90; refine (putNum_any _ _ (by omega) (by omega)).mono ?_; rintro e w5 ⟨rfl, hb5⟩; have hx5 : Below wt.heap.size wt w5 := (by first | exact (hx4.drew.trans (hb5.mono hx4.size)) | exact (hx4.trans (hb5.mono hx4.size))); have hS5 := HPT.out _ hx5; have ho5 := ownS_below hot hx5)
          | (go_at_call 90; refine (putNum_any _ _ (by omega) (by omega)).mono ?_; rintro e w4 ⟨rfl, hb4⟩; have hx4 : Below wt.heap.size wt w4 := (by first | exact hb4 | exact ((Below.refl _ _).drew).trans hb4); have hS4 := HPT.out _ hx4)
          | (refine step_app_far _ (by rfl) _ _ _ (by rfl) w1.heap.size 9 (.string ByteArray.empty) 16 Try.underlying93 info_str rfl (by decide) _ (3 + 4 * j) _ (by rfl) (ho5.alloc _) (some ⟨w5.heap.size, 0, none⟩) 4 4 [.string (numT ts), .string (numT tq), .string tk, .string tv] (by rfl) (by rfl) (rd_new w5 [.string (numT ts), .string (numT tq), .string tk, .string tv] _) (by intro u hu; simp at hu; rcases hu with rfl | rfl | rfl | rfl <;> rfl) (by omega) (by have := hbt.size; have := hx5.size; simp; omega) ?_; intro v7 w7 ho7 hb8 hg8; have hx7 : Below w1.heap.size w1 w7 := ((hbt.trans (hx5.mono hbt.size)).alloc (by have := hbt.size; have := hx5.size; omega) _).trans hb8; have hS7 := far4 hg8 (HPT.out _ (hx5.alloc hx5.size _)) (fun e => by have := (HLT.out _ e.symm).2; omega)))
      have ho8 := own_conv (n' := 3 + 4 * (j + 1)) (ys := strs (batTexts a N (L.take (j + 1)))) ho7 (by rw [HUP.out, strs_append]; rfl) (by omega)
      clear ho7 ho5 hot hS4 hS5 hS7 hb8 hx4 hx5 hb4 hb5 f0 f1 f2 f3
      go_wp2_with fail
      go_roundw
      case rel => exact ⟨j + 1, by go_num, by omega, ho8, hx7⟩
      case measure => simp [intOf]; omega
    · obtain rfl : j = n := by omega
      have i1 : ¬ ((j : Int) < (j : Int)) := by omega
      have hall : L.take j = L := List.take_of_length_le (by rw [HZ.out]; omega)
      rw [hall] at ho
      have hfit := bytes_fit HB.out
      obtain ⟨A3, c3, rfl, _, _, hr3, _, hl3⟩ := own_val ho
      have HL3 : Hid ((batTexts a N L).length = 3 + 4 * j) := by
        show (batTexts a N L).length = 3 + 4 * j
        rw [batTexts_length, HZ.out]
      have HF := Lib.hid hfit
      clear hl3 ho hall hfit
      go_wp2_with fail
      refine (put_yes A3 c3 (3 + 4 * j) (batTexts a N L) _ HL3.out hr3 (by omega) HF.out).mono ?_
      rintro e w5 ⟨v5, rfl, ho5, hb5⟩
      go_wp2_with fail
      go_ret2
      exact ⟨v5, rfl, ownS_more ho5 (by have := hbz.size; omega), hb1.trans ((hbz.trans (hb5.mono hbz.size)).mono (by omega))⟩

theorem bbytes_no (a N : Int) (A : Option Addr) (c n : Nat) (L : List TxD) (w : World) (hb : batB a N L = false) (hz : L.length = n) (hr : Rd w A (txs L)) :
    Calls Try.prog 67 #[.agg #[.int .i64 a, .int .i64 N, .slice A n c]] w (Tells w.heap.size w (.tuple #[.slice none 0 0, .int .i64 1])) := by
  have HB := Lib.hid hb
  have HZ := Lib.hid hz
  have hr1 := hr.alloc (.cells #[.int .i64 a, .int .i64 N, .slice A n c] 36)
  have hbel := (Below.refl w.heap.size w).alloc (Nat.le_refl _) (.cells #[.int .i64 a, .int .i64 N, .slice A n c] 36)
  clear hb hz
  go_enter Try.func67, Try.ntmps67
  go_wp2_with fail
  refine (bcheck_no a N A c n L _ HB.out HZ.out hr1).mono ?_
  rintro e w2 ⟨rfl, hb2⟩
  go_wp2_with fail
  go_ret2
  exact ⟨rfl, hbel.trans (hb2.mono hbel.size)⟩

end Go.Proofs.Ytcfnomnhameleaa
