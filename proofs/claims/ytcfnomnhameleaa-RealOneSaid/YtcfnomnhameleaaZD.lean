/-
  The page's own walks on batches: numbers as texts and back; copies and comparisons of batches.
-/
import Derived.Test.YtcfnomnhameleaaValid
import Derived.Test.YtcfnomnhameleaaZB
import Derived.Test.YtcfnomnhameleaaZA
import Derived.Test.YtcfnomnhameleaaEqs
import Derived.Deep.DeepCutAuto
import Derived.Deep.CutRange
import Derived.Deep.RegionLaw
namespace Go.Proofs.Ytcfnomnhameleaa
open Go.RowKit

theorem bcell {W w1 : World} (hb : Below W.heap.size W w1) : (∀ b o, b < W.heap.size → w1.cell? ⟨b, o, none⟩ = W.cell? ⟨b, o, none⟩) ∧ (∀ b o, b < W.heap.size → w1.frozen? ⟨b, o, none⟩ = W.frozen? ⟨b, o, none⟩) :=
  ⟨fun b o h => hb.cell (p := ⟨b, o, none⟩) h, fun b o h => hb.frozen (p := ⟨b, o, none⟩) h⟩

set_option maxHeartbeats 1000000 in
theorem copyBatch_any (a N : Int) (A : Option Addr) (c n : Nat) (L : List TxD) (w : World) (hz : L.length = n) (hr : Rd w A (txs L)) (hc : n ≤ c) (hn : n ≤ 1073741824) :
    Calls Try.prog 35 #[.agg #[.int .i64 a, .int .i64 N, .slice A n c]] w fun e w' => ∃ A' c', e = .returned (.agg #[.int .i64 a, .int .i64 N, .slice A' n c']) ∧ w'.ownsRow w.heap.size 99 4 (.slice A' n c') n (txs L) ∧ Below w.heap.size w w' := by
  have HZ := Lib.hid hz
  clear hz
  go_enter Try.func35, Try.ntmps35
  go_wp2_with fail
  refine (copyTxs_any A c n L _ HZ.out (((hr.alloc _).alloc _).alloc _) hc hn).mono ?_
  rintro e w1 ⟨v, rfl, ho, hb⟩
  obtain ⟨A', c', rfl, _, _, _, _, _⟩ := ownS_slice ho
  obtain ⟨hcc, hff⟩ := bcell hb
  have hz : w.heap.size + 1 + 1 < w1.heap.size := by have := hb.size; simp at this; omega
  have hb3 : Below w.heap.size w w1 := ((((Below.refl _ _).alloc (Nat.le_refl _) _).alloc (by simp) _).alloc (by simp; omega) _).trans (hb.mono (by simp; omega))
  go_wp2_with fail
  refine bodyPost_ret (v := .agg #[.int .i64 a, .int .i64 N, .slice A' n c']) (by simp [results, Try.results35, go_sem, hcc]) rfl ⟨A', c', rfl, ?_, ?_⟩
  · exact ownS_more (ownsRow_setCell_below (ownsRow_setCell_below (ownsRow_setCell_below (ownsRow_setCell_below ho (by simp) _) (by simp) _) (by simp) _) (by simp) _) (by simp; omega)
  · exact (((hb3.setCell (by simp; omega) _).setCell (by simp) _).setCell (by simp) _).setCell (by simp) _

/-- are two batches the same? -/
def eqBat (a N : Int) (L : List TxD) (a' N' : Int) (M : List TxD) : Bool := decide (a = a' ∧ N = N' ∧ L = M)

set_option maxHeartbeats 1000000 in
theorem eqBatch_any (a N a' N' : Int) (A A' : Option Addr) (c c' n n' : Nat) (L M : List TxD) (w : World) (hz : L.length = n) (hz' : M.length = n') (hr : Rd w A (txs L)) (hr' : Rd w A' (txs M)) (hn : n ≤ 1073741824) (hn' : n' ≤ 1073741824) :
    Calls Try.prog 48 #[.agg #[.int .i64 a, .int .i64 N, .slice A n c], .agg #[.int .i64 a', .int .i64 N', .slice A' n' c']] w (Tells w.heap.size w (.bool (eqBat a N L a' N' M))) := by
  have HZ := Lib.hid hz
  have HZ' := Lib.hid hz'
  clear hz hz'
  have hb3 : Below w.heap.size w ((w.alloc (.cells #[.int .i64 a, .int .i64 N, .slice A n c] 36)).alloc (.cells #[.int .i64 a', .int .i64 N', .slice A' n' c'] 36)) := ((Below.refl _ _).alloc (Nat.le_refl _) _).alloc (by simp) _
  by_cases h1 : a = a'
  · subst h1
    by_cases h2 : N = N'
    · subst h2
      have HE : Hid (eqBat a N L a N M = decide (L = M)) := by show eqBat a N L a N M = decide (L = M); simp [eqBat]
      go_enter Try.func48, Try.ntmps48
      go_wp2_with fail
      refine (eqTxs_any A A' c c' n n' L M _ HZ.out HZ'.out ((hr.alloc _).alloc _) ((hr'.alloc _).alloc _) hn hn').mono ?_
      rintro e w1 ⟨rfl, d, rfl⟩
      go_wp2_with fail
      go_ret
      exact ⟨ret_bool (by rw [HE.out]), below_n hb3 d⟩
    · have HE : Hid (eqBat a N L a N' M = false) := by show eqBat a N L a N' M = false; simp [eqBat, h2]
      have j1 : (N == N') = false := by simp [h2]
      clear h2
      go_enter Try.func48, Try.ntmps48
      go_wp2_with fail
      go_ret
      exact ⟨ret_bool (by rw [HE.out]), hb3⟩
  · have HE : Hid (eqBat a N L a' N' M = false) := by show eqBat a N L a' N' M = false; simp [eqBat, h1]
    have j1 : (a == a') = false := by simp [h1]
    clear h1
    go_enter Try.func48, Try.ntmps48
    go_wp2_with fail
    go_ret
    exact ⟨ret_bool (by rw [HE.out]), hb3⟩

end Go.Proofs.Ytcfnomnhameleaa
/-
  The page's bytes of a batch.
-/
namespace Go.Proofs.Ytcfnomnhameleaa
open Go.RowKit

theorem far4 {w w' : World} {row : Option Nat} {b : Nat} {v0 v1 v2 v3 : Value} (hg : w.grownBy w' row) (h : w.cell? ⟨b, 0, none⟩ = some v0 ∧ w.cell? ⟨b, 1, none⟩ = some v1 ∧ w.cell? ⟨b, 2, none⟩ = some v2 ∧ w.cell? ⟨b, 3, none⟩ = some v3) (hne : some b ≠ row) :
    w'.cell? ⟨b, 0, none⟩ = some v0 ∧ w'.cell? ⟨b, 1, none⟩ = some v1 ∧ w'.cell? ⟨b, 2, none⟩ = some v2 ∧ w'.cell? ⟨b, 3, none⟩ = some v3 :=
  ⟨hg.cell h.1 hne, hg.cell h.2.1 hne, hg.cell h.2.2.1 hne, hg.cell h.2.2.2 hne⟩
theorem strs_map (l : List ByteArray) : strs l = l.map Value.string := rfl
theorem texts_up {a n : Int} {L : List TxD} {j : Nat} {t : TxD} (h : L[j]? = some t) : batTexts a n (L.take (j + 1)) = batTexts a n (L.take j) ++ t.texts := by
  rw [batTexts, batTexts, take_next h, List.flatMap_append, List.append_assoc]
  simp

theorem vputs_len (L : List ByteArray) (h : ∀ s ∈ L, s.size ≤ 40) : (vputs (L.map byt)).length ≤ 49 * L.length := by
  induction L with
  | nil => simp [vputs]
  | cons s L ih =>
    have h0 := h s (by simp)
    have h1 := vnum_len_le s.size (by omega)
    have h2 := ih fun x hx => h x (by simp [hx])
    simp only [vputs, List.map_cons, List.flatMap_cons, List.length_append, List.length_cons, byt_length] at h2 ⊢
    omega
theorem texts_small {a n : Int} {L : List TxD} (h : batB a n L = true) : ∀ s ∈ batTexts a n L, s.size ≤ 40 := by
  obtain ⟨⟨a0, a1⟩, ⟨n0, n1⟩, _, ht⟩ := bat_all h
  have hn : ∀ m : Int, 0 ≤ m → m < 9223372036854775808 → (numT m).size ≤ 40 := fun m h0 h1 => by
    rw [numT_size]
    have := vnum_len_le m.toNat (by omega)
    omega
  intro s hs
  rw [batTexts] at hs
  rcases List.mem_append.1 hs with h' | h'
  · simp only [List.mem_cons, List.not_mem_nil, or_false] at h'
    rcases h' with rfl | rfl | rfl
    · decide
    · exact hn _ a0 a1
    · exact hn _ n0 n1
  · obtain ⟨t', hm, hx⟩ := List.mem_flatMap.1 h'
    obtain ⟨⟨⟨s0, s1⟩, q0, q1⟩, k1, v1⟩ := ht t' hm
    simp only [TxD.texts, List.mem_cons, List.not_mem_nil, or_false] at hx
    rcases hx with rfl | rfl | rfl | rfl
    · exact hn _ s0 s1
    · exact hn _ q0 q1
    · omega
    · omega
theorem bytes_small {a n : Int} {L : List TxD} (h : batB a n L = true) : (batBytes a n L).length ≤ 2000 := by
  obtain ⟨_, _, ⟨_, l1⟩, _⟩ := bat_all h
  have h1 := vputs_len (batTexts a n L) (texts_small h)
  have h2 := batTexts_length a n L
  have h3 := vnum_len_le (batTexts a n L).length (by omega)
  rw [batBytes, putPuts_byt, List.length_append]
  omega
theorem bytes_fit {a n : Int} {L : List TxD} (h : batB a n L = true) : (putPuts ((batTexts a n L).map byt)).length ≤ 1048576 := by
  have := bytes_small h
  rw [batBytes] at this
  omega

set_option maxRecDepth 100000 in
set_option maxHeartbeats 4000000 in
theorem rbytes_any (a N : Int) (A : Option Addr) (c n : Nat) (L : List TxD) (w : World) (hb : batB a N L = true) (hz : L.length = n) (hr : Rd w A (txs L)) (hc : n ≤ c) :
    Calls Try.prog 39 #[.agg #[.int .i64 a, .int .i64 N, .slice A n c]] w (Made w.heap.size 5 w (u8s (batBytes a N L))) := by
  obtain ⟨⟨a0, a1⟩, ⟨n0, n1⟩, ⟨l0, l1⟩, ht⟩ := bat_all hb
  rw [hz] at l0 l1
  have HZ := Lib.hid hz
  have HT := Lib.hid ht
  clear hz ht
  obtain ⟨w1, hw1⟩ : ∃ w1, w1 = w.alloc (.cells #[.int .i64 a, .int .i64 N, .slice A n c] 36) := ⟨_, rfl⟩
  have hb1 : Below w.heap.size w w1 := by rw [hw1]; exact (Below.refl _ _).alloc (Nat.le_refl _) _
  have hs1 : w.heap.size < w1.heap.size := by rw [hw1]; simp
  have c0 : w1.cell? ⟨w.heap.size, 0, none⟩ = some (.int .i64 a) := by rw [hw1, World.cell?_alloc_at _ _ _ _ rfl]; rfl
  have c1 : w1.cell? ⟨w.heap.size, 1, none⟩ = some (.int .i64 N) := by rw [hw1, World.cell?_alloc_at _ _ _ _ rfl]; rfl
  have c2 : w1.cell? ⟨w.heap.size, 2, none⟩ = some (.slice A n c) := by rw [hw1, World.cell?_alloc_at _ _ _ _ rfl]; rfl
  have HP : Hid (∀ wX, Below w1.heap.size w1 wX → wX.cell? ⟨w.heap.size, 0, none⟩ = some (.int .i64 a) ∧ wX.cell? ⟨w.heap.size, 1, none⟩ = some (.int .i64 N)) := fun wX h => ⟨(h.cell (p := ⟨w.heap.size, 0, none⟩) hs1).trans c0, (h.cell (p := ⟨w.heap.size, 1, none⟩) hs1).trans c1⟩
  have HP2 : Hid (∀ wX, Below w1.heap.size w1 wX → wX.cell? ⟨w.heap.size, 2, none⟩ = some (.slice A n c)) := fun wX h => (h.cell (p := ⟨w.heap.size, 2, none⟩) hs1).trans c2
  have HW := Lib.hid hw1
  clear hw1 c2
  go_enter Try.func39, Try.ntmps39
  go_wp2_with fail
  rw [← HW.out]
  go_region_held3 (fun w' => w'.cell? ⟨w.heap.size, 0, none⟩ = some (.int .i64 a) ∧ w'.cell? ⟨w.heap.size, 1, none⟩ = some (.int .i64 N))
    (first | assumption | go_keep)
    (first
      | (go_at_call 59; refine (rnumT_any _ _ (by omega) (by omega)).mono ?_; rintro e w3 ⟨rfl, hb3⟩; have hx3 : Below w1.heap.size w1 w3 := (by first | exact (hx2.drew.trans (hb3.mono hx2.size)) | exact (hx2.trans (hb3.mono hx2.size))); have hS3 := HP.out _ hx3)
      | (go_at_call 59; refine (rnumT_any _ _ (by omega) (by omega)).mono ?_; rintro e w2 ⟨rfl, hb2⟩; have hx2 : Below w1.heap.size w1 w2 := (by first | exact hb2 | exact ((Below.refl _ _).drew).trans hb2); have hS2 := HP.out _ hx2))
  have hx3' := hx3
  clear hS2 hS3 hb3 hb2 hx2 c0 c1
  go_wp2_with fail
  go_loopw [3, 4] (fun v i wz => ∃ j : Nat, i = .int .i64 j ∧ j ≤ n ∧ wz.ownsRow w1.heap.size 9 1 v (3 + 4 * j) (strs (batTexts a N (L.take j))) ∧ Below w1.heap.size w1 wz) (fun _ i _ => n - (intOf i).toNat)
  case atStart =>
    have ho := ownS_new w3 w1.heap.size 9 1 3 [.string batchW, .string (numT a), .string (numT N)] rfl (by simp [maxLen]) hx3.size
    exact ⟨0, rfl, by omega, by first | exact ho | exact ho.drew | exact ho.drew.drew | exact ownS_n ho _, by first | exact hx3.alloc hx3.size _ | exact (hx3.alloc hx3.size _).drew | exact (hx3.alloc hx3.size _).drew.drew | exact below_n (hx3.alloc hx3.size _) _⟩
  case round =>
    obtain ⟨j, rfl, hj, ho, hbz⟩ := hrel
    have d2 := HP2.out _ hbz
    by_cases hlt : j < n
    · obtain ⟨b, off, t, rfl, hbl, hat, e0, e1, e2, e3⟩ := (hr.below (hb1.trans (hbz.mono (by omega)))).tx (i := j) (by rw [HZ.out]; exact hlt)
      obtain ⟨ts, tq, tk, tv⟩ := t
      simp only at e0 e1 e2 e3
      obtain ⟨⟨⟨g0, g1⟩, g2, g3⟩, _⟩ := HT.out _ (List.mem_of_getElem? hat)
      simp only at g0 g1 g2 g3
      have HUP := Lib.hid (texts_up (a := a) (n := N) hat)
      have i0 : (0 : Int) ≤ (j : Int) := by omega
      have i1 : (j : Int) < (n : Int) := by omega
      clear hat
      obtain ⟨wt, hwt⟩ : ∃ wt, wt = wr.alloc (.cells #[.int .i64 ts, .int .i64 tq, .string tk, .string tv] 99) := ⟨_, rfl⟩
      have hbt : Below w1.heap.size w1 wt := by rw [hwt]; exact hbz.alloc hbz.size _
      have hst : wr.heap.size < wt.heap.size := by rw [hwt]; simp
      have hot := ho.alloc (.cells #[.int .i64 ts, .int .i64 tq, .string tk, .string tv] 99)
      rw [← hwt] at hot
      have HLT := Lib.hid ho.lt
      have HPT : Hid (∀ wX, Below wt.heap.size wt wX → wX.cell? ⟨wr.heap.size, 0, none⟩ = some (.int .i64 ts) ∧ wX.cell? ⟨wr.heap.size, 1, none⟩ = some (.int .i64 tq) ∧ wX.cell? ⟨wr.heap.size, 2, none⟩ = some (.string tk) ∧ wX.cell? ⟨wr.heap.size, 3, none⟩ = some (.string tv)) := fun wX h => by
        refine ⟨(h.cell (p := ⟨wr.heap.size, 0, none⟩) hst).trans ?_, (h.cell (p := ⟨wr.heap.size, 1, none⟩) hst).trans ?_, (h.cell (p := ⟨wr.heap.size, 2, none⟩) hst).trans ?_, (h.cell (p := ⟨wr.heap.size, 3, none⟩) hst).trans ?_⟩
        all_goals
          rw [hwt, World.cell?_alloc_at _ _ _ _ rfl]
          rfl
      go_wp2_with fail
      rw [← hwt]
      obtain ⟨f0, f1, f2, f3⟩ := HPT.out _ (Below.refl _ _)
      clear hwt ho e0 e1 e2 e3 d2
      go_region_held3 (fun w' => w'.cell? ⟨wr.heap.size, 0, none⟩ = some (.int .i64 ts) ∧ w'.cell? ⟨wr.heap.size, 1, none⟩ = some (.int .i64 tq) ∧ w'.cell? ⟨wr.heap.size, 2, none⟩ = some (.string tk) ∧ w'.cell? ⟨wr.heap.size, 3, none⟩ = some (.string tv))
        (first | assumption | go_keep)
        (first
          | (go_at_call 59; refine (rnumT_any _ _ (by omega) (by omega)).mono ?_; rintro e w5 ⟨rfl, hb5⟩; have hx5 : Below wt.heap.size wt w5 := (by first | exact (hx4.drew.trans (hb5.mono hx4.size)) | exact (hx4.trans (hb5.mono hx4.size))); have hS5 := HPT.out _ hx5; have ho5 := ownS_below hot hx5)
          | (go_at_call 59; refine (rnumT_any _ _ (by omega) (by omega)).mono ?_; rintro e w4 ⟨rfl, hb4⟩; have hx4 : Below wt.heap.size wt w4 := (by first | exact hb4 | exact ((Below.refl _ _).drew).trans hb4); have hS4 := HPT.out _ hx4)
          | (refine step_app_far _ (by rfl) _ _ _ (by rfl) w1.heap.size 9 (.string ByteArray.empty) 16 Try.underlying93 info_str rfl (by decide) _ (3 + 4 * j) _ (by rfl) (ho5.alloc _) (some ⟨w5.heap.size, 0, none⟩) 4 4 [.string (numT ts), .string (numT tq), .string tk, .string tv] (by rfl) (by rfl) (rd_new w5 [.string (numT ts), .string (numT tq), .string tk, .string tv] _) (by intro u hu; simp at hu; rcases hu with rfl | rfl | rfl | rfl <;> rfl) (by omega) (by have := hbt.size; have := hx5.size; simp; omega) ?_; intro v7 w7 ho7 hb8 hg8; have hx7 : Below w1.heap.size w1 w7 := ((hbt.trans (hx5.mono hbt.size)).alloc (by have := hbt.size; have := hx5.size; omega) _).trans hb8; have hS7 := far4 hg8 (HPT.out _ (hx5.alloc hx5.size _)) (fun e => by have := (HLT.out _ e.symm).2; omega)))
      have ho8 := own_conv (n' := 3 + 4 * (j + 1)) (ys := strs (batTexts a N (L.take (j + 1)))) ho7 (by rw [HUP.out, strs_append]; rfl) (by omega)
      clear ho7 ho5 hot hS4 hS5 hS7 hb8 hx4 hx5 hb4 hb5 f0 f1 f2 f3
      go_wp2_with fail
      go_roundw
      case rel => exact ⟨j + 1, by go_num, by omega, ho8, hx7⟩
      case measure => simp [intOf]; omega
    · obtain rfl : j = n := by omega
      have i1 : ¬ ((j : Int) < (j : Int)) := by omega
      have hall : L.take j = L := List.take_of_length_le (by rw [HZ.out]; omega)
      rw [hall] at ho
      have hfit := bytes_fit hb
      obtain ⟨A3, c3, rfl, _, _, hr3, _, hl3⟩ := own_val ho
      have HL3 : Hid ((batTexts a N L).length = 3 + 4 * j) := by
        show (batTexts a N L).length = 3 + 4 * j
        rw [batTexts_length, HZ.out]
      have HF := Lib.hid hfit
      clear hl3 ho hall hfit
      go_wp2_with fail
      refine (rput_yes A3 c3 (3 + 4 * j) (batTexts a N L) _ HL3.out hr3 (by omega) HF.out).mono ?_
      rintro e w5 ⟨v5, rfl, ho5, hb5⟩
      go_wp2_with fail
      go_ret
      exact ⟨v5, rfl, ownS_more ho5 (by have := hbz.size; omega), hb1.trans ((hbz.trans (hb5.mono hbz.size)).mono (by omega))⟩

end Go.Proofs.Ytcfnomnhameleaa
/-
  A slice of what is asked (a batch, bytes) that came in: its cells at each index, and the lists that they show. And what of it is let go.
-/
namespace Go.Proofs.Ytcfnomnhameleaa
open Go.RowKit Go.ChangeShapes Go.WideShapes Go.Deep

theorem list_of {α : Type} {Q : Nat → α → Prop} : ∀ {n : Nat}, (∀ i, i < n → ∃ a, Q i a) → ∃ L : List α, L.length = n ∧ ∀ i a, L[i]? = some a → Q i a
  | 0, _ => ⟨[], rfl, fun i a h => by simp at h⟩
  | n + 1, h => by
    obtain ⟨L, hl, hL⟩ := list_of (n := n) fun i hi => h i (by omega)
    obtain ⟨a, ha⟩ := h n (by omega)
    refine ⟨L ++ [a], by simp [hl], fun i b hb => ?_⟩
    rcases Nat.lt_or_ge i L.length with h' | h'
    · rw [List.getElem?_append_left h'] at hb; exact hL i b hb
    · rw [List.getElem?_append_right h'] at hb
      have hi : i - L.length = 0 := by
        rcases Nat.eq_zero_or_pos (i - L.length) with h0 | h0
        · exact h0
        · rw [List.getElem?_eq_none (by simp; omega)] at hb; cases hb
      rw [hi] at hb
      simp only [List.getElem?_cons_zero, Option.some.injEq] at hb
      subst hb
      obtain rfl : i = n := by omega
      exact ha
theorem cells_tx : Try.prog.cellsOf 99 = 4 := by kernel_rfl
theorem cells_txs : Try.prog.cellsOf 34 = 1 := by kernel_rfl
theorem cells_batch : Try.prog.cellsOf 36 = 3 := by kernel_rfl
theorem txs_get {L : List TxD} {i : Nat} {v : Value} (h : (txs L)[i]? = some v) : ∃ t, L[i / 4]? = some t ∧ t.cells[i % 4]? = some v := by
  have hl : i < (txs L).length := by
    rcases Nat.lt_or_ge i (txs L).length with h' | h'
    · exact h'
    · rw [List.getElem?_eq_none h'] at h; cases h
  rw [txs_length] at hl
  obtain ⟨t, ht⟩ := txD_at (L := L) (i := i / 4) (by omega)
  refine ⟨t, ht, ?_⟩
  obtain ⟨h0, h1, h2, h3⟩ := txs_at ht
  rcases (show i % 4 = 0 ∨ i % 4 = 1 ∨ i % 4 = 2 ∨ i % 4 = 3 by omega) with e | e | e | e
  · rw [show i = i / 4 * 4 by omega, h0, Option.some.injEq] at h
    rw [e, ← h]; rfl
  · rw [show i = i / 4 * 4 + 1 by omega, h1, Option.some.injEq] at h
    rw [e, ← h]; rfl
  · rw [show i = i / 4 * 4 + 2 by omega, h2, Option.some.injEq] at h
    rw [e, ← h]; rfl
  · rw [show i = i / 4 * 4 + 3 by omega, h3, Option.some.injEq] at h
    rw [e, ← h]; rfl

/-- a transaction whose numbers fit, and whose texts are within reach -/
def TxOk (t : TxD) : Prop := (-9223372036854775808 ≤ t.s ∧ t.s ≤ 9223372036854775807) ∧ (-9223372036854775808 ≤ t.q ∧ t.q ≤ 9223372036854775807) ∧ t.k.size ≤ 140737488351232 ∧ t.v.size ≤ 140737488351232

set_option maxRecDepth 100000 in
set_option maxHeartbeats 800000 in
theorem open_txs {H : Type} {enc : TypeId × Value → H} {w : World} {base : Nat} {spare : Nat → Bool} {held : Bool} {fuel : Nat} {v : Value} {x : DataW H × List MemPlace}
    (h : DataW.trod enc Try.prog w base spare held fuel 34 [v] = some x) (hw : ∀ n ∈ x.1.weights Try.prog 34, n ≤ reachBytes) :
    ∃ (A : Option Addr) (c : Nat) (L : List TxD), v = .slice A L.length c ∧ L.length ≤ c ∧ c ≤ maxLen ∧ Rd w A (txs L) ∧ ∀ t ∈ L, TxOk t := by
  rcases open_slice Try.underlying34 h with ⟨h0, _⟩ | ⟨ad, len, cap, m, n, D, Pl, h0, _, hl, hm, hmm, hz, hi⟩
  · simp only [List.cons.injEq, and_true] at h0
    subst h0
    exact ⟨none, 0, [], rfl, by simp, by simp [maxLen], Rd.nil _ _, fun t ht => by simp at ht⟩
  · simp only [List.cons.injEq, and_true] at h0
    subst h0
    have each : ∀ i, i < len → ∃ t : TxD, TxOk t ∧ ∀ j u, t.cells[j]? = some u → w.cell? (ad.add (i * 4 + j)) = some u := by
      intro i hil
      have him : i < m := by rw [hmm]; split <;> omega
      obtain ⟨cs, hc, ht⟩ := hi i him
      rw [cells_tx] at hc
      obtain ⟨_, hcl, hat⟩ := World.cells?_some hc
      obtain ⟨ys, n', _, hag, hlen, hyl, hf⟩ := DataW.trod_struct Try.underlying99 ht
      match cs, hcl with
      | [c0, c1, c2, c3], _ =>
        match ys, hyl with
        | [y0, y1, y2, y3], _ =>
          have f0 := hf 0 _ rfl
          have f1 := hf 1 _ rfl
          have f2 := hf 2 _ rfl
          have f3 := hf 3 _ rfl
          simp [cells_int, cells_str] at f0 f1 f2 f3
          obtain ⟨r, e0, _, wr⟩ := DataW.trod_int Try.underlying3 f0
          obtain ⟨s, e1, _, ws⟩ := DataW.trod_int Try.underlying3 f1
          obtain ⟨k, e2, g2, _⟩ := DataW.trod_string Try.underlying9 f2
          obtain ⟨q, e3, g3, _⟩ := DataW.trod_string Try.underlying9 f3
          have hD : D i = .agg [y0.1, y1.1, y2.1, y3.1] := by
            have := congrArg Prod.fst hag
            simpa using this
          have hwi : ∀ n ∈ (D i).weights Try.prog 99, n ≤ reachBytes := fun n hn => hw n (by
            rw [hz]
            exact weights_slice Try.underlying34 (List.mem_map.2 ⟨i, List.mem_range.2 hil, rfl⟩) hn)
          have hk : k.data.toList.length ≤ reachBytes := hwi _ (by
            rw [hD, DataW.weights, Try.underlying99]
            refine DataW.weights_mem_each (j := 2) (t := 9) (d := y2.1) rfl rfl _ ?_
            rw [g2]; simp [DataW.weights])
          have hq : q.data.toList.length ≤ reachBytes := hwi _ (by
            rw [hD, DataW.weights, Try.underlying99]
            refine DataW.weights_mem_each (j := 3) (t := 9) (d := y3.1) rfl rfl _ ?_
            rw [g3]; simp [DataW.weights])
          simp at e0 e1 e2 e3
          subst e0 e1 e2 e3
          refine ⟨⟨r, s, k, q⟩, ⟨wf_i64 wr, wf_i64 ws, hk, hq⟩, fun j u hu => ?_⟩
          rw [← add_add, hat j (by
            rcases Nat.lt_or_ge j 4 with h' | h'
            · exact h'
            · rw [List.getElem?_eq_none (by simp [TxD.cells]; omega)] at hu; cases hu)]
          exact hu
    obtain ⟨L, hL, hLe⟩ := list_of each
    refine ⟨some ad, cap, L, by rw [hL], by omega, hm, rd_of fun i u hu => ?_, fun t ht => ?_⟩
    · obtain ⟨t, h1, h2⟩ := txs_get hu
      have := (hLe _ _ h1).2 _ _ h2
      rwa [show i / 4 * 4 + i % 4 = i by omega] at this
    · obtain ⟨i, hi'⟩ := List.getElem?_of_mem ht
      exact (hLe _ _ hi').1

/-- what is asked at one index: a batch, bytes -/
structure BAsked where
  a : Int
  N : Int
  AT : Option Addr
  cT : Nat
  L : List TxD
  AX : Option Addr
  cX : Nat
  X : List Int

structure BAskOk (w : World) (q : BAsked) : Prop where
  wa : -9223372036854775808 ≤ q.a ∧ q.a ≤ 9223372036854775807
  wN : -9223372036854775808 ≤ q.N ∧ q.N ≤ 9223372036854775807
  hT : q.L.length ≤ q.cT
  mT : q.cT ≤ maxLen
  rT : Rd w q.AT (txs q.L)
  sT : ∀ t ∈ q.L, TxOk t
  hX : q.X.length ≤ q.cX
  mX : q.cX ≤ maxLen
  rX : Rd w q.AX (u8s q.X)
  sX : Byts q.X

def BAskAt (w : World) (a : Option Addr) (i : Nat) : Prop :=
  ∃ (b off : Nat) (q : BAsked), a = some ⟨b, off, none⟩ ∧ b < w.heap.size ∧ BAskOk w q ∧
    w.cell? ⟨b, off + i * 4, none⟩ = some (.int .i64 q.a) ∧ w.cell? ⟨b, off + i * 4 + 1, none⟩ = some (.int .i64 q.N) ∧
    w.cell? ⟨b, off + i * 4 + 2, none⟩ = some (.slice q.AT q.L.length q.cT) ∧ w.cell? ⟨b, off + i * 4 + 3, none⟩ = some (.slice q.AX q.X.length q.cX)

def BAsks (w : World) (a : Option Addr) (len cap : Nat) : Prop := len ≤ cap ∧ cap ≤ maxLen ∧ ∀ i, i < len → BAskAt w a i

theorem BAskOk.below {w w' : World} {q : BAsked} (h : BAskOk w q) (hb : Below w.heap.size w w') : BAskOk w' q :=
  ⟨h.wa, h.wN, h.hT, h.mT, h.rT.below hb, h.sT, h.hX, h.mX, h.rX.below hb, h.sX⟩
/-- the cells of what is asked, in every later world -/
theorem BAskAt.all {w : World} {a : Option Addr} {i : Nat} (h : BAskAt w a i) : ∃ (b off : Nat) (q : BAsked) (nT nX : Nat), a = some ⟨b, off, none⟩ ∧ q.L.length = nT ∧ q.X.length = nX ∧ ∀ wX, Below w.heap.size w wX → BAskOk wX q ∧
    wX.cell? ⟨b, off + i * 4, none⟩ = some (.int .i64 q.a) ∧ wX.cell? ⟨b, off + i * 4 + 1, none⟩ = some (.int .i64 q.N) ∧
    wX.cell? ⟨b, off + i * 4 + 2, none⟩ = some (.slice q.AT nT q.cT) ∧ wX.cell? ⟨b, off + i * 4 + 3, none⟩ = some (.slice q.AX nX q.cX) := by
  obtain ⟨b, off, q, rfl, hlt, ok, c0, c1, c2, c3⟩ := h
  exact ⟨b, off, q, _, _, rfl, rfl, rfl, fun wX hb => ⟨ok.below hb, (hb.cell (p := ⟨b, _, none⟩) hlt).trans c0, (hb.cell (p := ⟨b, _, none⟩) hlt).trans c1, (hb.cell (p := ⟨b, _, none⟩) hlt).trans c2, (hb.cell (p := ⟨b, _, none⟩) hlt).trans c3⟩⟩

/-- whether it is let go; if not it weighs little -/
def BHeavy (n nX : Nat) (L : List TxD) (w : World) (en : Ending) (w' : World) : Prop := ∃ b : Bool, en = .returned (.bool b) ∧ Below w.heap.size w w' ∧ (b = false → n + totX L n ≤ 5000 ∧ nX ≤ 5000)

end Go.Proofs.Ytcfnomnhameleaa
/-
  What the statements ask of package batch, call by call. And what they share.
-/
namespace Go.Proofs.Ytcfnomnhameleaa
open Go.RowKit

theorem eqBatch_same (a N : Int) (A A' : Option Addr) (c c' n : Nat) (L : List TxD) (w : World) (hz : L.length = n) (hr : Rd w A (txs L)) (hr' : Rd w A' (txs L)) (hn : n ≤ 1073741824) :
    Calls Try.prog 48 #[.agg #[.int .i64 a, .int .i64 N, .slice A n c], .agg #[.int .i64 a, .int .i64 N, .slice A' n c']] w (Tells w.heap.size w (.bool true)) := by
  have h := eqBatch_any a N a N A A' c c' n n L L w hz hz hr hr' hn hn
  have e : eqBat a N L a N L = true := by simp [eqBat]
  rwa [e] at h
theorem eqBatch_is (b : Bool) (a N a' N' : Int) (A A' : Option Addr) (c c' n n' : Nat) (L M : List TxD) (w : World) (hb : eqBat a N L a' N' M = b) (hz : L.length = n) (hz' : M.length = n') (hr : Rd w A (txs L)) (hr' : Rd w A' (txs M)) (hn : n ≤ 1073741824) (hn' : n' ≤ 1073741824) :
    Calls Try.prog 48 #[.agg #[.int .i64 a, .int .i64 N, .slice A n c], .agg #[.int .i64 a', .int .i64 N', .slice A' n' c']] w (Tells w.heap.size w (.bool b)) :=
  hb ▸ eqBatch_any a N a' N' A A' c c' n n' L M w hz hz' hr hr' hn hn'

/-- the cells of a new block of three, in every later world -/
theorem box_three {wr w1 : World} {x y z : Value} {T : TypeId} (h : w1 = wr.alloc (.cells #[x, y, z] T)) : ∀ wX, Below w1.heap.size w1 wX →
    wX.cell? ⟨wr.heap.size, 0, none⟩ = some x ∧ wX.cell? ⟨wr.heap.size, 1, none⟩ = some y ∧ wX.cell? ⟨wr.heap.size, 2, none⟩ = some z := by
  subst h
  intro wX hb
  have hs : wr.heap.size < (wr.alloc (.cells #[x, y, z] T)).heap.size := by simp
  refine ⟨(hb.cell (p := ⟨wr.heap.size, 0, none⟩) hs).trans ?_, (hb.cell (p := ⟨wr.heap.size, 1, none⟩) hs).trans ?_, (hb.cell (p := ⟨wr.heap.size, 2, none⟩) hs).trans ?_⟩
  all_goals
    rw [World.cell?_alloc_at _ _ _ _ rfl]
    rfl
theorem Below.up {B : Nat} {w w1 wX : World} (h : Below B w w1) (hB : B ≤ w1.heap.size) (hX : Below w1.heap.size w1 wX) : Below B w wX := h.trans (hX.mono hB)

theorem quiet_left {P : Program} {f : FuncId} {args : Array Value} {w : World} {n : Nat} {v : Value}
    (h : Calls P f args (w.drewN n) fun e w' => e = .returned v ∧ w.drewN n = w') : Calls P f args (w.drewN n) fun e w'' => e = .returned v ∧ ∃ m, w'' = w.drewN m :=
  h.mono fun _ _ ⟨he, hm⟩ => ⟨he, n, hm.symm⟩
theorem rd_take {w : World} {A : Option Addr} {zs : List Int} (h : Rd w A (u8s zs)) (n : Nat) : Rd w A (u8s (zs.take n)) := fun hx => by
  have hl : 0 < (u8s zs).length := by
    rcases Nat.eq_zero_or_pos zs.length with h0 | h0
    · have e : zs = [] := List.eq_nil_of_length_eq_zero h0
      subst e
      simp [u8s] at hx
    · rw [u8s_length]; exact h0
  obtain ⟨b, off, e, hb, hc⟩ := h.open_ hl
  refine ⟨b, off, e, hb, fun i v hv => hc i v ?_⟩
  rw [u8s, List.getElem?_map] at hv
  rw [u8s, List.getElem?_map]
  rcases Nat.lt_or_ge i n with h' | h'
  · rwa [List.getElem?_take_of_lt h'] at hv
  · rw [List.getElem?_eq_none (by rw [List.length_take]; omega)] at hv; cases hv
theorem eq_bytes {a n a' n' : Int} {L L' : List TxD} (h : batB a n L = true) (h' : batB a' n' L' = true) : decide (batBytes a n L = batBytes a' n' L') = eqBat a n L a' n' L' := by
  rw [eqBat, decide_eq_decide]
  constructor
  · exact fun e => bytes_inj h h' e
  · rintro ⟨rfl, rfl, rfl⟩; rfl
theorem eqBytes_is (b : Bool) (A A' : Option Addr) (c c' n n' : Nat) (L M : List Int) (w : World) (hb : decide (L = M) = b) (hz : L.length = n) (hz' : M.length = n') (hr : Rd w A (u8s L)) (hr' : Rd w A' (u8s M)) (hn : n ≤ 1073741824) (hn' : n' ≤ 1073741824) :
    Calls Try.prog 72 #[.slice A n c, .slice A' n' c'] w fun e w' => e = .returned (.bool b) ∧ ∃ d, w' = w.drewN d :=
  hb ▸ eqBytes_any A A' c c' n n' L M w hz hz' hr hr' hn hn'

end Go.Proofs.Ytcfnomnhameleaa
/-
  The page's reading of a batch.
-/
namespace Go.Proofs.Ytcfnomnhameleaa
open Go.RowKit

theorem take_four {R : List ByteArray} {j : Nat} (h : 4 * j + 4 ≤ R.length) : ∃ s q k v, R[4 * j]? = some s ∧ R[4 * j + 1]? = some q ∧ R[4 * j + 2]? = some k ∧ R[4 * j + 3]? = some v ∧
    rdT (R.take (4 * (j + 1))) = ((rdT (R.take (4 * j))).1 ++ [⟨((wholeN s).getD 0 : Nat), ((wholeN q).getD 0 : Nat), k, v⟩], (rdT (R.take (4 * j))).2 && ((wholeN s).isSome && (wholeN q).isSome)) := by
  have g : ∀ i, i < R.length → R[i]? = some (R[i]?.getD ByteArray.empty) := fun i hi => by simp [hi]
  refine ⟨_, _, _, _, g _ (by omega), g _ (by omega), g _ (by omega), g _ (by omega), ?_⟩
  rw [← rdT_snoc _ _ _ _ j (R.take (4 * j)) (by rw [List.length_take]; omega)]
  congr 1
  rw [show 4 * (j + 1) = 4 * j + 1 + 1 + 1 + 1 by omega, take_next (g _ (by omega)), take_next (g _ (by omega)), take_next (g _ (by omega)), take_next (g _ (by omega))]
  simp
theorem text_in {zs : List Int} {l : List (List Int)} (hy : Byts zs) (h : getPuts zs = some l) : ∀ s ∈ l, s.length ≤ zs.length := fun s hs => by
  rw [getPuts_get hy h, putPuts, List.length_append]
  have : ∀ (l : List (List Int)), s ∈ l → s.length ≤ (vputs l).length := by
    intro l
    induction l with
    | nil => intro h; simp at h
    | cons x l ih =>
      intro h
      have e : vputs (x :: l) = vnum x.length ++ x ++ vputs l := by simp [vputs]
      rw [e, List.length_append, List.length_append]
      rcases List.mem_cons.1 h with rfl | h
      · omega
      · have := ih h; omega
  have := this l hs
  omega

theorem batchW_toList : batchW.toList = [98, 97, 116, 99, 104] := by rw [ByteArray.toList_eq]; rfl
theorem textsB_short {T : List ByteArray} (h : T.length < 7) : textsB T = none := by
  match T, h with
  | w :: x :: y :: r, h =>
    rw [textsB_three, if_neg]
    rintro ⟨_, h4, _⟩
    simp at h
    omega
  | [], _ => rfl
  | [_], _ => rfl
  | [_, _], _ => rfl
theorem textsB_odd {T : List ByteArray} (h7 : 7 ≤ T.length) (h : T.length % 4 ≠ 3) : textsB T = none := by
  match T, h7, h with
  | w :: x :: y :: r, h7, h =>
    rw [textsB_three, if_neg]
    rintro ⟨_, h4, h5, _⟩
    simp at h h7
    omega

theorem text_count {zs : List Int} {l : List (List Int)} (hy : Byts zs) (h : getPuts zs = some l) : l.length ≤ zs.length := by
  rw [getPuts_get hy h, putPuts, List.length_append]
  have : ∀ (l : List (List Int)), l.length ≤ (vputs l).length := by
    intro l
    induction l with
    | nil => simp
    | cons x l ih =>
      have e : vputs (x :: l) = vnum x.length ++ x ++ vputs l := by simp [vputs]
      have := vnum_pos x.length
      rw [e, List.length_append, List.length_append, List.length_cons]
      omega
  have := this l
  omega
theorem far_g {W w0 w' : World} {g o : Nat} {v : Value} (hb : Below (g + 1) w0 w') (h0 : Below W.heap.size W w0) (hg : g < W.heap.size) (h : W.cell? ⟨g, o, none⟩ = some v) : w'.cell? ⟨g, o, none⟩ = some v :=
  (hb.cell (p := ⟨g, o, none⟩) (Nat.lt_succ_self g)).trans ((h0.cell (p := ⟨g, o, none⟩) hg).trans h)
theorem far_f {W w0 w' : World} {g o : Nat} {v : Bool} (hb : Below (g + 1) w0 w') (h0 : Below W.heap.size W w0) (hg : g < W.heap.size) (h : W.frozen? ⟨g, o, none⟩ = v) : w'.frozen? ⟨g, o, none⟩ = v :=
  (hb.frozen (p := ⟨g, o, none⟩) (Nat.lt_succ_self g)).trans ((h0.frozen (p := ⟨g, o, none⟩) hg).trans h)

theorem far_b {W w0 w' w2 : World} {g B : Nat} (hb : Below (g + 1) w0 w') (h0 : Below W.heap.size W w0) (h2 : Below B w2 W) (hB : B ≤ W.heap.size) (hg : B ≤ g + 1) : Below B w2 w' :=
  (h2.trans (h0.mono hB)).trans (hb.mono hg)

/-- a batch that is told, or none -/
def RParsed (w : World) (r : Option (Int × Int × List TxD)) (e : Ending) (w' : World) : Prop :=
  Below w.heap.size w w' ∧ match r with
  | some (a, N, L) => ∃ A c, e = .returned (.tuple #[.agg #[.int .i64 a, .int .i64 N, .slice A L.length c], .bool true]) ∧ w'.ownsRow w.heap.size 99 4 (.slice A L.length c) L.length (txs L)
  | none => e = .returned (.tuple #[.agg #[.int .i64 0, .int .i64 0, .slice none 0 0], .bool false])
theorem rparsed_none {w w' : World} {r : Option (Int × Int × List TxD)} {e : Ending} (h : r = none) (hb : Below w.heap.size w w') (he : e = .returned (.tuple #[.agg #[.int .i64 0, .int .i64 0, .slice none 0 0], .bool false])) : RParsed w r e w' := by
  subst h; exact ⟨hb, he⟩

theorem rd_up {ok0 ok e1 e2 okn : Bool} {M : List TxD} {y1 y2 : Int} {s q kk vv : ByteArray} {R : List ByteArray} {j : Nat} (hO : ok = (ok0 && (rdT (R.take (4 * j))).2)) (hM : ok = true → M = (rdT (R.take (4 * j))).1)
    (hs : (wholeN s).isSome = e1) (hv : ∀ m, wholeN s = some m → y1 = (m : Int)) (hs' : (wholeN q).isSome = e2) (hv' : ∀ m, wholeN q = some m → y2 = (m : Int)) (hk : (ok && (e1 && e2)) = okn)
    (hrd : rdT (R.take (4 * (j + 1))) = ((rdT (R.take (4 * j))).1 ++ [⟨((wholeN s).getD 0 : Nat), ((wholeN q).getD 0 : Nat), kk, vv⟩], (rdT (R.take (4 * j))).2 && ((wholeN s).isSome && (wholeN q).isSome))) :
    (okn = (ok0 && (rdT (R.take (4 * (j + 1)))).2)) ∧ (okn = true → M ++ [⟨y1, y2, kk, vv⟩] = (rdT (R.take (4 * (j + 1)))).1) := by
  rw [hrd]
  refine ⟨?_, fun h => ?_⟩
  · rw [← hk, hO, hs, hs', Bool.and_assoc]
  · rw [← hk, Bool.and_eq_true, Bool.and_eq_true] at h
    obtain ⟨h1, h2, h3⟩ := h
    rw [h2, Option.isSome_iff_exists] at hs
    rw [h3, Option.isSome_iff_exists] at hs'
    obtain ⟨m, hm⟩ := hs
    obtain ⟨m', hm'⟩ := hs'
    rw [hM h1, hv m hm, hv' m' hm', hm, hm']
    rfl
theorem parse_not {t0 t1 t2 : ByteArray} {R : List ByteArray} {b1 b2 : Bool} (h1 : (wholeN t1).isSome = b1) (h2 : (wholeN t2).isSome = b2) (h : ((b1 && b2) && (rdT R).2) = false) : textsB (t0 :: t1 :: t2 :: R) = none := by
  rw [textsB_three, if_neg]
  rintro ⟨_, _, _, g1, g2, g3, _⟩
  rw [h1] at g1
  rw [h2] at g2
  rw [g1, g2, g3] at h
  cases h
theorem parse_bad {t0 t1 t2 : ByteArray} {R : List ByteArray} {x1 x2 : Int} (h1 : ∀ m, wholeN t1 = some m → x1 = (m : Int)) (h2 : ∀ m, wholeN t2 = some m → x2 = (m : Int)) (h : batB x1 x2 (rdT R).1 = false) : textsB (t0 :: t1 :: t2 :: R) = none := by
  rw [textsB_three, if_neg]
  rintro ⟨_, _, _, g1, g2, _, g4⟩
  rw [Option.isSome_iff_exists] at g1 g2
  obtain ⟨m, hm⟩ := g1
  obtain ⟨m', hm'⟩ := g2
  rw [hm, hm', Option.getD_some, Option.getD_some, ← h1 m hm, ← h2 m' hm', h] at g4
  cases g4
theorem parse_good {t0 t1 t2 : ByteArray} {R : List ByteArray} {x1 x2 : Int} {b1 b2 : Bool} (hw : t0 = batchW) (hl : 4 ≤ R.length) (hl' : R.length % 4 = 0) (h1 : (wholeN t1).isSome = b1) (h2 : (wholeN t2).isSome = b2) (hv1 : ∀ m, wholeN t1 = some m → x1 = (m : Int)) (hv2 : ∀ m, wholeN t2 = some m → x2 = (m : Int))
    (h : ((b1 && b2) && (rdT R).2) = true) (hb : batB x1 x2 (rdT R).1 = true) : textsB (t0 :: t1 :: t2 :: R) = some (x1, x2, (rdT R).1) := by
  rw [Bool.and_eq_true, Bool.and_eq_true] at h
  obtain ⟨⟨g1, g2⟩, g3⟩ := h
  rw [g1, Option.isSome_iff_exists] at h1
  rw [g2, Option.isSome_iff_exists] at h2
  obtain ⟨m, hm⟩ := h1
  obtain ⟨m', hm'⟩ := h2
  have e1 := hv1 m hm
  have e2 := hv2 m' hm'
  rw [textsB_three, hm, hm', Option.getD_some, Option.getD_some, ← e1, ← e2, if_pos ⟨hw, hl, hl', rfl, rfl, g3, hb⟩]
theorem rparsed_some {w w' : World} {r : Option (Int × Int × List TxD)} {e : Ending} {a N : Int} {L : List TxD} {A : Option Addr} {c n : Nat} (h : r = some (a, N, L)) (hn : L.length = n) (hb : Below w.heap.size w w') (he : e = .returned (.tuple #[.agg #[.int .i64 a, .int .i64 N, .slice A n c], .bool true]))
    (ho : w'.ownsRow w.heap.size 99 4 (.slice A n c) n (txs L)) : RParsed w r e w' := by
  subst h hn; exact ⟨hb, A, c, he, ho⟩

end Go.Proofs.Ytcfnomnhameleaa
