/-
  The page's bytes of a batch.
-/
import Derived.Test.YtkkamcdilpcehaaPage
import Derived.Test.YtkkamcdilpcehaaMemStep
namespace Go.Proofs.Ytkkamcdilpcehaa
open Go.RowKit

theorem far4 {w w' : World} {row : Option Nat} {b : Nat} {v0 v1 v2 v3 : Value} (hg : w.grownBy w' row) (h : w.cell? ⟨b, 0, none⟩ = some v0 ∧ w.cell? ⟨b, 1, none⟩ = some v1 ∧ w.cell? ⟨b, 2, none⟩ = some v2 ∧ w.cell? ⟨b, 3, none⟩ = some v3) (hne : some b ≠ row) :
    w'.cell? ⟨b, 0, none⟩ = some v0 ∧ w'.cell? ⟨b, 1, none⟩ = some v1 ∧ w'.cell? ⟨b, 2, none⟩ = some v2 ∧ w'.cell? ⟨b, 3, none⟩ = some v3 :=
  ⟨hg.cell h.1 hne, hg.cell h.2.1 hne, hg.cell h.2.2.1 hne, hg.cell h.2.2.2 hne⟩
theorem strs_map (l : List ByteArray) : strs l = l.map Value.string := rfl
theorem texts_up {a n : Int} {L : List TxD} {j : Nat} {t : TxD} (h : L[j]? = some t) : batTexts a n (L.take (j + 1)) = batTexts a n (L.take j) ++ t.texts := by
  rw [batTexts, batTexts, take_next h, List.flatMap_append, List.append_assoc]
  simp

theorem vputs_len (L : List ByteArray) (h : ∀ s ∈ L, s.size ≤ 40) : (vputs (L.map byt)).length ≤ 49 * L.length := by
  induction L with
  | nil => simp [vputs]
  | cons s L ih =>
    have h0 := h s (by simp)
    have h1 := vnum_len_le s.size (by omega)
    have h2 := ih fun x hx => h x (by simp [hx])
    simp only [vputs, List.map_cons, List.flatMap_cons, List.length_append, List.length_cons, byt_length] at h2 ⊢
    omega
theorem texts_small {a n : Int} {L : List TxD} (h : batB a n L = true) : ∀ s ∈ batTexts a n L, s.size ≤ 40 := by
  obtain ⟨⟨a0, a1⟩, ⟨n0, n1⟩, _, ht⟩ := bat_all h
  have hn : ∀ m : Int, 0 ≤ m → m < 9223372036854775808 → (numT m).size ≤ 40 := fun m h0 h1 => by
    rw [numT_size]
    have := vnum_len_le m.toNat (by omega)
    omega
  intro s hs
  rw [batTexts] at hs
  rcases List.mem_append.1 hs with h' | h'
  · simp only [List.mem_cons, List.not_mem_nil, or_false] at h'
    rcases h' with rfl | rfl | rfl
    · decide
    · exact hn _ a0 a1
    · exact hn _ n0 n1
  · obtain ⟨t', hm, hx⟩ := List.mem_flatMap.1 h'
    obtain ⟨⟨⟨s0, s1⟩, q0, q1⟩, k1, v1⟩ := ht t' hm
    simp only [TxD.texts, List.mem_cons, List.not_mem_nil, or_false] at hx
    rcases hx with rfl | rfl | rfl | rfl
    · exact hn _ s0 s1
    · exact hn _ q0 q1
    · omega
    · omega
theorem bytes_small {a n : Int} {L : List TxD} (h : batB a n L = true) : (batBytes a n L).length ≤ 2000 := by
  obtain ⟨_, _, ⟨_, l1⟩, _⟩ := bat_all h
  have h1 := vputs_len (batTexts a n L) (texts_small h)
  have h2 := batTexts_length a n L
  have h3 := vnum_len_le (batTexts a n L).length (by omega)
  rw [batBytes, putPuts_byt, List.length_append]
  omega
theorem bytes_fit {a n : Int} {L : List TxD} (h : batB a n L = true) : (putPuts ((batTexts a n L).map byt)).length ≤ 1048576 := by
  have := bytes_small h
  rw [batBytes] at this
  omega

set_option maxRecDepth 100000 in
set_option maxHeartbeats 4000000 in
theorem rbytes_any (a N : Int) (A : Option Addr) (c n : Nat) (L : List TxD) (w : World) (hb : batB a N L = true) (hz : L.length = n) (hr : Rd w A (txs L)) (hc : n ≤ c) :
    Calls Try.prog 20 #[.agg #[.int .i64 a, .int .i64 N, .slice A n c]] w (Made w.heap.size 5 w (u8s (batBytes a N L))) := by
  obtain ⟨⟨a0, a1⟩, ⟨n0, n1⟩, ⟨l0, l1⟩, ht⟩ := bat_all hb
  rw [hz] at l0 l1
  have HZ := Lib.hid hz
  have HT := Lib.hid ht
  clear hz ht
  obtain ⟨w1, hw1⟩ : ∃ w1, w1 = w.alloc (.cells #[.int .i64 a, .int .i64 N, .slice A n c] 26) := ⟨_, rfl⟩
  have hb1 : Below w.heap.size w w1 := by rw [hw1]; exact (Below.refl _ _).alloc (Nat.le_refl _) _
  have hs1 : w.heap.size < w1.heap.size := by rw [hw1]; simp
  have c0 : w1.cell? ⟨w.heap.size, 0, none⟩ = some (.int .i64 a) := by rw [hw1, World.cell?_alloc_at _ _ _ _ rfl]; rfl
  have c1 : w1.cell? ⟨w.heap.size, 1, none⟩ = some (.int .i64 N) := by rw [hw1, World.cell?_alloc_at _ _ _ _ rfl]; rfl
  have c2 : w1.cell? ⟨w.heap.size, 2, none⟩ = some (.slice A n c) := by rw [hw1, World.cell?_alloc_at _ _ _ _ rfl]; rfl
  have HP : Hid (∀ wX, Below w1.heap.size w1 wX → wX.cell? ⟨w.heap.size, 0, none⟩ = some (.int .i64 a) ∧ wX.cell? ⟨w.heap.size, 1, none⟩ = some (.int .i64 N)) := fun wX h => ⟨(h.cell (p := ⟨w.heap.size, 0, none⟩) hs1).trans c0, (h.cell (p := ⟨w.heap.size, 1, none⟩) hs1).trans c1⟩
  have HP2 : Hid (∀ wX, Below w1.heap.size w1 wX → wX.cell? ⟨w.heap.size, 2, none⟩ = some (.slice A n c)) := fun wX h => (h.cell (p := ⟨w.heap.size, 2, none⟩) hs1).trans c2
  have HW := Lib.hid hw1
  clear hw1 c2
  go_enter Try.func20, Try.ntmps20
  go_wp2_with fail
  rw [← HW.out]
  go_region_held3 (fun w' => w'.cell? ⟨w.heap.size, 0, none⟩ = some (.int .i64 a) ∧ w'.cell? ⟨w.heap.size, 1, none⟩ = some (.int .i64 N))
    (first | assumption | go_keep)
    (first
      | (go_at_call 33; refine (rnumT_any _ _ (by omega) (by omega)).mono ?_; rintro e w3 ⟨rfl, hb3⟩; have hx3 : Below w1.heap.size w1 w3 := (by first | exact (hx2.drew.trans (hb3.mono hx2.size)) | exact (hx2.trans (hb3.mono hx2.size))); have hS3 := HP.out _ hx3)
      | (go_at_call 33; refine (rnumT_any _ _ (by omega) (by omega)).mono ?_; rintro e w2 ⟨rfl, hb2⟩; have hx2 : Below w1.heap.size w1 w2 := (by first | exact hb2 | exact ((Below.refl _ _).drew).trans hb2); have hS2 := HP.out _ hx2))
  have hx3' := hx3
  clear hS2 hS3 hb3 hb2 hx2 c0 c1
  go_wp2_with fail
  go_loopw [3, 4] (fun v i wz => ∃ j : Nat, i = .int .i64 j ∧ j ≤ n ∧ wz.ownsRow w1.heap.size 9 1 v (3 + 4 * j) (strs (batTexts a N (L.take j))) ∧ Below w1.heap.size w1 wz) (fun _ i _ => n - (intOf i).toNat)
  case atStart =>
    have ho := ownS_new w3 w1.heap.size 9 1 3 [.string batchW, .string (numT a), .string (numT N)] rfl (by simp [maxLen]) hx3.size
    exact ⟨0, rfl, by omega, by first | exact ho | exact ho.drew | exact ho.drew.drew | exact ownS_n ho _, by first | exact hx3.alloc hx3.size _ | exact (hx3.alloc hx3.size _).drew | exact (hx3.alloc hx3.size _).drew.drew | exact below_n (hx3.alloc hx3.size _) _⟩
  case round =>
    obtain ⟨j, rfl, hj, ho, hbz⟩ := hrel
    have d2 := HP2.out _ hbz
    by_cases hlt : j < n
    · obtain ⟨b, off, t, rfl, hbl, hat, e0, e1, e2, e3⟩ := (hr.below (hb1.trans (hbz.mono (by omega)))).tx (i := j) (by rw [HZ.out]; exact hlt)
      obtain ⟨ts, tq, tk, tv⟩ := t
      simp only at e0 e1 e2 e3
      obtain ⟨⟨⟨g0, g1⟩, g2, g3⟩, _⟩ := HT.out _ (List.mem_of_getElem? hat)
      simp only at g0 g1 g2 g3
      have HUP := Lib.hid (texts_up (a := a) (n := N) hat)
      have i0 : (0 : Int) ≤ (j : Int) := by omega
      have i1 : (j : Int) < (n : Int) := by omega
      clear hat
      obtain ⟨wt, hwt⟩ : ∃ wt, wt = wr.alloc (.cells #[.int .i64 ts, .int .i64 tq, .string tk, .string tv] 34) := ⟨_, rfl⟩
      have hbt : Below w1.heap.size w1 wt := by rw [hwt]; exact hbz.alloc hbz.size _
      have hst : wr.heap.size < wt.heap.size := by rw [hwt]; simp
      have hot := ho.alloc (.cells #[.int .i64 ts, .int .i64 tq, .string tk, .string tv] 34)
      rw [← hwt] at hot
      have HLT := Lib.hid ho.lt
      have HPT : Hid (∀ wX, Below wt.heap.size wt wX → wX.cell? ⟨wr.heap.size, 0, none⟩ = some (.int .i64 ts) ∧ wX.cell? ⟨wr.heap.size, 1, none⟩ = some (.int .i64 tq) ∧ wX.cell? ⟨wr.heap.size, 2, none⟩ = some (.string tk) ∧ wX.cell? ⟨wr.heap.size, 3, none⟩ = some (.string tv)) := fun wX h => by
        refine ⟨(h.cell (p := ⟨wr.heap.size, 0, none⟩) hst).trans ?_, (h.cell (p := ⟨wr.heap.size, 1, none⟩) hst).trans ?_, (h.cell (p := ⟨wr.heap.size, 2, none⟩) hst).trans ?_, (h.cell (p := ⟨wr.heap.size, 3, none⟩) hst).trans ?_⟩
        all_goals
          rw [hwt, World.cell?_alloc_at _ _ _ _ rfl]
          rfl
      go_wp2_with fail
      rw [← hwt]
      obtain ⟨f0, f1, f2, f3⟩ := HPT.out _ (Below.refl _ _)
      clear hwt ho e0 e1 e2 e3 d2
      go_region_held3 (fun w' => w'.cell? ⟨wr.heap.size, 0, none⟩ = some (.int .i64 ts) ∧ w'.cell? ⟨wr.heap.size, 1, none⟩ = some (.int .i64 tq) ∧ w'.cell? ⟨wr.heap.size, 2, none⟩ = some (.string tk) ∧ w'.cell? ⟨wr.heap.size, 3, none⟩ = some (.string tv))
        (first | assumption | go_keep)
        (first
          | (go_at_call 33; refine (rnumT_any _ _ (by omega) (by omega)).mono ?_; rintro e w5 ⟨rfl, hb5⟩; have hx5 : Below wt.heap.size wt w5 := (by first | exact (hx4.drew.trans (hb5.mono hx4.size)) | exact (hx4.trans (hb5.mono hx4.size))); have hS5 := HPT.out _ hx5; have ho5 := ownS_below hot hx5)
          | (go_at_call 33; refine (rnumT_any _ _ (by omega) (by omega)).mono ?_; rintro e w4 ⟨rfl, hb4⟩; have hx4 : Below wt.heap.size wt w4 := (by first | exact hb4 | exact ((Below.refl _ _).drew).trans hb4); have hS4 := HPT.out _ hx4)
          | (refine step_app_far _ (by rfl) _ _ _ (by rfl) w1.heap.size 9 (.string ByteArray.empty) 16 Try.underlying57 info_str rfl (by decide) _ (3 + 4 * j) _ (by rfl) (ho5.alloc _) (some ⟨w5.heap.size, 0, none⟩) 4 4 [.string (numT ts), .string (numT tq), .string tk, .string tv] (by rfl) (by rfl) (rd_new w5 [.string (numT ts), .string (numT tq), .string tk, .string tv] _) (by intro u hu; simp at hu; rcases hu with rfl | rfl | rfl | rfl <;> rfl) (by omega) (by have := hbt.size; have := hx5.size; simp; omega) ?_; intro v7 w7 ho7 hb8 hg8; have hx7 : Below w1.heap.size w1 w7 := ((hbt.trans (hx5.mono hbt.size)).alloc (by have := hbt.size; have := hx5.size; omega) _).trans hb8; have hS7 := far4 hg8 (HPT.out _ (hx5.alloc hx5.size _)) (fun e => by have := (HLT.out _ e.symm).2; omega)))
      have ho8 := own_conv (n' := 3 + 4 * (j + 1)) (ys := strs (batTexts a N (L.take (j + 1)))) ho7 (by rw [HUP.out, strs_append]; rfl) (by omega)
      clear ho7 ho5 hot hS4 hS5 hS7 hb8 hx4 hx5 hb4 hb5 f0 f1 f2 f3
      go_wp2_with fail
      go_roundw
      case rel => exact ⟨j + 1, by go_num, by omega, ho8, hx7⟩
      case measure => simp [intOf]; omega
    · obtain rfl : j = n := by omega
      have i1 : ¬ ((j : Int) < (j : Int)) := by omega
      have hall : L.take j = L := List.take_of_length_le (by rw [HZ.out]; omega)
      rw [hall] at ho
      have hfit := bytes_fit hb
      obtain ⟨A3, c3, rfl, _, _, hr3, _, hl3⟩ := own_val ho
      have HL3 : Hid ((batTexts a N L).length = 3 + 4 * j) := by
        show (batTexts a N L).length = 3 + 4 * j
        rw [batTexts_length, HZ.out]
      have HF := Lib.hid hfit
      clear hl3 ho hall hfit
      go_wp2_with fail
      refine (rput_yes A3 c3 (3 + 4 * j) (batTexts a N L) _ HL3.out hr3 (by omega) HF.out).mono ?_
      rintro e w5 ⟨v5, rfl, ho5, hb5⟩
      go_wp2_with fail
      go_ret
      exact ⟨v5, rfl, ownS_more ho5 (by have := hbz.size; omega), hb1.trans ((hbz.trans (hb5.mono hbz.size)).mono (by omega))⟩

end Go.Proofs.Ytkkamcdilpcehaa
