/-
  Three keys put anew in turn: on plain data.
-/
import Derived.Test.YtaccmjgnggepjaaKZM
import Derived.Test.YtaccmjgnggepjaaKZN
import Derived.Test.YtaccmjgnggepjaaKScr
namespace Go.Proofs.Ytaccmjgnggepjaa

def bB1 : ByteArray := ⟨#[98]⟩
def bC1 : ByteArray := ⟨#[99]⟩
def keyO (r : Nat) : ByteArray := if r = 0 then bA1 else if r = 1 then bB1 else bC1
def valO (k : Nat) : ByteArray := strOfNums (List.replicate (3000 + k) 0)
theorem valO_size (k : Nat) : (valO k).size = 3000 + k := by rw [valO, strOfNums_size, List.length_replicate]
theorem lt_ab : ltN bA1 bB1 = true := by unfold ltN; rw [Lib.toList_data, Lib.toList_data]; rfl
theorem lt_bc : ltN bB1 bC1 = true := by unfold ltN; rw [Lib.toList_data, Lib.toList_data]; rfl
theorem lt_ac : ltN bA1 bC1 = true := by unfold ltN; rw [Lib.toList_data, Lib.toList_data]; rfl
def tri (x y z : ByteArray) : List PP := [(bA1, x), (bB1, y), (bC1, z)]
theorem tri_rise (x y z : ByteArray) : RiseN (keysP (tri x y z)) := by
  show List.Pairwise _ [bA1, bB1, bC1]
  simp [lt_ab, lt_bc, lt_ac]
theorem tri_set {x y z v : ByteArray} {j : Nat} {k u : ByteArray} (h : (tri x y z)[j]? = some (k, u)) : setP (tri x y z) k v = (tri x y z).set j (k, v) := by
  have hk : (keysP (tri x y z))[j]? = some k := by rw [keysP, List.getElem?_map, h]; rfl
  obtain ⟨h1, h2⟩ := hasN_of (tri_rise x y z) hk
  have h3 : hasP (tri x y z) k = true := h1
  have h4 : posP (tri x y z) k = j := h2
  rw [← h4] at h ⊢
  exact setP_set h3 h
/-- the pairs behind k puts -/
def Ov (k : Nat) (l : List PP) : Prop :=
  (k = 0 ∧ l = []) ∨ (k = 1 ∧ l = [(bA1, valO 0)]) ∨ (k = 2 ∧ l = [(bA1, valO 0), (bB1, valO 1)]) ∨
  ∃ i j m, l = tri (valO i) (valO j) (valO m) ∧ i % 3 = 0 ∧ j % 3 = 1 ∧ m % 3 = 2 ∧ i < k ∧ j < k ∧ m < k ∧ k ≤ i + 3 ∧ k ≤ j + 3 ∧ k ≤ m + 3
theorem check_o {l : List PP} {k : Nat} {r : Nat} (hk : k ≤ 200) (hs : sizeP (setP l (keyO r) (valO k)) ≤ 262144) : checkP l (keyO r) (valO k) = 0 := by
  have h1 := valO_size k
  have h2 : (keyO r).size = 1 := by unfold keyO; (repeat' split) <;> rfl
  exact checkP_of (k := keyO r) (v := valO k) ⟨by show 1 ≤ (keyO r).size; omega, by show (keyO r).size ≤ 32; omega, by show (keyO r).size + (valO k).size ≤ 4032; omega⟩ hs
theorem tri_size {i j m : Nat} (hi : i ≤ 200) (hj : j ≤ 200) (hm : m ≤ 200) : sizeP (tri (valO i) (valO j) (valO m)) ≤ 262144 := by
  have h1 := valO_size i
  have h2 := valO_size j
  have h3 := valO_size m
  have ha : bA1.size = 1 := rfl
  have hb : bB1.size = 1 := rfl
  have hc : bC1.size = 1 := rfl
  simp only [tri, sizeP, cntP]
  omega
theorem ov_step {k : Nat} {l : List PP} (h : Ov k l) (hk : k < 200) : checkP l (keyO (k % 3)) (valO k) = 0 ∧ Ov (k + 1) (setP l (keyO (k % 3)) (valO k)) := by
  have ha : bA1.size = 1 := rfl
  have hb : bB1.size = 1 := rfl
  have hc : bC1.size = 1 := rfl
  rcases h with ⟨rfl, rfl⟩ | ⟨rfl, rfl⟩ | ⟨rfl, rfl⟩ | ⟨i, j, m, rfl, hi, hj, hm, h1, h2, h3, h4, h5, h6⟩
  · have e : setP [] (keyO (0 % 3)) (valO 0) = [(bA1, valO 0)] := rfl
    refine ⟨check_o (by omega) ?_, .inr (.inl ⟨rfl, e⟩)⟩
    rw [e]
    have := valO_size 0
    simp only [sizeP, cntP]
    omega
  · have e : setP [(bA1, valO 0)] (keyO (1 % 3)) (valO 1) = [(bA1, valO 0), (bB1, valO 1)] := set_end (p := (bB1, valO 1)) (l := [(bA1, valO 0)]) fun a ha => by
      simp [keysP] at ha
      rw [ha]
      exact lt_ab
    refine ⟨check_o (by omega) ?_, .inr (.inr (.inl ⟨rfl, e⟩))⟩
    rw [e]
    have h0 := valO_size 0
    have h1 := valO_size 1
    simp only [sizeP, cntP]
    omega
  · have e : setP [(bA1, valO 0), (bB1, valO 1)] (keyO (2 % 3)) (valO 2) = tri (valO 0) (valO 1) (valO 2) := set_end (p := (bC1, valO 2)) (l := [(bA1, valO 0), (bB1, valO 1)]) fun a ha => by
      simp [keysP] at ha
      rcases ha with ha | ha
      · rw [ha]; exact lt_ac
      · rw [ha]; exact lt_bc
    refine ⟨check_o (by omega) ?_, .inr (.inr (.inr ⟨0, 1, 2, e, rfl, rfl, rfl, by omega, by omega, by omega, by omega, by omega, by omega⟩))⟩
    rw [e]
    exact tri_size (by omega) (by omega) (by omega)
  · have hr : k % 3 = 0 ∨ k % 3 = 1 ∨ k % 3 = 2 := by omega
    rcases hr with hr | hr | hr
    · have e : setP (tri (valO i) (valO j) (valO m)) (keyO (k % 3)) (valO k) = tri (valO k) (valO j) (valO m) := by rw [hr]; exact tri_set (j := 0) (k := bA1) rfl
      refine ⟨check_o (by omega) ?_, .inr (.inr (.inr ⟨k, j, m, e, hr, hj, hm, by omega, by omega, by omega, by omega, by omega, by omega⟩))⟩
      rw [e]
      exact tri_size (by omega) (by omega) (by omega)
    · have e : setP (tri (valO i) (valO j) (valO m)) (keyO (k % 3)) (valO k) = tri (valO i) (valO k) (valO m) := by rw [hr]; exact tri_set (j := 1) (k := bB1) rfl
      refine ⟨check_o (by omega) ?_, .inr (.inr (.inr ⟨i, k, m, e, hi, hr, hm, by omega, by omega, by omega, by omega, by omega, by omega⟩))⟩
      rw [e]
      exact tri_size (by omega) (by omega) (by omega)
    · have e : setP (tri (valO i) (valO j) (valO m)) (keyO (k % 3)) (valO k) = tri (valO i) (valO j) (valO k) := by rw [hr]; exact tri_set (j := 2) (k := bC1) rfl
      refine ⟨check_o (by omega) ?_, .inr (.inr (.inr ⟨i, j, k, e, hi, hj, hr, by omega, by omega, by omega, by omega, by omega, by omega⟩))⟩
      rw [e]
      exact tri_size (by omega) (by omega) (by omega)
theorem ov_get {k : Nat} {l : List PP} (h : Ov k l) (hk : 3 ≤ k) {i' : Nat} (h1 : i' < k) (h2 : k ≤ i' + 3) : getP l (keyO (i' % 3)) = (valO i', 0) := by
  rcases h with ⟨rfl, rfl⟩ | ⟨rfl, rfl⟩ | ⟨rfl, rfl⟩ | ⟨i, j, m, rfl, hi, hj, hm, a1, a2, a3, a4, a5, a6⟩
  · omega
  · omega
  · omega
  · have hr : i' % 3 = 0 ∨ i' % 3 = 1 ∨ i' % 3 = 2 := by omega
    rcases hr with hr | hr | hr
    · have e : i' = i := by omega
      rw [hr, e]
      exact get_at (tri_rise _ _ _) (j := 0) rfl
    · have e : i' = j := by omega
      rw [hr, e]
      exact get_at (tri_rise _ _ _) (j := 1) rfl
    · have e : i' = m := by omega
      rw [hr, e]
      exact get_at (tri_rise _ _ _) (j := 2) rfl
theorem ov_keys {k : Nat} {l : List PP} (h : Ov k l) (hk : 3 ≤ k) : (keysP l).length = 3 := by
  rcases h with ⟨rfl, rfl⟩ | ⟨rfl, rfl⟩ | ⟨rfl, rfl⟩ | ⟨i, j, m, rfl, _⟩
  · omega
  · omega
  · omega
  · rfl

end Go.Proofs.Ytaccmjgnggepjaa
/-
  However often some keys are put anew there is room for it: the walk.
-/
namespace Go.Proofs.Ytaccmjgnggepjaa
open Go.RowKit

theorem rem_is {k d r : Nat} (h : k % d = r) : (k : Int).tmod (d : Int) = (r : Int) := by
  subst h
  rfl
theorem rem3 {k r : Nat} (h : k % 3 = r) : (k : Int).tmod 3 = (r : Int) ∧ wrap64 ((k : Int).tmod 3) = (r : Int) ∧ IntKind.i64.wrap ((k : Int).tmod 3) = (r : Int) := by
  have e : (k : Int).tmod 3 = (r : Int) := rem_is (d := 3) h
  have hr : r < 3 := by rw [← h]; exact Nat.mod_lt _ (by decide)
  rw [e]
  exact ⟨rfl, IntWalk.wrap64_in _ (by omega), IntWalk.i64_in _ (by omega)⟩
theorem rem40 {k r : Nat} (h : k % 40 = r) : (k : Int).tmod 40 = (r : Int) ∧ wrap64 ((k : Int).tmod 40) = (r : Int) ∧ IntKind.i64.wrap ((k : Int).tmod 40) = (r : Int) := by
  have e : (k : Int).tmod 40 = (r : Int) := rem_is (d := 40) h
  have hr : r < 40 := by rw [← h]; exact Nat.mod_lt _ (by decide)
  rw [e]
  exact ⟨rfl, IntWalk.wrap64_in _ (by omega), IntWalk.i64_in _ (by omega)⟩
theorem key_cell (w : World) {r : Nat} (hr : r < 3) : (w.alloc (.cells #[.string ⟨#[97]⟩, .string ⟨#[98]⟩, .string ⟨#[99]⟩] 9)).cell? ⟨w.heap.size, r, none⟩ = some (.string (keyO r)) := by
  have h3 : r = 0 ∨ r = 1 ∨ r = 2 := by omega
  rcases h3 with h | h | h
  · subst h; simp [go_sem, keyO, bA1]
  · subst h; simp [go_sem, keyO, bB1]
  · subst h; simp [go_sem, keyO, bC1]
/-- the store of the first loop -/
def LoopO {K : LogK} (hP : LogP K) (B gk gd : Nat) (k : Nat) (w : World) : Prop := ∃ l c, Live hP B gk gd c l w ∧ Ov k l ∧ c ≤ 4 + k * 16

set_option maxRecDepth 100000 in
set_option maxHeartbeats 8000000 in
theorem keepOver_walk {K : LogK} (hK : LogC K) (hE : LogE K) (hP : LogP K) (s : ScrW) (w : World) (hin : ScrWIn w s) : Calls Try.prog 4 #[scrVW s] w (Tells w.heap.size w (.bool true)) := by
  obtain ⟨w1, hw1⟩ : ∃ w1, w1 = w.alloc (.cells #[.slice s.AL s.nL s.cL, .slice s.AO s.nO s.cO] 25) := ⟨_, rfl⟩
  have hb1 : Below w.heap.size w w1 := by rw [hw1]; exact (Below.refl _ _).alloc (Nat.le_refl _) _
  have bx1 : Box w1 w.heap.size (scrCW s) := by rw [hw1]; exact box_new w (scrCW s) 25
  have HW := Lib.hid hw1
  have hnl : s.nL ≤ 9223372036854775807 := by have h1 := hin.kL; have h2 := hin.xL; unfold maxLen at h2; omega
  obtain ⟨nL, hnL⟩ : ∃ nL, s.nL = nL := ⟨_, rfl⟩
  rw [hnL] at hnl
  have HC0 : Hid (∀ wX, Below w1.heap.size w1 wX → wX.cell? ⟨w.heap.size, 0, none⟩ = some (.slice s.AL nL s.cL)) := fun wX h => by rw [← hnL]; exact (bx1.below h bx1.1).2 0 _ rfl
  have fin : ∀ wX, Below w1.heap.size w1 wX → Calls Try.prog 17 #[] wX (Tells w.heap.size w (.bool true)) := fun wX hX => (wakesK_any hK hE hP wX).mono fun e w' hh => ⟨hh.1, hb1.trans ((hX.trans (hh.2.mono hX.size)).mono hb1.size)⟩
  have HFIN := Lib.hid fin
  obtain ⟨m, hm8, hwv⟩ := within_val (nL : Int) 8 (by decide) (by decide)
  have HWV := Lib.hid hwv
  clear hw1 bx1 hnL fin hb1 hin hwv
  unfold scrVW
  go_enter Try.func4, Try.ntmps4
  go_upto_region 1 with fail
  rw [← HW.out]
  go_wp2_with fail
  refine (diskG_any _).mono ?_
  rintro e w3 ⟨gd, rfl, hd3, hb3⟩
  have HD3 := Lib.hid hd3
  clear hd3
  go_wp2_with fail
  refine (live_open (hP := hP) hK hE HD3.out hb3.size (ready_new hP) rfl).mono ?_
  rintro e w4 ⟨gk, rfl, hl4, hb4'⟩
  have HL4 := Lib.hid hl4
  have HB4 := Lib.hid (hb3.trans hb4')
  clear hl4 hb3 hb4'
  go_wp2_with fail
  refine (num11_any _ _).mono ?_
  rintro e w' ⟨rfl, rfl⟩
  have c0 := HC0.out _ HB4.out
  go_upto_region 5 with fail
  obtain ⟨w5, hw5⟩ : ∃ w5, w5 = w4.alloc (.cells #[.int .i64 30, .int .i64 40, .int .i64 30, .int .i64 50, .int .i64 40, .int .i64 30, .int .i64 60, .int .i64 200] 3) := ⟨_, rfl⟩
  have hb45 : Below w4.heap.size w4 w5 := by rw [hw5]; exact (Below.refl _ _).alloc (Nat.le_refl _) _
  have HL5 := Lib.hid (HL4.out.below hK hb45)
  have HB5 := Lib.hid (HB4.out.trans (hb45.mono HB4.out.size))
  have c0a := HC0.out _ HB5.out
  rw [hw5] at c0a
  have hcell : ∃ n : Nat, w5.cell? ⟨w4.heap.size, m, none⟩ = some (.int .i64 n) ∧ 30 ≤ n ∧ n ≤ 200 := by
    rw [hw5]
    have hm : m = 0 ∨ m = 1 ∨ m = 2 ∨ m = 3 ∨ m = 4 ∨ m = 5 ∨ m = 6 ∨ m = 7 := by omega
    rcases hm with rfl | rfl | rfl | rfl | rfl | rfl | rfl | rfl
    · exact ⟨30, by simp [go_sem], by omega, by omega⟩
    · exact ⟨40, by simp [go_sem], by omega, by omega⟩
    · exact ⟨30, by simp [go_sem], by omega, by omega⟩
    · exact ⟨50, by simp [go_sem], by omega, by omega⟩
    · exact ⟨40, by simp [go_sem], by omega, by omega⟩
    · exact ⟨30, by simp [go_sem], by omega, by omega⟩
    · exact ⟨60, by simp [go_sem], by omega, by omega⟩
    · exact ⟨200, by simp [go_sem], by omega, by omega⟩
  obtain ⟨n, hcn, hn1, hn2⟩ := hcell
  have HCN := Lib.hid hcn
  have HW5 := Lib.hid hw5
  clear hw5 hb45 hcn
  go_cut [6] from 29 to 35 (fun nv wx => nv = .int .i64 n ∧ w5 = wx)
  case first =>
    go_wp2_with fail
    rw [← HW5.out]
    refine (within_is (nL : Int) 8 m _ HWV.out (by decide) (by decide)).mono ?_
    rintro e w' ⟨rfl, rfl⟩
    have y0 := HCN.out
    have i0 : (0 : Int) ≤ (m : Int) := by omega
    have i1 : (m : Int) < 8 := by omega
    go_wp2_with fail
    go_meet
    exact ⟨rfl, rfl⟩
  case rest =>
  obtain ⟨rfl, rfl⟩ := hcut
  clear c0 c0a
  go_wp2_with fail
  go_loopw [7] (fun iv wr => ∃ k : Nat, iv = .int .i64 k ∧ k ≤ n ∧ Hid (LoopO hP w1.heap.size gk gd k wr) ∧ Below w1.heap.size w1 wr) (fun iv _ => n - (intOf iv).toNat)
  case atStart => exact ⟨0, rfl, by omega, ⟨[], 4, HL5.out, .inl ⟨rfl, rfl⟩, by omega⟩, HB5.out⟩
  case round =>
    obtain ⟨k, rfl, hk, HLO, hb⟩ := hrel
    have i0 : (0 : Int) ≤ (k : Int) := by omega
    by_cases hlt : k < n
    · have i1 : (k : Int) < (n : Int) := by omega
      obtain ⟨l, c, hl, hov, hc⟩ := HLO.out
      obtain ⟨w6, hmk, hr6, hb6⟩ := make_q wr (3000 + k) (by omega)
      rw [show ((3000 + k : Nat) : Int) = 3000 + (k : Int) from by omega] at hmk
      have hcv := conv_rdG w6 (zs := List.replicate (3000 + k) 0) (n := 3000 + k) List.length_replicate (by omega) hr6 (3000 + k)
      rw [show strOfNums (List.replicate (3000 + k) 0) = valO k from rfl] at hcv
      have e1 : IntKind.i64.wrap (3000 + (k : Int)) = 3000 + (k : Int) := IntWalk.i64_in _ (by omega)
      obtain ⟨hck, hov2⟩ := ov_step hov (by omega)
      have hvs := valO_size k
      obtain ⟨r, hr⟩ : ∃ r, k % 3 = r := ⟨_, rfl⟩
      rw [hr] at hck hov2
      have hr3 : r < 3 := by rw [← hr]; exact Nat.mod_lt _ (by decide)
      have hc8 : c ≤ 800000 := by omega
      have hv8 : (valO k).size ≤ 140737488351232 := by omega
      have i2 : (0 : Int) ≤ (r : Int) := by omega
      have i3 : (r : Int) < 3 := by omega
      obtain ⟨e4, e2, e3⟩ := rem3 hr
      obtain ⟨w7, hw7⟩ : ∃ w7, w7 = w6.alloc (.cells #[.string ⟨#[97]⟩, .string ⟨#[98]⟩, .string ⟨#[99]⟩] 9) := ⟨_, rfl⟩
      have hb67 : Below w6.heap.size w6 w7 := by rw [hw7]; exact (Below.refl _ _).alloc (Nat.le_refl _) _
      have hcr : w7.cell? ⟨w6.heap.size, r, none⟩ = some (.string (keyO r)) := by
        rw [hw7]
        exact key_cell w6 hr3
      have hb7 : Below wr.heap.size wr w7 := hb6.trans (hb67.mono hb6.size)
      have HL7 := Lib.hid (hl.below hK hb7)
      have HB7 := Lib.hid (hb.trans (hb7.mono hb.size))
      have HW7 := Lib.hid hw7
      have HCK := Lib.hid hck
      have HOV2 := Lib.hid hov2
      have HVS := Lib.hid hvs
      have HCR := Lib.hid hcr
      have HRR := Lib.hid hr
      obtain ⟨v, hv⟩ : ∃ v, valO k = v := ⟨_, rfl⟩
      rw [hv] at hcv HCK HOV2 HVS hv8
      obtain ⟨kk, hkk⟩ : ∃ kk, keyO r = kk := ⟨_, rfl⟩
      rw [hkk] at HCK HOV2 HCR
      have y0 := HCR.out
      clear hl hov hr6 hb6 hck hov2 hvs hw7 hb67 hcr hb7 hr hv hkk
      go_upto_region 10 with fail
      go_cut [54] from 45 to 54 (fun tv wx => tv = .bool false ∧ Hid (Live hP w1.heap.size gk gd (c + 8) (setP l kk v) wx) ∧ Below w1.heap.size w1 wx)
      case first =>
        rw [HW7.out] at y0
        go_wp2_with fail
        rw [← HW7.out]
        refine (live_put hK hE kk v HL7.out hc8 hv8).mono ?_
        rintro e w8 ⟨he, hl8, hb8⟩
        rw [HCK.out] at he hl8
        rw [if_pos rfl] at hl8
        subst he
        have HL8 := Lib.hid hl8
        have HB8 := Lib.hid (HB7.out.trans hb8)
        clear hl8 hb8
        go_wp2_with fail
        refine (num11_any _ _).mono ?_
        rintro e w' ⟨rfl, rfl⟩
        go_wp2_with fail
        go_meet
        exact ⟨rfl, HL8.out, HB8.out⟩
      case rest =>
      clear e2 e3 e4 y0 hcv hmk
      obtain ⟨rfl, HL8, hb8⟩ := hcut
      obtain ⟨t, ht⟩ : ∃ t, k % 40 = t := ⟨_, rfl⟩
      have HRN : Hid (∀ wr c', c' ≤ c + 16 → Live hP w1.heap.size gk gd c' (setP l kk v) wr → LoopO hP w1.heap.size gk gd (k + 1) wr) := fun wr c' h1 h2 => ⟨_, c', h2, HOV2.out, by omega⟩
      by_cases ht0 : t = 0
      · subst ht0
        have hc16 : c + 8 ≤ 800000 := by omega
        obtain ⟨e4, e2, e3⟩ := rem40 ht
        clear ht
        go_wp2_with fail
        refine (live_sync hK hE HL8.out hc16).mono ?_
        rintro e w9 ⟨rfl, hl9, hb9⟩
        have HL9 := Lib.hid (HRN.out _ _ (by clear e2 e3 e4; omega) hl9.live)
        have hb19 := hb8.trans hb9
        clear hl9 hb9
        go_wp2_with fail
        refine (num11_any _ _).mono ?_
        rintro e w' ⟨rfl, rfl⟩
        go_wp2_with fail
        clear e2 e3 e4
        go_roundw
        case rel => exact ⟨k + 1, by go_num, by omega, HL9.out, hb19⟩
        case measure => simp [intOf]; omega
      · have j1 : ((t : Int) == 0) = false := by simp; omega
        have j2 : ¬ ((t : Int) = 0) := by omega
        have HL9 := Lib.hid (HRN.out _ _ (by omega) HL8.out)
        obtain ⟨e4, e2, e3⟩ := rem40 ht
        clear ht
        go_wp2_with fail
        clear e2 e3 e4
        go_roundw
        case rel => exact ⟨k + 1, by go_num, by omega, HL9.out, hb8⟩
        case measure => simp [intOf]; omega
    · have i1 : ¬ ((k : Int) < (n : Int)) := by omega
      obtain rfl : k = n := by omega
      obtain ⟨l, c, hl, hov, hc⟩ := HLO.out
      have hn3 : 3 ≤ k := by omega
      have HG : Hid (∀ j, j < k → k ≤ j + 3 → getP l (keyO (j % 3)) = (valO j, 0)) := fun j h1 h2 => ov_get hov hn3 h1 h2
      have HKL := Lib.hid (ov_keys hov hn3)
      have HL := Lib.hid hl
      have hc8 : c ≤ 800000 := by omega
      clear hl hov HLO
      go_wp2_with fail
      refine (live_sync hK hE HL.out hc8).mono ?_
      rintro e w9 ⟨rfl, hl9, hb9⟩
      have HL9 := Lib.hid hl9
      have hb19 := hb.trans hb9
      clear hl9 hb9
      go_wp2_with fail
      refine (num11_any _ _).mono ?_
      rintro e w' ⟨rfl, rfl⟩
      go_wp2_with fail
      refine (live_again hK none 0 0 [] HL9.out rfl (Rd.nil _ _) (by omega) (by unfold maxLen; omega) (fun x hx => by simp at hx)).mono ?_
      rintro e w10 ⟨gd2, D2, rfl, hrd, hc0, hd10, hb10⟩
      have HRD := Lib.hid hrd
      have HC00 := Lib.hid hc0
      have HD10 := Lib.hid hd10
      have HB10 := Lib.hid hb10
      have hz10 := hb10.size
      clear hrd hc0 hd10 hb10
      go_wp2_with fail
      refine (live_open (hP := hP) hK hE HD10.out hz10 HRD.out HC00.out).mono ?_
      rintro e w11 ⟨gk2, rfl, hl11, hb11⟩
      have HL11 := Lib.hid hl11
      have hb911 := HB10.out.trans hb11
      have HLA := Lib.hid (HL9.out.live.below hK hb911)
      have hb111 := hb19.trans (hb911.mono HL9.out.live.lo)
      clear hl11 hb11 hb911
      go_wp2_with fail
      refine (num11_any _ _).mono ?_
      rintro e w' ⟨rfl, rfl⟩
      have s1 : IntKind.i64.wrap ((k : Int) - 3) = ((k - 3 : Nat) : Int) := by rw [IntKind.wrap_i64]; omega
      have HB111 := Lib.hid hb111
      clear hb111
      go_wp2_with fail
      clear s1
      go_loopw [10] (fun iv wr => ∃ j : Nat, iv = .int .i64 j ∧ k ≤ j + 3 ∧ j ≤ k ∧ Below w11.heap.size w11 wr) (fun iv _ => k - (intOf iv).toNat)
      case atStart => exact ⟨k - 3, rfl, by omega, by omega, Below.refl _ _⟩
      case round =>
        obtain ⟨j, rfl, hj3, hjk, hb⟩ := hrel
        have i0 : (0 : Int) ≤ (j : Int) := by omega
        by_cases hlt : j < k
        · have i1 : (j : Int) < (k : Int) := by omega
          have hg := HG.out j hlt hj3
          have hvs := valO_size j
          obtain ⟨r, hr⟩ : ∃ r, j % 3 = r := ⟨_, rfl⟩
          rw [hr] at hg
          have hr3 : r < 3 := by rw [← hr]; exact Nat.mod_lt _ (by decide)
          obtain ⟨v, hv⟩ : ∃ v, valO j = v := ⟨_, rfl⟩
          rw [hv] at hg hvs
          have e9 : (v.size : Int) = 3000 + (j : Int) := by omega
          have e8 : IntKind.i64.wrap (3000 + (j : Int)) = 3000 + (j : Int) := IntWalk.i64_in _ (by omega)
          obtain ⟨w12, hw12⟩ : ∃ w12, w12 = wr.alloc (.cells #[.string ⟨#[97]⟩, .string ⟨#[98]⟩, .string ⟨#[99]⟩] 9) := ⟨_, rfl⟩
          have hb12 : Below wr.heap.size wr w12 := by rw [hw12]; exact (Below.refl _ _).alloc (Nat.le_refl _) _
          have hcr := key_cell wr hr3
          obtain ⟨kk, hkk⟩ : ∃ kk, keyO r = kk := ⟨_, rfl⟩
          rw [hkk] at hg hcr
          have HGG := Lib.hid hg
          have hb112 := hb.trans (hb12.mono hb.size)
          have HW12 := Lib.hid hw12
          have HX12 := Lib.hid (HLA.out.below hK hb112)
          have HY12 := Lib.hid (HL11.out.below hK hb112)
          have HB112 := Lib.hid hb112
          have i2 : (0 : Int) ≤ (r : Int) := by omega
          have i3 : (r : Int) < 3 := by omega
          obtain ⟨e4, e2, e3⟩ := rem3 hr
          clear hg hv hw12 hb12 hb112 hkk hvs hr
          go_upto_region 23 with fail
          rw [← HW12.out]
          clear e2 e3 e4 hcr
          go_wp2_with fail
          refine (live_get hK kk HX12.out).mono ?_
          rintro e w13 ⟨he, hb13⟩
          rw [HGG.out] at he
          subst he
          have HB13 := Lib.hid hb13
          have HY13 := Lib.hid (HY12.out.below hK hb13)
          clear hb13
          go_wp2_with fail
          refine (live_get hK kk HY13.out).mono ?_
          rintro e w14 ⟨he, hb14⟩
          rw [HGG.out] at he
          subst he
          have hb1214 := HB13.out.trans (hb14.mono HB13.out.size)
          have hb1114 := HB112.out.trans (hb1214.mono HB112.out.size)
          clear hb14 hb1214
          go_wp2_with fail
          refine (num11_any _ _).mono ?_
          rintro e w' ⟨rfl, rfl⟩
          go_wp2_with fail
          refine (num11_any _ _).mono ?_
          rintro e w' ⟨rfl, rfl⟩
          go_wp2_with fail
          go_roundw
          case rel => exact ⟨j + 1, by go_num, by omega, by omega, hb1114⟩
          case measure => simp [intOf]; omega
        · have i1 : ¬ ((j : Int) < (k : Int)) := by omega
          have HY := Lib.hid (HL11.out.below hK hb)
          have hb1r := HB111.out.trans (hb.mono HB111.out.size)
          go_wp2_with fail
          refine (live_keys hK HY.out).mono ?_
          rintro e w13 ⟨v13, rfl, ho13, hb13⟩
          obtain ⟨A13, c13, rfl, _, _, _, _, _⟩ := own_val (own_cast ho13 ((strs_length _).trans HKL.out))
          have hb113 := hb1r.trans (hb13.mono hb1r.size)
          clear ho13 hb13
          go_wp2_with fail
          refine (HFIN.out _ hb113).mono ?_
          rintro e w99 ⟨rfl, hb99⟩
          go_wp2_with fail
          go_ret
          exact ⟨rfl, hb99⟩

end Go.Proofs.Ytaccmjgnggepjaa
