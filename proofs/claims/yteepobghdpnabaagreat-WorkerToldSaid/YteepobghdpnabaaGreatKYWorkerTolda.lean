/-
 Counting, of no program: how many unlike nodes are among some numbers.
-/
import Derived.Test.YteepobghdpnabaaGreatKDa
import Derived.Test.YteepobghdpnabaaGreatKBh
namespace Go.Proofs.YteepobghdpnabaaGreat
open Go.RowKit

theorem cnt_cut {p : Nat → Bool} {n : Nat} (h : ∀ j, n ≤ j → p j = false) : ∀ {m : Nat}, n ≤ m → cnt p m = cnt p n
  | 0, hm => by obtain rfl : n = 0 := by omega
                rfl
  | m + 1, hm => by
    rcases Nat.lt_or_ge n (m + 1) with h' | h'
    · rw [cnt, h m (by omega), cnt_cut h (m := m) (by omega)]; simp
    · obtain rfl : n = m + 1 := by omega
      rfl

end Go.Proofs.YteepobghdpnabaaGreat
namespace Go.Proofs.YteepobghdpnabaaGreat
open Go.RowKit

def SomeN (n : Nat) (w : World) (e : Ending) (w' : World) : Prop := ∃ k : Nat, k < n ∧ e = .returned (.int .i64 (k : Int)) ∧ w = w'
set_option maxHeartbeats 400000 in
theorem in_yes (A : Option Addr) (c n : Nat) (zs : List Int) (x : Int) (w : World) (hx : x ∈ zs) (hz : zs.length = n) (hr : Rd w A (i64s zs)) (hn : n ≤ 1073741824) :
    Calls Tryz.prog 75 #[.slice A n c, .int .i64 x] w (SomeN n w) := by
  have HZ := Lib.hid hz
  have HX := Lib.hid hx
  clear hz hx
  go_enter Tryz.func75, Tryz.ntmps75
  go_wp2
  go_loop [5] (fun i => ∃ k : Nat, i = .int .i64 k ∧ k ≤ n ∧ x ∉ zs.take k) (fun i => n - (intOf i).toNat)
  case atStart => exact ⟨0, rfl, by omega, by simp⟩
  case round =>
    obtain ⟨k, rfl, hk, hno⟩ := hrel
    have HNO := Lib.hid hno
    clear hno
    by_cases hlt : k < n
    · obtain ⟨b, off, rfl, hbl, hcell⟩ := hr.open_ (by rw [i64s_length, HZ.out]; omega)
      have hat := at_some (l := zs) (k := k) (by rw [HZ.out]; exact hlt)
      have hc1 := hcell k _ (i64s_at (by rw [HZ.out]; exact hlt))
      clear hcell
      obtain ⟨y, hy⟩ : ∃ y, y = zs[k]?.getD 0 := ⟨_, rfl⟩
      rw [← hy] at hc1 hat
      have HAT := Lib.hid hat
      clear hy hat
      have i0 : (0 : Int) ≤ (k : Int) := by omega
      have i1 : (k : Int) < (n : Int) := by omega
      by_cases he : y = x
      · subst he
        go_wp2
        go_ret
        exact ⟨k, hlt, rfl, rfl⟩
      · have j1 : (y == x) = false := by simp [he]
        have HE := Lib.hid he
        clear he
        go_wp2
        go_round
        case rel => exact ⟨k + 1, by go_num, by omega, by
          rw [take_one HAT.out]
          intro hm
          rcases List.mem_append.1 hm with hm | hm
          · exact HNO.out hm
          · exact HE.out (List.mem_singleton.1 hm).symm⟩
        case measure => simp [intOf]; omega
    · exact absurd HX.out (by
        have h := HNO.out
        rwa [List.take_of_length_le (by rw [HZ.out]; omega)] at h)

set_option maxHeartbeats 400000 in
theorem in_no (A : Option Addr) (c n : Nat) (zs : List Int) (x : Int) (w : World) (hx : x ∉ zs) (hz : zs.length = n) (hr : Rd w A (i64s zs)) (hn : n ≤ 1073741824) :
    Calls Tryz.prog 75 #[.slice A n c, .int .i64 x] w fun e w' => e = .returned (.int .i64 (-1)) ∧ w = w' := by
  have HZ := Lib.hid hz
  have HX := Lib.hid hx
  clear hz hx
  go_enter Tryz.func75, Tryz.ntmps75
  go_wp2
  go_loop [5] (fun i => ∃ k : Nat, i = .int .i64 k ∧ k ≤ n) (fun i => n - (intOf i).toNat)
  case atStart => exact ⟨0, rfl, by omega⟩
  case round =>
    obtain ⟨k, rfl, hk⟩ := hrel
    by_cases hlt : k < n
    · obtain ⟨b, off, rfl, hbl, hcell⟩ := hr.open_ (by rw [i64s_length, HZ.out]; omega)
      have hat := at_some (l := zs) (k := k) (by rw [HZ.out]; exact hlt)
      have hc1 := hcell k _ (i64s_at (by rw [HZ.out]; exact hlt))
      clear hcell
      obtain ⟨y, hy⟩ : ∃ y, y = zs[k]?.getD 0 := ⟨_, rfl⟩
      rw [← hy] at hc1 hat
      have hne : y ≠ x := fun e => HX.out (e ▸ List.mem_of_getElem? hat)
      clear hy hat
      have i0 : (0 : Int) ≤ (k : Int) := by omega
      have i1 : (k : Int) < (n : Int) := by omega
      have j1 : (y == x) = false := by simp [hne]
      clear hne
      go_wp2
      go_round
      case rel => exact ⟨k + 1, by go_num, by omega⟩
      case measure => simp [intOf]; omega
    · have i1 : ¬ ((k : Int) < (n : Int)) := by omega
      go_wp2
      go_ret
      exact ⟨rfl, rfl⟩

theorem seen_le {N : Int} {L : List Int} {i : Nat} (h1 : 1 ≤ i) (h2 : (i : Int) ≤ N) : seen N L i = decide ((i : Int) ∈ L) := by
 simp only [seen]
 rw [decide_eq_decide]
 exact ⟨fun h => h.2.2, fun h => ⟨by omega, h2, h⟩⟩

set_option maxHeartbeats 400000 in
theorem count_any (N : Int) (A : Option Addr) (c n : Nat) (zs : List Int) (w : World) (hN : 1 ≤ N) (hN2 : N ≤ 16) (hz : zs.length = n) (hr : Rd w A (i64s zs)) (hn : n ≤ 1073741824) :
    Calls Tryz.prog 118 #[.int .i64 N, .slice A n c] w fun e w' => e = .returned (.int .i64 (tal N zs : Int)) ∧ w = w' := by
  have HZ := Lib.hid hz
  clear hz
  have HE : Hid (∀ m : Nat, (m : Int) = N + 1 → (cnt (seen N zs) m : Int) = (tal N zs : Int)) := fun m hm => by
    congr 1
    refine (cnt_cut (p := seen N zs) (n := m) (fun j hj => ?_) (m := 17) (by omega)).symm
    simp only [seen, decide_eq_false_iff_not]
    omega
  have H1 : Hid (cnt (seen N zs) 1 = 0) := by
    show cnt (seen N zs) 1 = 0
    simp [cnt, seen]
  go_enter Tryz.func118, Tryz.ntmps118
  go_wp2
  go_loop [5, 6] (fun v i => ∃ k : Nat, i = .int .i64 k ∧ v = .int .i64 (cnt (seen N zs) k : Int) ∧ 1 ≤ k ∧ (k : Int) ≤ N + 1) (fun _ i => 17 - (intOf i).toNat)
  case atStart => exact ⟨1, rfl, by rw [H1.out]; rfl, by omega, by omega⟩
  case round =>
    obtain ⟨k, rfl, rfl, hk1, hk2⟩ := hrel
    have hcl := cnt_le (seen N zs) k
    by_cases hlt : (k : Int) ≤ N
    · have hup : cnt (seen N zs) (k + 1) = cnt (seen N zs) k + (if seen N zs k then 1 else 0) := rfl
      rw [seen_le hk1 hlt] at hup
      obtain ⟨t, ht⟩ : ∃ t, t = cnt (seen N zs) k := ⟨_, rfl⟩
      rw [← ht] at hup hcl
      rw [← ht]
      by_cases hm : (k : Int) ∈ zs
      · have hup2 : cnt (seen N zs) (k + 1) = t + 1 := by rw [hup]; simp [hm]
        have HU := Lib.hid hup2
        have HM := Lib.hid hm
        clear hup hup2 hm ht
        go_wp2_with (go_at_call 75; refine (in_yes A c n zs _ _ HM.out HZ.out hr hn).mono ?_; rintro e w' ⟨m, hm, rfl, rfl⟩)
        go_round
        case rel => exact ⟨k + 1, by go_num, by rw [HU.out]; go_num, by omega, by omega⟩
        case measure => simp [intOf]; omega
      · have hup2 : cnt (seen N zs) (k + 1) = t := by rw [hup]; simp [hm]
        have HU := Lib.hid hup2
        have HM := Lib.hid hm
        clear hup hup2 hm ht
        go_wp2_with (go_at_call 75; refine (in_no A c n zs _ _ HM.out HZ.out hr hn).mono ?_; rintro e w' ⟨rfl, rfl⟩)
        go_round
        case rel => exact ⟨k + 1, by go_num, by rw [HU.out], by omega, by omega⟩
        case measure => simp [intOf]; omega
    · have HE2 := Lib.hid (HE.out k (by omega))
      go_wp2
      go_ret
      exact ⟨ret_int HE2.out, rfl⟩

end Go.Proofs.YteepobghdpnabaaGreat
namespace Go.Proofs.YteepobghdpnabaaGreat
open Go.RowKit

/-! ### where a number stands in a rising list -/
theorem riseI_risB {l : List Int} : risB l = true ↔ RiseI l := ⟨fun h => riseI_of (risB_iff.1 h), fun h => risB_iff.2 fun i x y hx hy => h i (i + 1) x y (by omega) hx hy⟩
/-! ### a worker that may be -/
/-! ### what is done -/
end Go.Proofs.YteepobghdpnabaaGreat
namespace Go.Proofs.YteepobghdpnabaaGreat
open Go.RowKit

def putInI (xs us : List Value) (i : Nat) : List Value := xs.take (i) ++ us ++ xs.drop (i)

set_option maxRecDepth 100000 in
set_option maxHeartbeats 8000000 in
theorem insert_roomI (B g cap n i gx : Nat) (xs us : List Value) (w : World) (h : w.ownsRow B 3 1 (.slice (some ⟨g, 0, none⟩) n cap) n xs) (hi : i < n) (hroom : n + 1 ≤ cap) (hn : n ≤ 1000000) (h1 : ∀ v ∈ xs, v.oneCell' = true)
    (hu : us.length = 1) (hgx : w.heap[gx]? = some (.cells us.toArray 3 (0, 0))) (hu1 : ∀ v ∈ us, v.oneCell' = true) (hne : gx ≠ g) :
    Calls Tryz.prog 139 #[.slice (some ⟨g, 0, none⟩) n cap, .int .i64 i, .slice (some ⟨gx, 0, none⟩) 1 1] w fun e w' =>
      e = .returned (.slice (some ⟨g, 0, none⟩) (n + 1) cap) ∧ w'.ownsRow B 3 1 (.slice (some ⟨g, 0, none⟩) (n + 1) cap) (n + 1) (putInI xs us i) ∧ w.grownBy w' (some g) := by
  obtain ⟨cur, hg, hb, hnc, hcm, hcs, hx⟩ := row_open h
  simp only [Nat.mul_one] at hcs hx
  obtain ⟨i0, hi0, hz0, hz1, hz2⟩ := info_parts info_zint
  have HCM := Lib.hid hcm
  unfold maxLen at hcm
  have hgd : w.drew.heap[g]? = some (.cells cur 3 (0, 0)) := hg
  -- slices.overlaps
  have hov : ∀ lb cb, (callFunc 155 #[.slice (some ⟨gx, 0, none⟩) 1 1, .slice (some ⟨g, (i + 1), none⟩) lb cb]).run Tryz.prog w = .ok (.value (.bool false)) w := fun lb cb => by
    rw [run_callFunc_extern Tryz.func155 (by kernel_rfl) (by kernel_rfl) (by kernel_rfl) (e := Extern.SlicesOverlaps.overlaps #[25, 25] #[4]) (by kernel_rfl),
      Lib.run_overlaps_apart w 25 4 3 Tryz.underlying25 1 Tryz.sizeOf3 ⟨gx, 0, none⟩ ⟨g, (i + 1), none⟩ 1 1 lb cb hne 3 3 1 cur.size (by unfold World.shape?; rw [hgx]; simp [hu]) (by unfold World.shape?; rw [hg]) (by omega) (frozen_of_row _ _ _ _ _ hgx) (frozen_of_row _ _ _ _ _ hgx)]
    rfl
  -- what stood from i on goes up
  obtain ⟨cs1, hcs1⟩ : ∃ cs1, cs1 = (cur.toList.drop (i)).take ((n - i)) := ⟨_, rfl⟩
  have hlen : cs1.length = (n - i) := by rw [hcs1]; simp; omega
  obtain ⟨cur1, hcur1⟩ : ∃ cur1, cur1 = over cur ((i + 1)) cs1 := ⟨_, rfl⟩
  obtain ⟨w1, hw1⟩ : ∃ w1, w1 = w.drew.setRow g cur1 := ⟨_, rfl⟩
  have hsz1 : cur1.size = cur.size := by rw [hcur1]; exact over_size (by omega)
  have hg1 : w1.heap[g]? = some (.cells cur1 3 (0, 0)) := by rw [hw1, hcur1]; exact row_over _ hgd _ _
  have hgx1 : w1.heap[gx]? = some (.cells us.toArray 3 (0, 0)) := by rw [hw1, setRow_other _ _ _ _ hne]; exact hgx
  have hcp1 : ∀ ty dc sc, (Builtin.copy_ #[25, 25] ty #[.slice (some ⟨g, (i + 1), none⟩) (n - i) dc, .slice (some ⟨g, i, none⟩) (n + 1 - i) sc]).run Tryz.prog w.drew = .ok (goInt (n - i : Nat)) w1 := by
    intro ty dc sc
    have := run_copy_in (P := Tryz.prog) w.drew (t := 25) (ty := ty) Tryz.underlying25 hi0 hgd (o := (i + 1)) (D := some ⟨g, (i + 1), none⟩) (A := some ⟨g, i, none⟩) (dn := n - i) (dc := dc) (k := n + 1 - i) (kc := sc) (m := n - i) (cs := cs1)
      (by simp only [Nat.min_def]; split <;> omega) (by rw [hz1, Nat.mul_one]; exact hlen) (fun _ => ⟨rfl, _, rfl, by rw [hcs1]; exact cells_part hgd _ _⟩) (by rw [hz1]; omega) (by rw [hcs1]; exact one_part_in hx h1 (by omega))
    rw [← hcur1, ← hw1] at this
    exact this
  obtain ⟨cur2, hcur2⟩ : ∃ cur2, cur2 = over cur1 (i) us := ⟨_, rfl⟩
  obtain ⟨w2, hw2⟩ : ∃ w2, w2 = w1.setRow g cur2 := ⟨_, rfl⟩
  have hcp2 : ∀ ty dc, (Builtin.copy_ #[25, 25] ty #[.slice (some ⟨g, i, none⟩) (n + 1 - i) dc, .slice (some ⟨gx, 0, none⟩) 1 1]).run Tryz.prog w1 = .ok (goInt (1 : Nat)) w2 := by
    intro ty dc
    have := run_copy_in (P := Tryz.prog) w1 (t := 25) (ty := ty) Tryz.underlying25 hi0 hg1 (o := i) (D := some ⟨g, i, none⟩) (A := some ⟨gx, 0, none⟩) (dn := n + 1 - i) (dc := dc) (k := 1) (kc := 1) (m := 1) (cs := us)
      (by simp only [Nat.min_def]; split <;> omega) (by rw [hz1]; omega) (fun _ => ⟨rfl, _, rfl, fun j v hj => by rw [Addr.add_lit, cell_of_row _ _ _ _ _ _ hgx1]; simpa using hj⟩) (by rw [hz1]; omega) hu1
    rw [← hcur2, ← hw2] at this
    exact this
  have hres : w2.ownsRow B 3 1 (.slice (some ⟨g, 0, none⟩) (n + 1) cap) (n + 1) (putInI xs us i) ∧ w.grownBy w2 (some g) := by
    refine ⟨row_shut (cur := cur2) ?_ hb (by omega) HCM.out ?_ ?_, ?_⟩
    · rw [hw2, hcur2]; exact row_over _ hg1 _ _
    · rw [hcur2, over_size (by omega), hsz1, hcs, Nat.mul_one]
    · have hcl : cur.toList.length = cap := by rw [Array.length_toList, hcs]
      rw [Nat.mul_one, hcur2, over_list, hcur1, over_list, hcs1, hu, putInI, ← hx]
      apply List.ext_getElem?
      intro j
      simp only [List.getElem?_take, List.getElem?_append, List.length_append, List.length_take, List.length_drop, List.getElem?_drop, hcl, hu]
      rcases Nat.lt_or_ge j ((n + 1)) with hj | hj
      · rw [if_pos hj]
        rcases Nat.lt_or_ge j (i) with h2 | h2
        · repeat' split
          all_goals first | rfl | (exfalso; omega)
        · rcases Nat.lt_or_ge j (i + 1) with h3 | h3
          · repeat' split
            all_goals first | rfl | (exfalso; omega) | (congr 1; omega)
          · repeat' split
            all_goals first | rfl | (exfalso; omega) | (congr 1; omega)
      · rw [if_neg (by omega)]
        repeat' split
        all_goals first | rfl | (exfalso; omega) | (symm; apply List.getElem?_eq_none; omega)
    · rw [hw2, hw1]
      exact grown_trans (w' := w.drew.setRow g cur1) (grown_trans (w' := w.drew) ⟨rfl, rfl, rfl, Nat.le_refl _, fun _ _ _ => rfl⟩ (setRow_grown w.drew g cur1)) (setRow_grown _ g cur2)
  have HV := Lib.hid hov
  have H1 := Lib.hid hcp1
  have H2 := Lib.hid hcp2
  have HS := Lib.hid hres
  clear hov hcp1 hcp2 hres hsz1 hcs hlen hz0 hz1 hz2 hi0 h1 hcur1 hcs1 hx hw1 hw2 hcur2 h hg hgd hg1 hgx hgx1 hu hu1
  have e1 : (0 : Int) ≤ (i : Int) := by omega
  have e2 : (i : Int) ≤ (n : Int) := by omega
  have e3 : ¬ ((i : Int) = (n : Int)) := by omega
  have e4 : ¬ ((cap : Int) < (n : Int) + 1) := by omega
  have e6 : ((i : Int) + 1).toNat = i + 1 := by omega
  have e7 : (0 : Int) ≤ (i : Int) + 1 := by omega
  have e8 : (i : Int) + 1 ≤ (n : Int) + 1 := by omega
  have e9 : (i : Int) ≤ (n : Int) + 1 := by omega
  have f1 : ¬ (cap = i) := by omega
  have f2 : ¬ (cap = i + 1) := by omega
  have f3 : (n : Int) + 1 ≤ (cap : Int) := by omega
  have f4 : i ≤ n + 1 := by omega
  have f5 : ((n : Int) + 1).toNat = n + 1 := by omega
  have f6 : n + 1 ≤ cap := hroom
  have f7 : i + 1 ≤ n + 1 := by omega
  have f8 : i ≤ n := by omega
  have hov := HV.out
  go_enter Tryz.func139, Tryz.ntmps139
  go_wp2
  clear hov
  have g1 : IntKind.i64.wrap ((i : Int) + 1) = (i : Int) + 1 := IntWalk.i64_in _ (by omega)
  go_still_tail 8, (by kernel_rfl)
  change wpList _ _ _ _ _ w.drew
  go_wp2_with (first | refine wpList_copy_run (o := ⟨some 77, _, _, _, _, _⟩) _ rfl (.tmp 73) (.tmp 76) 25 25 rfl rfl rfl (H1.out _ _ _) ?_ | refine wpList_copy_run (o := ⟨some 82, _, _, _, _, _⟩) _ rfl (.tmp 80) (.tmp 81) 25 25 rfl rfl rfl (H2.out _ _) ?_)
  go_ret
  exact ⟨rfl, HS.out⟩

end Go.Proofs.YteepobghdpnabaaGreat
