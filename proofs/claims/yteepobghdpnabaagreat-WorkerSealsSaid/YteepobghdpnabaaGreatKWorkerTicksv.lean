/-
  slices.Insert of one element into a row of held batches that has no room; at its end; any.
-/
import Derived.Test.YteepobghdpnabaaGreatKWorkerTicksi
import Derived.Test.YteepobghdpnabaaGreatKWorkerTicksh
import Derived.Test.YteepobghdpnabaaGreatKWorkerTicksj
import Derived.Test.YteepobghdpnabaaGreatKWorkerTicksg
namespace Go.Proofs.YteepobghdpnabaaGreat
open Go.RowKit

set_option maxHeartbeats 4000000 in
theorem grow_factsH (B g n i gx : Nat) (xs us : List Value) (w : World) (h : w.ownsRow B 70 4 (.slice (some ⟨g, 0, none⟩) n n) n xs) (hB : B ≤ w.heap.size) (hi : i < n) (hn : n ≤ 1000000) (h1 : ∀ v ∈ xs, v.oneCell' = true)
    (hu : us.length = 4) (hgx : w.heap[gx]? = some (.cells us.toArray 70 (0, 0))) (hu1 : ∀ v ∈ us, v.oneCell' = true) :
    ∃ (G : Nat) (w1 w2 w3 : World), n + 1 ≤ G ∧ G ≤ maxLen ∧
      (∀ ty, (Builtin.append_ #[24, 3] ty #[.slice (some ⟨g, 0, none⟩) i n, .int .i64 ((n : Int) + 1 - (i : Int))]).run Tryz.prog w = .ok (.slice (some ⟨w.heap.size, 0, none⟩) (n + 1) G) w1) ∧
      (∀ ty dc, (Builtin.copy_ #[24, 24] ty #[.slice (some ⟨w.heap.size, i * 4, none⟩) (n + 1 - i) dc, .slice (some ⟨gx, 0, none⟩) 1 1]).run Tryz.prog w1 = .ok (goInt (1 : Nat)) w2) ∧
      (∀ ty dc sc, (Builtin.copy_ #[24, 24] ty #[.slice (some ⟨w.heap.size, (i + 1) * 4, none⟩) (n - i) dc, .slice (some ⟨g, i * 4, none⟩) (n - i) sc]).run Tryz.prog w2.drew = .ok (goInt (n - i : Nat)) w3) ∧
      w3.ownsRow B 70 4 (.slice (some ⟨w.heap.size, 0, none⟩) (n + 1) G) (n + 1) (putInH xs us i) ∧ w.grownBy w3 none := by
  obtain ⟨cur, hg, hb, hnc, hcm, hcs, hx⟩ := row_open h
  obtain ⟨i0, hi0, hz0, hz1, hz2⟩ := info_parts info_zheld
  have hgl : g < w.heap.size := (Array.getElem?_eq_some_iff.1 hg).1
  have hgxl : gx < w.heap.size := (Array.getElem?_eq_some_iff.1 hgx).1
  have hgd : w.drew.heap[g]? = some (.cells cur 70 (0, 0)) := hg
  have hcl : cur.toList.length = n * 4 := by rw [Array.length_toList, hcs]
  have hcur1 : ∀ v ∈ cur.toList, v.oneCell' = true := fun v hv => h1 v (by rw [← hx, List.take_of_length_le (by omega)]; exact hv)
  have hold : (Builtin.firstCells i0.size i (.slice (some ⟨g, 0, none⟩) i n)).run Tryz.prog w.drew = .ok (cur.toList.take (i * 4)).toArray w.drew := by
    have := run_loadCells_list (P := Tryz.prog) w.drew ⟨g, 0, none⟩ ((cur.toList.drop 0).take (i * 4)) (cells_part hgd 0 (i * 4))
    simp only [List.drop_zero] at this
    have hl : (cur.toList.take (i * 4)).length = i * 4 := by rw [List.length_take]; omega
    rw [hl] at this
    simp only [Builtin.firstCells, hz1]
    exact this
  have hap : ∀ ty, (Builtin.append_ #[24, 3] ty #[.slice (some ⟨g, 0, none⟩) i n, .int .i64 ((n : Int) + 1 - (i : Int))]).run Tryz.prog w = .ok (.slice (some ⟨w.heap.size, 0, none⟩) (n + 1) (grownCap w (n + 1) n 70)) (w.drew.alloc (.cells ((cur.toList.take (i * 4)).toArray ++ Builtin.zeroCells zheld.cells (n + 1 - i) ++ Builtin.zeroCells zheld.cells (grownCap w (n + 1) n 70 - (n + 1))) 70)) := fun ty => by
    have := Lib.run_append_grow_zeros (P := Tryz.prog) w 24 3 ty 70 i0 _ .i64 .i64 Tryz.underlying24 Tryz.underlying3 hi0 hz0 (some ⟨g, 0, none⟩) i n (cur.toList.take (i * 4)) hold (n + 1 - i) (by omega) (by omega) (by omega) (by omega) (by rw [hz2]; omega) (by rw [hz2, show i + (n + 1 - i) = n + 1 by omega]; exact growslice_fits (by omega) (by omega))
    rw [show i + (n + 1 - i) = n + 1 by omega] at this
    rw [show ((n : Int) + 1 - (i : Int)) = ((n + 1 - i : Nat) : Int) by omega]
    exact this
  obtain ⟨G, hG⟩ : ∃ G, G = grownCap w (n + 1) n 70 := ⟨_, rfl⟩
  rw [← hG] at hap
  have hGn : n + 1 ≤ G := by rw [hG]; exact grownCap_ge w _ _ _
  have hGm : G ≤ maxLen := by rw [hG]; exact grownCap_le_maxLen w _ _ _ (by unfold maxLen; omega)
  obtain ⟨row, hrow⟩ : ∃ row : Array Value, row = (cur.toList.take (i * 4)).toArray ++ Builtin.zeroCells zheld.cells (n + 1 - i) ++ Builtin.zeroCells zheld.cells (G - (n + 1)) := ⟨_, rfl⟩
  rw [← hrow] at hap
  have hzc : zheld.cells.size = 4 := rfl
  have hrs : row.size = G * 4 := by
    rw [hrow]
    simp only [Array.size_append, size_zeroCells, hzc, List.size_toArray, List.length_take, hcl]
    omega
  have hrl : row.toList.length = G * 4 := by rw [Array.length_toList, hrs]
  have hr0 : row.toList.take (i * 4) = cur.toList.take (i * 4) := by
    rw [hrow]
    simp only [Array.toList_append, List.append_assoc]
    rw [List.take_append_of_le_length (by simp; omega), List.take_take, Nat.min_self]
  have hap2 : ∃ w1, (∀ ty, (Builtin.append_ #[24, 3] ty #[.slice (some ⟨g, 0, none⟩) i n, .int .i64 ((n : Int) + 1 - (i : Int))]).run Tryz.prog w = .ok (.slice (some ⟨w.heap.size, 0, none⟩) (n + 1) G) w1) ∧ w1 = w.drew.alloc (.cells row 70) := ⟨_, hap, rfl⟩
  obtain ⟨w1, hap1, hw1⟩ := hap2
  have hN1 : w1.heap[w.heap.size]? = some (.cells row 70 (0, 0)) := by rw [hw1]; exact heap_alloc_new w.drew _
  have hold1 : ∀ k, k < w.heap.size → w1.heap[k]? = w.heap[k]? := fun k hk => by rw [hw1]; exact (World.grownBy_alloc w.drew _ none).block k hk (by simp)
  have hs1 : w1.heap.size = w.heap.size + 1 := by rw [hw1]; simp
  obtain ⟨row2, hrow2⟩ : ∃ row2, row2 = over row (i * 4) us := ⟨_, rfl⟩
  obtain ⟨w2, hw2⟩ : ∃ w2, w2 = w1.setRow w.heap.size row2 := ⟨_, rfl⟩
  have hr2s : row2.size = row.size := by rw [hrow2]; exact over_size (by omega)
  have hN2 : w2.heap[w.heap.size]? = some (.cells row2 70 (0, 0)) := by rw [hw2, hrow2]; exact row_over _ hN1 _ _
  have hold2 : ∀ k, k < w.heap.size → w2.heap[k]? = w.heap[k]? := fun k hk => by rw [hw2, setRow_other _ _ _ _ (by omega)]; exact hold1 k hk
  have hN2d : w2.drew.heap[w.heap.size]? = some (.cells row2 70 (0, 0)) := hN2
  have hg2 : w2.drew.heap[g]? = some (.cells cur 70 (0, 0)) := by show w2.heap[g]? = _; rw [hold2 g hgl]; exact hg
  have hcp1 : ∀ ty dc, (Builtin.copy_ #[24, 24] ty #[.slice (some ⟨w.heap.size, i * 4, none⟩) (n + 1 - i) dc, .slice (some ⟨gx, 0, none⟩) 1 1]).run Tryz.prog w1 = .ok (goInt (1 : Nat)) w2 := by
    intro ty dc
    have := run_copy_in (P := Tryz.prog) w1 (t := 24) (ty := ty) Tryz.underlying24 hi0 hN1 (o := i * 4) (D := some ⟨w.heap.size, i * 4, none⟩) (A := some ⟨gx, 0, none⟩) (dn := n + 1 - i) (dc := dc) (k := 1) (kc := 1) (m := 1) (cs := us)
      (by simp only [Nat.min_def]; split <;> omega) (by rw [hz1]; omega) (fun _ => ⟨rfl, _, rfl, fun j v hj => by rw [Addr.add_lit, cell_of_row _ _ _ us.toArray 70 (0, 0) (by rw [hold1 gx hgxl]; exact hgx)]; simpa using hj⟩) (by rw [hz1, hrs]; omega) hu1
    rw [← hrow2, ← hw2] at this
    exact this
  obtain ⟨cs1, hcs1⟩ : ∃ cs1, cs1 = (cur.toList.drop (i * 4)).take ((n - i) * 4) := ⟨_, rfl⟩
  have hlen : cs1.length = (n - i) * 4 := by rw [hcs1]; simp; omega
  obtain ⟨row3, hrow3⟩ : ∃ row3, row3 = over row2 ((i + 1) * 4) cs1 := ⟨_, rfl⟩
  obtain ⟨w3, hw3⟩ : ∃ w3, w3 = w2.drew.setRow w.heap.size row3 := ⟨_, rfl⟩
  have hcp2 : ∀ ty dc sc, (Builtin.copy_ #[24, 24] ty #[.slice (some ⟨w.heap.size, (i + 1) * 4, none⟩) (n - i) dc, .slice (some ⟨g, i * 4, none⟩) (n - i) sc]).run Tryz.prog w2.drew = .ok (goInt (n - i : Nat)) w3 := by
    intro ty dc sc
    have := run_copy_in (P := Tryz.prog) w2.drew (t := 24) (ty := ty) Tryz.underlying24 hi0 hN2d (o := (i + 1) * 4) (D := some ⟨w.heap.size, (i + 1) * 4, none⟩) (A := some ⟨g, i * 4, none⟩) (dn := n - i) (dc := dc) (k := n - i) (kc := sc) (m := n - i) (cs := cs1)
      (by simp only [Nat.min_def]; split <;> omega) (by rw [hz1]; exact hlen) (fun _ => ⟨rfl, _, rfl, by rw [hcs1]; exact cells_part hg2 _ _⟩) (by rw [hz1, hr2s, hrs]; omega) (by rw [hcs1]; exact one_part hcur1)
    rw [← hrow3, ← hw3] at this
    exact this
  refine ⟨G, w1, w2, w3, hGn, hGm, hap1, hcp1, hcp2, ?_, ?_⟩
  · refine row_shut (cur := row3) (by rw [hw3, hrow3]; exact row_over _ hN2d _ _) hB hGn hGm (by rw [hrow3, over_size (by rw [hr2s, hrs]; omega), hr2s, hrs]) ?_
    have hr2l : row2.toList.length = G * 4 := by rw [Array.length_toList, hr2s, hrs]
    have htk : row2.toList.take ((i + 1) * 4) = xs.take (i * 4) ++ us := by
      have hxl : xs.length = n * 4 := by rw [← hx, List.length_take]; omega
      have hA : row.toList.take (i * 4) = xs.take (i * 4) := by rw [hr0, ← hx, List.take_take, Nat.min_eq_left (by omega : i * 4 ≤ n * 4)]
      have l1 : (xs.take (i * 4) ++ us).length = (i + 1) * 4 := by rw [List.length_append, List.length_take, hxl, hu]; omega
      rw [hrow2, over_list, hA, List.take_append_of_le_length (by omega), List.take_of_length_le (by omega)]
    have hxl : xs.length = n * 4 := by rw [← hx, List.length_take]; omega
    have l1 : (xs.take (i * 4) ++ us).length = (i + 1) * 4 := by rw [List.length_append, List.length_take, hxl, hu]; omega
    have l2 : (xs.take (i * 4) ++ us ++ cs1).length = (n + 1) * 4 := by rw [List.length_append, l1, hlen]; omega
    rw [hrow3, over_list, htk, putInH, List.take_append_of_le_length (by omega), List.take_of_length_le (by omega), hcs1, ← hx, List.drop_take, show (n - i) * 4 = n * 4 - i * 4 by omega]
  · rw [hw3]
    refine ⟨by rw [setRow_os]; show w2.os = _; rw [hw2, setRow_os, hw1]; rfl, by rw [setRow_tape]; show w2.tape = _; rw [hw2, setRow_tape, hw1]; rfl, by rw [setRow_output]; show w2.output = _; rw [hw2, setRow_output, hw1]; rfl, by rw [setRow_size]; show _ ≤ w2.heap.size; rw [hw2, setRow_size, hs1]; omega, fun k hk _ => by rw [setRow_other _ _ _ _ (by omega)]; exact hold2 k hk⟩

end Go.Proofs.YteepobghdpnabaaGreat
namespace Go.Proofs.YteepobghdpnabaaGreat
open Go.RowKit

set_option maxRecDepth 100000 in
set_option maxHeartbeats 8000000 in
theorem insert_growH (B g n i gx : Nat) (xs us : List Value) (w : World) (h : w.ownsRow B 70 4 (.slice (some ⟨g, 0, none⟩) n n) n xs) (hB : B ≤ w.heap.size) (hi : i < n) (hn : n ≤ 1000000) (h1 : ∀ v ∈ xs, v.oneCell' = true)
    (hu : us.length = 4) (hgx : w.heap[gx]? = some (.cells us.toArray 70 (0, 0))) (hu1 : ∀ v ∈ us, v.oneCell' = true) :
    Calls Tryz.prog 126 #[.slice (some ⟨g, 0, none⟩) n n, .int .i64 i, .slice (some ⟨gx, 0, none⟩) 1 1] w fun e w' =>
      ∃ G, e = .returned (.slice (some ⟨w.heap.size, 0, none⟩) (n + 1) G) ∧ w'.ownsRow B 70 4 (.slice (some ⟨w.heap.size, 0, none⟩) (n + 1) G) (n + 1) (putInH xs us i) ∧ w.grownBy w' none := by
  obtain ⟨G, w1, w2, w3, hG1, hG2, hap, hcp1, hcp2, hown, hgr⟩ := grow_factsH B g n i gx xs us w h hB hi hn h1 hu hgx hu1
  have HA := Lib.hid hap
  have H1 := Lib.hid hcp1
  have H2 := Lib.hid hcp2
  have HO := Lib.hid hown
  unfold maxLen at hG2
  clear hap hcp1 hcp2 hown h hgx hu hu1 h1 hB
  obtain ⟨N, hN⟩ : ∃ N, N = w.heap.size := ⟨_, rfl⟩
  rw [← hN] at HA H1 H2 HO ⊢
  clear hN
  have e1 : (0 : Int) ≤ (i : Int) := by omega
  have e2 : (i : Int) ≤ (n : Int) := by omega
  have e3 : ¬ ((i : Int) = (n : Int)) := by omega
  have e4 : (n : Int) < (n : Int) + 1 := by omega
  have e6 : ((i : Int) + 1).toNat = i + 1 := by omega
  have e7 : (0 : Int) ≤ (i : Int) + 1 := by omega
  have e8 : (i : Int) + 1 ≤ (n : Int) + 1 := by omega
  have e9 : (i : Int) ≤ (n : Int) + 1 := by omega
  have f1 : ¬ (n = i) := by omega
  have f2 : ¬ (G = i) := by omega
  have f3 : ¬ (G = i + 1) := by omega
  have f4 : i ≤ n + 1 := by omega
  have f5 : ((n : Int) + 1).toNat = n + 1 := by omega
  have f7 : i + 1 ≤ n + 1 := by omega
  have f8 : i ≤ n := by omega
  go_enter Tryz.func126, Tryz.ntmps126
  go_wp2_with (first | (at_builtin; refine wpList_app_run (o := ⟨some 40, _, _, _, _, _⟩) _ rfl (.tmp 34) (.tmp 39) 24 3 rfl rfl rfl (HA.out _) ?_) | refine wpList_copy_run (o := ⟨some 45, _, _, _, _, _⟩) _ rfl (.tmp 43) (.tmp 44) 24 24 rfl rfl rfl (H1.out _ _) ?_)
  have g1 : IntKind.i64.wrap ((i : Int) + 1) = (i : Int) + 1 := IntWalk.i64_in _ (by omega)
  go_still_tail 8, (by kernel_rfl)
  change wpList _ _ _ _ _ w2.drew
  go_wp2_with (first | refine wpList_copy_run (o := ⟨some 54, _, _, _, _, _⟩) _ rfl (.tmp 50) (.tmp 53) 24 24 rfl rfl rfl (H2.out _ _ _) ?_)
  go_ret
  exact ⟨G, rfl, HO.out, hgr⟩

end Go.Proofs.YteepobghdpnabaaGreat
namespace Go.Proofs.YteepobghdpnabaaGreat
open Go.RowKit

set_option maxRecDepth 100000 in
set_option maxHeartbeats 4000000 in
theorem insert_endH (B gx n : Nat) (v : Value) (xs us : List Value) (w : World) (h : w.ownsRow B 70 4 v n xs) (hB : B ≤ w.heap.size) (hn : n ≤ 1000000)
    (hu : us.length = 4) (hgx : w.heap[gx]? = some (.cells us.toArray 70 (0, 0))) (hu1 : ∀ v ∈ us, v.oneCell' = true) :
    Calls Tryz.prog 126 #[v, .int .i64 n, .slice (some ⟨gx, 0, none⟩) 1 1] w fun e w' =>
      ∃ g' c', e = .returned (.slice (some ⟨g', 0, none⟩) (n + 1) c') ∧ w'.ownsRow B 70 4 (.slice (some ⟨g', 0, none⟩) (n + 1) c') (n + 1) (xs ++ us) ∧ w.grownBy w' v.ownBlock ∧ (v.ownBlock = some g' ∨ g' = w.heap.size) := by
  obtain ⟨i0, hi0, hz0, hz1, hz2⟩ := info_parts info_zheld
  have hcell : ∀ j y, us[j]? = some y → w.cell? ((⟨gx, 0, none⟩ : Addr).add j) = some y := fun j y hj => by
    rw [Addr.add_lit, cell_of_row _ _ _ _ _ _ hgx]; simpa using hj
  have HU := Lib.hid hcell
  have HL := Lib.hid hu
  have HO := Lib.hid hu1
  clear hcell hu hgx hu1
  have hown := h
  obtain ⟨A, c, rfl, hnc, hcm, _, _, hxl⟩ := ownS_slice h
  have HX := Lib.hid hxl
  have HW := Lib.hid hown
  clear h hown hxl
  unfold maxLen at hcm
  have e1 : (0 : Int) ≤ (n : Int) := by omega
  by_cases hc : c = n
  all_goals rcases A with _ | A
  all_goals
    go_enter Tryz.func126, Tryz.ntmps126
    go_wp2_with (at_builtin; refine wpList_append_lies (o := ⟨some 25, _, _, _, _, _⟩) _ rfl (.tmp 23) (.tmp 24) 24 rfl B 70 i0 zheld 4 48 Tryz.underlying24 hi0 hz0 hz1 hz2 rfl (by decide) (.slice _ n c) n xs rfl HW.out ⟨gx, 0, none⟩ 1 1 us rfl HL.out HU.out HO.out (by decide) (by unfold maxLen; omega) (by omega) hB _ rfl ?_)
    intro g' c' w' k1 k2 k3 k4
    go_wp2
    go_ret
    exact ⟨g', c', rfl, k1, k2, k3⟩

end Go.Proofs.YteepobghdpnabaaGreat
namespace Go.Proofs.YteepobghdpnabaaGreat
open Go.RowKit

theorem putIn_endH {xs us : List Value} {n : Nat} (h : xs.length = n * 4) : putInH xs us n = xs ++ us := by
  rw [putInH, List.take_of_length_le (by omega), List.drop_of_length_le (by omega), List.append_nil]

theorem insert_anyH (B gx n i : Nat) (v : Value) (xs us : List Value) (w : World) (h : w.ownsRow B 70 4 v n xs) (hB : B ≤ w.heap.size) (hi : i ≤ n) (hn : n ≤ 1000000) (h1 : ∀ v ∈ xs, v.oneCell' = true)
    (hu : us.length = 4) (hgx : w.heap[gx]? = some (.cells us.toArray 70 (0, 0))) (hu1 : ∀ v ∈ us, v.oneCell' = true) (hne : v.ownBlock ≠ some gx) :
    Calls Tryz.prog 126 #[v, .int .i64 i, .slice (some ⟨gx, 0, none⟩) 1 1] w fun e w' =>
      ∃ v', e = .returned v' ∧ w'.ownsRow B 70 4 v' (n + 1) (putInH xs us i) ∧ w.grownBy w' v.ownBlock ∧ (v'.ownBlock = v.ownBlock ∨ v'.ownBlock = some w.heap.size) := by
  rcases Nat.lt_or_ge i n with hlt | hge
  · rcases h.2 with ⟨rfl, h0⟩ | ⟨g, cap, cur, rfl, hb, hg, hnc, hcm, hcs, ht⟩
    · omega
    · have hgg : gx ≠ g := fun e => hne (by rw [e]; rfl)
      rcases Nat.lt_or_ge n cap with hroom | hfull
      · refine (insert_roomH B g cap n i gx xs us w h hlt (by omega) hn h1 hu hgx hu1 hgg).mono ?_
        rintro e w' ⟨rfl, h2, h3⟩
        exact ⟨_, rfl, h2, h3, .inl rfl⟩
      · obtain rfl : cap = n := by omega
        refine (insert_growH B g cap i gx xs us w h hB hlt hn h1 hu hgx hu1).mono ?_
        rintro e w' ⟨G, rfl, h2, h3⟩
        exact ⟨_, rfl, h2, ⟨h3.os, h3.tape, h3.output, h3.size, fun k hk _ => h3.block k hk (by simp)⟩, .inr rfl⟩
  · obtain rfl : i = n := by omega
    refine (insert_endH B gx i v xs us w h hB hn hu hgx hu1).mono ?_
    rintro e w' ⟨g', c', rfl, h2, h3, h4⟩
    exact ⟨_, rfl, by rw [putIn_endH h.1]; exact h2, h3, h4.elim (fun h => .inl h.symm) (fun h => .inr (by rw [h]; rfl))⟩

end Go.Proofs.YteepobghdpnabaaGreat
namespace Go.Proofs.YteepobghdpnabaaGreat
open Go.RowKit

theorem putH (ms : List (HlD × Ad)) (i : Nat) (d a n : Int) (L : List TxD) (o : Ad) : putInH (cellsK KH ms) [.int .i64 d, .int .i64 a, .int .i64 n, o.v] i = (cellsK KH ms).take (i * KH.s) ++ KH.cells ⟨d, a, n, L⟩ o.v ++ (cellsK KH ms).drop (i * KH.s) := rfl

theorem hold_end {B g p : Nat} {w1 w2 w4 : World} {P : WkD} {a : WkA} {o' o4 : Ad} {ob : Obj} {d ba bn : Int} {L : List TxD} (h : WAt B g w1 P a) (hb2 : Below w1.heap.size w1 w2) (ho : w2.ownsRow w1.heap.size 40 4 o'.v o'.n (txs L)) (hl : L.length = o'.n)
    (hown : w4.ownsRow B 70 4 o4.v o4.n (putInH (cellsK KH a.hs) [.int .i64 d, .int .i64 ba, .int .i64 bn, o'.v] p)) (hn : o4.n = a.H.n + 1) (hgr : (w2.alloc ob).grownBy w4 a.H.v.ownBlock) (hp : p ≤ a.H.n) :
    WAt B g (w4.setCell ⟨g, 7, none⟩ o4.v) { P with H := insAt P.H p ⟨d, ba, bn, L⟩ } { a with H := o4, hs := insAt a.hs p (⟨d, ba, bn, L⟩, o') } ∧ Touch (fun k => k = g ∨ B ≤ k) w1 (w4.setCell ⟨g, 7, none⟩ o4.v) := by
  have T24 : Touch (fun k => a.H.v.ownBlock = some k) w2 w4 := ((Touch.refl _ w2).alloc ob).on (Touch.grown hgr fun k hk => hk)
  have T14 : Touch (fun k => a.H.v.ownBlock = some k) w1 w4 := (Touch.of hb2).on T24
  have hle := h.le
  have hlt := h.lt
  have hrow := h.new.core.held.ins (x := HlD.mk d ba bn L) (o := o') hb2 ho hl hle T24 (by rw [← putH]; exact hown) hn (by rw [h.new.core.held.len]; exact hp)
  have hnew := h.new.setH T14 hrow (L := insAt P.H p ⟨d, ba, bn, L⟩) (by rw [map_ins, h.new.core.eH]) (fun x hx k hk hk2 => by
    rcases mem_ins hx with rfl | hx
    · have := (own_lt ho hk2).2
      have := (own_lt h.new.open_ hk).1
      omega
    · exact h.new.apO x hx k hk hk2)
  have hH : ∀ k, a.H.v.ownBlock = some k → B ≤ k := fun k hk => (own_lt h.new.core.held.row hk).2
  have hT4 : Touch (fun k => k = g ∨ B ≤ k) w1 w4 := T14.mono fun k hk => .inr (hH k hk)
  have hs := T14.size
  have hbx := (h.box.touch T14 fun hf => by have := hH g hf; omega).set (j := 7) (u := o4.v) (show 7 < 9 by decide)
  have Tg : Touch (fun k => k = g) w4 (w4.setCell ⟨g, 7, none⟩ o4.v) := (Touch.refl (fun k => k = g) w4).set (.inl rfl) o4.v
  refine ⟨⟨hbx, hnew.touch Tg (fun k hk ho => by have := (hnew.core.lt ho).2; omega) (fun k hk ho => by have := (own_lt hnew.open_ ho).2; omega), hlt, by have := Tg.size; omega⟩, hT4.on (Tg.mono fun k hk => .inl hk)⟩

set_option maxRecDepth 100000 in
set_option maxHeartbeats 16000000 in
theorem hold_any (B g : Nat) (P : WkD) (a : WkA) (d ba bn : Int) (o : Ad) (L : List TxD) (w : World) (h : WAt B g w P a) (hS : SlIn w o L.length (txs L)) (hL : L.length ≤ 1000000) (hr : RiseI P.hs) (hf : P.H.length ≤ 1000000) :
    Calls Tryz.prog 92 #[.pointer (some ⟨g, 0, none⟩), .int .i64 d, .agg #[.int .i64 ba, .int .i64 bn, o.v]] w (WTo B g (holdW P d ba bn L) w) := by
  obtain ⟨w0, hw0⟩ : ∃ w0, w0 = w.alloc (.cells #[.int .i64 ba, .int .i64 bn, .slice o.A o.n o.c] 42) := ⟨_, rfl⟩
  have hb0 : Below w.heap.size w w0 := by rw [hw0]; exact (Below.refl _ _).alloc (Nat.le_refl _) _
  have bx0 := box_new w [.int .i64 ba, .int .i64 bn, .slice o.A o.n o.c] 42
  have h0 := h.below hb0
  have hfind := findHeld_any P a d w0 h0.new.in_.held h0.new.in_.eH hf hr
  have hlen : P.H.length = a.H.n := by rw [← h.new.core.eH, List.length_map]; exact h.new.core.held.len
  have hp := posI_le P.hs d
  have hpl : P.hs.length = P.H.length := by simp [WkD.hs]
  obtain ⟨p, hpe⟩ : ∃ p, p = posI P.hs d := ⟨_, rfl⟩
  have HP := Lib.hid hpe
  rw [← hpe] at hfind hp
  have hT0 : Touch (fun k => k = g ∨ B ≤ k) w w0 := Touch.of hb0
  rw [← hw0] at bx0
  have HW0 := Lib.hid hw0
  have HA := Lib.hid h0
  have HS : Hid (∀ wX, Below w0.heap.size w0 wX → SlIn wX o L.length (txs L)) := by show ∀ wX, _; exact fun wX hx => (hS.below hb0).below hx
  have HT0 := Lib.hid hT0
  have hgl : g < w0.heap.size := h0.box.1
  have hwl : w.heap.size < w0.heap.size := bx0.1
  have hgw : w.heap.size ≠ g := by have := h.lt; have := h.le; omega
  have hpn : p ≤ a.H.n := by omega
  clear hw0 h hS hb0 hr hpe hT0 hp hpl
  by_cases hd : d ∈ P.hs
  · have HE : Hid (holdW P d ba bn L = P) := by show holdW P d ba bn L = P; rw [holdW, if_pos (.inl hd)]
    rw [decide_eq_true hd] at hfind
    have HFD := Lib.hid hfind
    clear hfind hd hf
    unfold Ad.v
    go_enter Tryz.func92, Tryz.ntmps92
    go_upto_region 1 with fail
    rw [← HW0.out]
    go_wp2_with (first
      | (refine wpList_load_box rfl 27 _ rfl g rfl (wkC P a) HA.out.box _ Tryz.underlying27 rfl size_wk ?_)
      | (go_at_call 89; refine HFD.out.mono ?_; rintro e w1 ⟨rfl, hb1⟩))
    go_end0
    exact ⟨a, rfl, by rw [HE.out]; exact HA.out.below hb1, HT0.out.on ((Touch.of hb1))⟩
  · by_cases hfull : (1024 : Int) ≤ (a.H.n : Int)
    · have HE : Hid (holdW P d ba bn L = P) := by show holdW P d ba bn L = P; rw [holdW, if_pos (.inr (by omega))]
      rw [decide_eq_false hd] at hfind
      have HFD := Lib.hid hfind
      obtain ⟨k0, k1, k2, k3, k4, k5, k6, k7, k8⟩ := wk_cells HA.out.box
      clear hfind hd hf k0 k1 k2 k3 k4 k5 k6 k8
      unfold Ad.v
      go_enter Tryz.func92, Tryz.ntmps92
      go_upto_region 1 with fail
      rw [← HW0.out]
      go_wp2_with (first
        | (refine wpList_load_box rfl 27 _ rfl g rfl (wkC P a) HA.out.box _ Tryz.underlying27 rfl size_wk ?_)
        | (go_at_call 89; refine HFD.out.mono ?_; rintro e w1 ⟨rfl, hb1⟩; have j7 := (hb1.cell (p := ⟨g, 7, none⟩) hgl).trans k7))
      go_end0
      exact ⟨a, rfl, by rw [HE.out]; exact HA.out.below hb1, HT0.out.on ((Touch.of hb1))⟩
    · have HE : Hid (holdW P d ba bn L = { P with H := insAt P.H p ⟨d, ba, bn, L⟩ }) := by show holdW P d ba bn L = _; rw [holdW, if_neg (by rintro (h1 | h1); exact hd h1; omega), HP.out]
      rw [decide_eq_false hd] at hfind
      have HFD := Lib.hid hfind
      obtain ⟨k0, k1, k2, k3, k4, k5, k6, k7, k8⟩ := wk_cells HA.out.box
      have HK7 := Lib.hid k7
      have HBX := Lib.hid bx0
      have HN := Lib.hid hlen
      clear hfind hd hf k0 k1 k2 k3 k4 k5 k6 k8 bx0
      unfold Ad.v
      go_enter Tryz.func92, Tryz.ntmps92
      go_upto_region 1 with fail
      rw [← HW0.out]
      go_upto_region 3 with (first
        | (refine wpList_load_box rfl 27 _ rfl g rfl (wkC P a) HA.out.box _ Tryz.underlying27 rfl size_wk ?_)
        | (go_at_call 89; refine HFD.out.mono ?_; rintro e w1 ⟨rfl, hb1⟩; have j7 := (hb1.cell (p := ⟨g, 7, none⟩) hgl).trans k7))
      have hA1 := HA.out.below hb1
      have hgl1 : g < w1.heap.size := hA1.box.1
      have hle1 := hA1.le
      have hlt1 := hA1.lt
      have hbx1 := HBX.out.below hb1 hwl
      have m0 : w1.cell? ⟨w.heap.size, 0, none⟩ = some (.int .i64 ba) := (hbx1.2 0 _ rfl).1
      have m1 : w1.cell? ⟨w.heap.size, 1, none⟩ = some (.int .i64 bn) := (hbx1.2 1 _ rfl).1
      have m2 : w1.cell? ⟨w.heap.size, 2, none⟩ = some (.slice o.A o.n o.c) := (hbx1.2 2 _ rfl).1
      have f7 : w1.frozen? ⟨g, 7, none⟩ = false := (hA1.box.2 7 _ rfl).2
      have hwl1 : w.heap.size < w1.heap.size := hbx1.1
      have HROW := Lib.hid hA1.new.core.held.row
      have HOLT : Hid (∀ k, a.H.v.ownBlock = some k → B ≤ k ∧ k < w1.heap.size) := by show ∀ k, _; exact fun k hk => ⟨(own_lt hA1.new.core.held.row hk).2, (own_lt hA1.new.core.held.row hk).1⟩
      have HA1 := Lib.hid hA1
      have HB1 := Lib.hid hb1
      have HSD : Hid (SlIn w1.drew o L.length (txs L)) := (HS.out _ hb1).drew
      clear hbx1 hA1 hb1 h0 k7
      go_region_with (first
        | (go_at_call 80; refine (copied_any ba bn o L _ HSD.out hL).mono ?_; rintro e w2 ⟨⟨A', n', c'⟩, rfl, hn', ho', hb'⟩
           obtain rfl : n' = L.length := hn'
           dsimp only [Ad.v]
           have hb2 : Below w1.heap.size w1 w2 := ((Below.refl _ _).drew).trans hb'
           have e7 := (hb2.cell (p := ⟨g, 7, none⟩) hgl1).trans j7
           have e0 := (hb2.cell (p := ⟨w.heap.size, 0, none⟩) hwl1).trans m0
           have e1 := (hb2.cell (p := ⟨w.heap.size, 1, none⟩) hwl1).trans m1
           have e2 := (hb2.cell (p := ⟨w.heap.size, 2, none⟩) hwl1).trans m2
           have e7a : (w2.alloc (.cells #[.int .i64 d, .int .i64 ba, .int .i64 bn, .slice A' L.length c'] 70)).cell? ⟨g, 7, none⟩ = some (.slice a.H.A a.H.n a.H.c) := ((hb2.alloc hb2.size _).cell (p := ⟨g, 7, none⟩) hgl1).trans j7)
        | (go_at_call 126
           refine (insert_anyH B w2.heap.size a.H.n p (.slice a.H.A a.H.n a.H.c) (cellsK KH a.hs) [.int .i64 d, .int .i64 ba, .int .i64 bn, .slice A' L.length c'] _ (ownS_below HROW.out (hb2.alloc hb2.size _)) (by have := hb2.size; simp; omega) hpn (by omega) (cellsK_oneCell KH _) rfl (heap_alloc_new _ _) (KH.one ⟨d, ba, bn, L⟩ (.slice A' L.length c') rfl) (fun hq => by have := (HOLT.out _ hq).2; have := hb2.size; omega)).mono ?_
           rintro e w4 ⟨v4, rfl, hown, hgr, -⟩
           obtain ⟨A4, c4, rfl, _⟩ := ownS_slice hown
           have f7a : w4.frozen? ⟨g, 7, none⟩ = false := ((World.frozen?_of_block (a := ⟨g, 7, none⟩) (hgr.block g (by have := hb2.size; simp; omega) (fun hq => by have := (HOLT.out g hq.symm).1; omega))).trans ((hb2.alloc hb2.size _).frozen (p := ⟨g, 7, none⟩) hgl1)).trans f7
           have e7b : ∃ u, w4.cell? ⟨g, 7, none⟩ = some u := ⟨_, (World.cell?_of_block (a := ⟨g, 7, none⟩) (hgr.block g (by have := hb2.size; simp; omega) (fun hq => by have := (HOLT.out g hq.symm).1; omega))).trans e7a⟩
           obtain ⟨u7, e7c⟩ := e7b))
      all_goals
        go_wp2_with fail
        go_end0
        have hend := hold_end (o' := ⟨A', L.length, c'⟩) (o4 := ⟨A4, a.H.n + 1, c4⟩) HA1.out hb2 ho' rfl hown rfl hgr hpn
        exact ⟨_, rfl, by rw [HE.out]; exact hend.1, (HT0.out.on (Touch.of HB1.out)).on hend.2⟩

end Go.Proofs.YteepobghdpnabaaGreat
