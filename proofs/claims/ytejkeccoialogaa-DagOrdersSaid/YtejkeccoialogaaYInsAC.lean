/-
  slices.Insert of one element into a row of certificates.
-/
import Derived.Test.YtejkeccoialogaaDDel
import Derived.Test.YtejkeccoialogaaDIns
import Derived.Laws.Externs
import Derived.Test.YtejkeccoialogaaDInsF
namespace Go.Proofs.Ytejkeccoialogaa
open Go.RowKit

def zcert : Value := .agg #[.int .i64 0, .int .i64 0, .slice none 0 0, .slice none 0 0, .int .i64 0, .slice none 0 0]
theorem info_zcert : (Try.prog.info? 37).map (fun i => (i.zero, i.size, i.bytes)) = some (some zcert, 6, 96) := by kernel_rfl
theorem zcert_one : ∀ v ∈ zcert.cells.toList, v.oneCell' = true := by
  exact fun v hv => List.all_eq_true.1 (show zcert.cells.toList.all (·.oneCell') = true from rfl) v hv

/-- what stands ahead of i, the new element, what stood from i on -/
def putInC (xs us : List Value) (i : Nat) : List Value := xs.take (i * 6) ++ us ++ xs.drop (i * 6)

set_option maxRecDepth 100000 in
set_option maxHeartbeats 8000000 in
theorem insert_roomC (B g cap n i gx : Nat) (xs us : List Value) (w : World) (h : w.ownsRow B 37 6 (.slice (some ⟨g, 0, none⟩) n cap) n xs) (hi : i < n) (hroom : n + 1 ≤ cap) (hn : n ≤ 1000000) (h1 : ∀ v ∈ xs, v.oneCell' = true)
    (hu : us.length = 6) (hgx : w.heap[gx]? = some (.cells us.toArray 37 (0, 0))) (hu1 : ∀ v ∈ us, v.oneCell' = true) (hne : gx ≠ g) :
    Calls Try.prog 55 #[.slice (some ⟨g, 0, none⟩) n cap, .int .i64 i, .slice (some ⟨gx, 0, none⟩) 1 1] w fun e w' =>
      e = .returned (.slice (some ⟨g, 0, none⟩) (n + 1) cap) ∧ w'.ownsRow B 37 6 (.slice (some ⟨g, 0, none⟩) (n + 1) cap) (n + 1) (putInC xs us i) ∧ w.grownBy w' (some g) := by
  obtain ⟨cur, hg, hb, hnc, hcm, hcs, hx⟩ := row_open h
  obtain ⟨i0, hi0, hz0, hz1, hz2⟩ := info_parts info_zcert
  have HCM := Lib.hid hcm
  unfold maxLen at hcm
  have hgd : w.drew.heap[g]? = some (.cells cur 37 (0, 0)) := hg
  -- slices.overlaps
  have hov : ∀ lb cb, (callFunc 86 #[.slice (some ⟨gx, 0, none⟩) 1 1, .slice (some ⟨g, (i + 1) * 6, none⟩) lb cb]).run Try.prog w = .ok (.value (.bool false)) w := fun lb cb => by
    rw [run_callFunc_extern Try.func86 (by kernel_rfl) (by kernel_rfl) (by kernel_rfl) (e := Extern.SlicesOverlaps.overlaps #[22, 22] #[4]) (by kernel_rfl),
      Lib.run_overlaps_apart w 22 4 37 Try.underlying22 6 Try.sizeOf37 ⟨gx, 0, none⟩ ⟨g, (i + 1) * 6, none⟩ 1 1 lb cb hne 37 37 6 cur.size (by unfold World.shape?; rw [hgx]; simp [hu]) (by unfold World.shape?; rw [hg]) (by omega) (frozen_of_row _ _ _ _ _ hgx) (frozen_of_row _ _ _ _ _ hgx)]
    rfl
  -- what stood from i on goes up
  obtain ⟨cs1, hcs1⟩ : ∃ cs1, cs1 = (cur.toList.drop (i * 6)).take ((n - i) * 6) := ⟨_, rfl⟩
  have hlen : cs1.length = (n - i) * 6 := by rw [hcs1]; simp; omega
  obtain ⟨cur1, hcur1⟩ : ∃ cur1, cur1 = over cur ((i + 1) * 6) cs1 := ⟨_, rfl⟩
  obtain ⟨w1, hw1⟩ : ∃ w1, w1 = w.drew.setRow g cur1 := ⟨_, rfl⟩
  have hsz1 : cur1.size = cur.size := by rw [hcur1]; exact over_size (by omega)
  have hg1 : w1.heap[g]? = some (.cells cur1 37 (0, 0)) := by rw [hw1, hcur1]; exact row_over _ hgd _ _
  have hgx1 : w1.heap[gx]? = some (.cells us.toArray 37 (0, 0)) := by rw [hw1, setRow_other _ _ _ _ hne]; exact hgx
  have hcp1 : ∀ ty dc sc, (Builtin.copy_ #[22, 22] ty #[.slice (some ⟨g, (i + 1) * 6, none⟩) (n - i) dc, .slice (some ⟨g, i * 6, none⟩) (n + 1 - i) sc]).run Try.prog w.drew = .ok (goInt (n - i : Nat)) w1 := by
    intro ty dc sc
    have := run_copy_in (P := Try.prog) w.drew (t := 22) (ty := ty) Try.underlying22 hi0 hgd (o := (i + 1) * 6) (D := some ⟨g, (i + 1) * 6, none⟩) (A := some ⟨g, i * 6, none⟩) (dn := n - i) (dc := dc) (k := n + 1 - i) (kc := sc) (m := n - i) (cs := cs1)
      (by simp only [Nat.min_def]; split <;> omega) (by rw [hz1]; exact hlen) (fun _ => ⟨rfl, _, rfl, by rw [hcs1]; exact cells_part hgd _ _⟩) (by rw [hz1]; omega) (by rw [hcs1]; exact one_part_in hx h1 (by omega))
    rw [← hcur1, ← hw1] at this
    exact this
  obtain ⟨cur2, hcur2⟩ : ∃ cur2, cur2 = over cur1 (i * 6) us := ⟨_, rfl⟩
  obtain ⟨w2, hw2⟩ : ∃ w2, w2 = w1.setRow g cur2 := ⟨_, rfl⟩
  have hcp2 : ∀ ty dc, (Builtin.copy_ #[22, 22] ty #[.slice (some ⟨g, i * 6, none⟩) (n + 1 - i) dc, .slice (some ⟨gx, 0, none⟩) 1 1]).run Try.prog w1 = .ok (goInt (1 : Nat)) w2 := by
    intro ty dc
    have := run_copy_in (P := Try.prog) w1 (t := 22) (ty := ty) Try.underlying22 hi0 hg1 (o := i * 6) (D := some ⟨g, i * 6, none⟩) (A := some ⟨gx, 0, none⟩) (dn := n + 1 - i) (dc := dc) (k := 1) (kc := 1) (m := 1) (cs := us)
      (by simp only [Nat.min_def]; split <;> omega) (by rw [hz1]; omega) (fun _ => ⟨rfl, _, rfl, fun j v hj => by rw [Addr.add_lit, cell_of_row _ _ _ _ _ _ hgx1]; simpa using hj⟩) (by rw [hz1]; omega) hu1
    rw [← hcur2, ← hw2] at this
    exact this
  have hres : w2.ownsRow B 37 6 (.slice (some ⟨g, 0, none⟩) (n + 1) cap) (n + 1) (putInC xs us i) ∧ w.grownBy w2 (some g) := by
    refine ⟨row_shut (cur := cur2) ?_ hb (by omega) HCM.out ?_ ?_, ?_⟩
    · rw [hw2, hcur2]; exact row_over _ hg1 _ _
    · rw [hcur2, over_size (by omega), hsz1, hcs]
    · have hcl : cur.toList.length = cap * 6 := by rw [Array.length_toList, hcs]
      rw [hcur2, over_list, hcur1, over_list, hcs1, hu, putInC, ← hx]
      apply List.ext_getElem?
      intro j
      simp only [List.getElem?_take, List.getElem?_append, List.length_append, List.length_take, List.length_drop, List.getElem?_drop, hcl, hu]
      rcases Nat.lt_or_ge j ((n + 1) * 6) with hj | hj
      · rw [if_pos hj]
        rcases Nat.lt_or_ge j (i * 6) with h2 | h2
        · repeat' split
          all_goals first | rfl | (exfalso; omega)
        · rcases Nat.lt_or_ge j (i * 6 + 6) with h3 | h3
          · repeat' split
            all_goals first | rfl | (exfalso; omega) | (congr 1; omega)
          · repeat' split
            all_goals first | rfl | (exfalso; omega) | (congr 1; omega)
      · rw [if_neg (by omega)]
        repeat' split
        all_goals first | rfl | (exfalso; omega) | (symm; apply List.getElem?_eq_none; omega)
    · rw [hw2, hw1]
      exact grown_trans (w' := w.drew.setRow g cur1) (grown_trans (w' := w.drew) ⟨rfl, rfl, rfl, Nat.le_refl _, fun _ _ _ => rfl⟩ (setRow_grown w.drew g cur1)) (setRow_grown _ g cur2)
  have HV := Lib.hid hov
  have H1 := Lib.hid hcp1
  have H2 := Lib.hid hcp2
  have HS := Lib.hid hres
  clear hov hcp1 hcp2 hres hsz1 hcs hlen hz0 hz1 hz2 hi0 h1 hcur1 hcs1 hx hw1 hw2 hcur2 h hg hgd hg1 hgx hgx1 hu hu1
  have e1 : (0 : Int) ≤ (i : Int) := by omega
  have e2 : (i : Int) ≤ (n : Int) := by omega
  have e3 : ¬ ((i : Int) = (n : Int)) := by omega
  have e4 : ¬ ((cap : Int) < (n : Int) + 1) := by omega
  have e6 : ((i : Int) + 1).toNat = i + 1 := by omega
  have e7 : (0 : Int) ≤ (i : Int) + 1 := by omega
  have e8 : (i : Int) + 1 ≤ (n : Int) + 1 := by omega
  have e9 : (i : Int) ≤ (n : Int) + 1 := by omega
  have f1 : ¬ (cap = i) := by omega
  have f2 : ¬ (cap = i + 1) := by omega
  have f3 : (n : Int) + 1 ≤ (cap : Int) := by omega
  have f4 : i ≤ n + 1 := by omega
  have f5 : ((n : Int) + 1).toNat = n + 1 := by omega
  have f6 : n + 1 ≤ cap := hroom
  have f7 : i + 1 ≤ n + 1 := by omega
  have f8 : i ≤ n := by omega
  have hov := HV.out
  go_enter Try.func55, Try.ntmps55
  go_wp2
  clear hov
  have g1 : IntKind.i64.wrap ((i : Int) + 1) = (i : Int) + 1 := IntWalk.i64_in _ (by omega)
  go_still_tail 8, (by kernel_rfl)
  change wpList _ _ _ _ _ w.drew
  go_wp2_with (first | refine wpList_copy_run (o := ⟨some 77, _, _, _, _, _⟩) _ rfl (.tmp 73) (.tmp 76) 22 22 rfl rfl rfl (H1.out _ _ _) ?_ | refine wpList_copy_run (o := ⟨some 82, _, _, _, _, _⟩) _ rfl (.tmp 80) (.tmp 81) 22 22 rfl rfl rfl (H2.out _ _) ?_)
  go_ret
  exact ⟨rfl, HS.out⟩

end Go.Proofs.Ytejkeccoialogaa
/-
  slices.Insert of one element into a row of certificates that has no room; at its end; any.
-/
namespace Go.Proofs.Ytejkeccoialogaa
open Go.RowKit

set_option maxHeartbeats 4000000 in
theorem grow_factsC (B g n i gx : Nat) (xs us : List Value) (w : World) (h : w.ownsRow B 37 6 (.slice (some ⟨g, 0, none⟩) n n) n xs) (hB : B ≤ w.heap.size) (hi : i < n) (hn : n ≤ 1000000) (h1 : ∀ v ∈ xs, v.oneCell' = true)
    (hu : us.length = 6) (hgx : w.heap[gx]? = some (.cells us.toArray 37 (0, 0))) (hu1 : ∀ v ∈ us, v.oneCell' = true) :
    ∃ (G : Nat) (w1 w2 w3 : World), n + 1 ≤ G ∧ G ≤ maxLen ∧
      (∀ ty, (Builtin.append_ #[22, 3] ty #[.slice (some ⟨g, 0, none⟩) i n, .int .i64 ((n : Int) + 1 - (i : Int))]).run Try.prog w = .ok (.slice (some ⟨w.heap.size, 0, none⟩) (n + 1) G) w1) ∧
      (∀ ty dc, (Builtin.copy_ #[22, 22] ty #[.slice (some ⟨w.heap.size, i * 6, none⟩) (n + 1 - i) dc, .slice (some ⟨gx, 0, none⟩) 1 1]).run Try.prog w1 = .ok (goInt (1 : Nat)) w2) ∧
      (∀ ty dc sc, (Builtin.copy_ #[22, 22] ty #[.slice (some ⟨w.heap.size, (i + 1) * 6, none⟩) (n - i) dc, .slice (some ⟨g, i * 6, none⟩) (n - i) sc]).run Try.prog w2.drew = .ok (goInt (n - i : Nat)) w3) ∧
      w3.ownsRow B 37 6 (.slice (some ⟨w.heap.size, 0, none⟩) (n + 1) G) (n + 1) (putInC xs us i) ∧ w.grownBy w3 none := by
  obtain ⟨cur, hg, hb, hnc, hcm, hcs, hx⟩ := row_open h
  obtain ⟨i0, hi0, hz0, hz1, hz2⟩ := info_parts info_zcert
  have hgl : g < w.heap.size := (Array.getElem?_eq_some_iff.1 hg).1
  have hgxl : gx < w.heap.size := (Array.getElem?_eq_some_iff.1 hgx).1
  have hgd : w.drew.heap[g]? = some (.cells cur 37 (0, 0)) := hg
  have hcl : cur.toList.length = n * 6 := by rw [Array.length_toList, hcs]
  have hcur1 : ∀ v ∈ cur.toList, v.oneCell' = true := fun v hv => h1 v (by rw [← hx, List.take_of_length_le (by omega)]; exact hv)
  have hold : (Builtin.firstCells i0.size i (.slice (some ⟨g, 0, none⟩) i n)).run Try.prog w.drew = .ok (cur.toList.take (i * 6)).toArray w.drew := by
    have := run_loadCells_list (P := Try.prog) w.drew ⟨g, 0, none⟩ ((cur.toList.drop 0).take (i * 6)) (cells_part hgd 0 (i * 6))
    simp only [List.drop_zero] at this
    have hl : (cur.toList.take (i * 6)).length = i * 6 := by rw [List.length_take]; omega
    rw [hl] at this
    simp only [Builtin.firstCells, hz1]
    exact this
  have hap : ∀ ty, (Builtin.append_ #[22, 3] ty #[.slice (some ⟨g, 0, none⟩) i n, .int .i64 ((n : Int) + 1 - (i : Int))]).run Try.prog w = .ok (.slice (some ⟨w.heap.size, 0, none⟩) (n + 1) (grownCap w (n + 1) n 37)) (w.drew.alloc (.cells ((cur.toList.take (i * 6)).toArray ++ Builtin.zeroCells zcert.cells (n + 1 - i) ++ Builtin.zeroCells zcert.cells (grownCap w (n + 1) n 37 - (n + 1))) 37)) := fun ty => by
    have := Lib.run_append_grow_zeros (P := Try.prog) w 22 3 ty 37 i0 _ .i64 .i64 Try.underlying22 Try.underlying3 hi0 hz0 (some ⟨g, 0, none⟩) i n (cur.toList.take (i * 6)) hold (n + 1 - i) (by omega) (by omega) (by omega) (by omega) (by rw [hz2]; omega) (by rw [hz2, show i + (n + 1 - i) = n + 1 by omega]; exact growslice_fits (by omega) (by omega))
    rw [show i + (n + 1 - i) = n + 1 by omega] at this
    rw [show ((n : Int) + 1 - (i : Int)) = ((n + 1 - i : Nat) : Int) by omega]
    exact this
  obtain ⟨G, hG⟩ : ∃ G, G = grownCap w (n + 1) n 37 := ⟨_, rfl⟩
  rw [← hG] at hap
  have hGn : n + 1 ≤ G := by rw [hG]; exact grownCap_ge w _ _ _
  have hGm : G ≤ maxLen := by rw [hG]; exact grownCap_le_maxLen w _ _ _ (by unfold maxLen; omega)
  obtain ⟨row, hrow⟩ : ∃ row : Array Value, row = (cur.toList.take (i * 6)).toArray ++ Builtin.zeroCells zcert.cells (n + 1 - i) ++ Builtin.zeroCells zcert.cells (G - (n + 1)) := ⟨_, rfl⟩
  rw [← hrow] at hap
  have hzc : zcert.cells.size = 6 := rfl
  have hrs : row.size = G * 6 := by
    rw [hrow]
    simp only [Array.size_append, size_zeroCells, hzc, List.size_toArray, List.length_take, hcl]
    omega
  have hrl : row.toList.length = G * 6 := by rw [Array.length_toList, hrs]
  have hr0 : row.toList.take (i * 6) = cur.toList.take (i * 6) := by
    rw [hrow]
    simp only [Array.toList_append, List.append_assoc]
    rw [List.take_append_of_le_length (by simp; omega), List.take_take, Nat.min_self]
  have hap2 : ∃ w1, (∀ ty, (Builtin.append_ #[22, 3] ty #[.slice (some ⟨g, 0, none⟩) i n, .int .i64 ((n : Int) + 1 - (i : Int))]).run Try.prog w = .ok (.slice (some ⟨w.heap.size, 0, none⟩) (n + 1) G) w1) ∧ w1 = w.drew.alloc (.cells row 37) := ⟨_, hap, rfl⟩
  obtain ⟨w1, hap1, hw1⟩ := hap2
  have hN1 : w1.heap[w.heap.size]? = some (.cells row 37 (0, 0)) := by rw [hw1]; exact heap_alloc_new w.drew _
  have hold1 : ∀ k, k < w.heap.size → w1.heap[k]? = w.heap[k]? := fun k hk => by rw [hw1]; exact (World.grownBy_alloc w.drew _ none).block k hk (by simp)
  have hs1 : w1.heap.size = w.heap.size + 1 := by rw [hw1]; simp
  obtain ⟨row2, hrow2⟩ : ∃ row2, row2 = over row (i * 6) us := ⟨_, rfl⟩
  obtain ⟨w2, hw2⟩ : ∃ w2, w2 = w1.setRow w.heap.size row2 := ⟨_, rfl⟩
  have hr2s : row2.size = row.size := by rw [hrow2]; exact over_size (by omega)
  have hN2 : w2.heap[w.heap.size]? = some (.cells row2 37 (0, 0)) := by rw [hw2, hrow2]; exact row_over _ hN1 _ _
  have hold2 : ∀ k, k < w.heap.size → w2.heap[k]? = w.heap[k]? := fun k hk => by rw [hw2, setRow_other _ _ _ _ (by omega)]; exact hold1 k hk
  have hN2d : w2.drew.heap[w.heap.size]? = some (.cells row2 37 (0, 0)) := hN2
  have hg2 : w2.drew.heap[g]? = some (.cells cur 37 (0, 0)) := by show w2.heap[g]? = _; rw [hold2 g hgl]; exact hg
  have hcp1 : ∀ ty dc, (Builtin.copy_ #[22, 22] ty #[.slice (some ⟨w.heap.size, i * 6, none⟩) (n + 1 - i) dc, .slice (some ⟨gx, 0, none⟩) 1 1]).run Try.prog w1 = .ok (goInt (1 : Nat)) w2 := by
    intro ty dc
    have := run_copy_in (P := Try.prog) w1 (t := 22) (ty := ty) Try.underlying22 hi0 hN1 (o := i * 6) (D := some ⟨w.heap.size, i * 6, none⟩) (A := some ⟨gx, 0, none⟩) (dn := n + 1 - i) (dc := dc) (k := 1) (kc := 1) (m := 1) (cs := us)
      (by simp only [Nat.min_def]; split <;> omega) (by rw [hz1]; omega) (fun _ => ⟨rfl, _, rfl, fun j v hj => by rw [Addr.add_lit, cell_of_row _ _ _ us.toArray 37 (0, 0) (by rw [hold1 gx hgxl]; exact hgx)]; simpa using hj⟩) (by rw [hz1, hrs]; omega) hu1
    rw [← hrow2, ← hw2] at this
    exact this
  obtain ⟨cs1, hcs1⟩ : ∃ cs1, cs1 = (cur.toList.drop (i * 6)).take ((n - i) * 6) := ⟨_, rfl⟩
  have hlen : cs1.length = (n - i) * 6 := by rw [hcs1]; simp; omega
  obtain ⟨row3, hrow3⟩ : ∃ row3, row3 = over row2 ((i + 1) * 6) cs1 := ⟨_, rfl⟩
  obtain ⟨w3, hw3⟩ : ∃ w3, w3 = w2.drew.setRow w.heap.size row3 := ⟨_, rfl⟩
  have hcp2 : ∀ ty dc sc, (Builtin.copy_ #[22, 22] ty #[.slice (some ⟨w.heap.size, (i + 1) * 6, none⟩) (n - i) dc, .slice (some ⟨g, i * 6, none⟩) (n - i) sc]).run Try.prog w2.drew = .ok (goInt (n - i : Nat)) w3 := by
    intro ty dc sc
    have := run_copy_in (P := Try.prog) w2.drew (t := 22) (ty := ty) Try.underlying22 hi0 hN2d (o := (i + 1) * 6) (D := some ⟨w.heap.size, (i + 1) * 6, none⟩) (A := some ⟨g, i * 6, none⟩) (dn := n - i) (dc := dc) (k := n - i) (kc := sc) (m := n - i) (cs := cs1)
      (by simp only [Nat.min_def]; split <;> omega) (by rw [hz1]; exact hlen) (fun _ => ⟨rfl, _, rfl, by rw [hcs1]; exact cells_part hg2 _ _⟩) (by rw [hz1, hr2s, hrs]; omega) (by rw [hcs1]; exact one_part hcur1)
    rw [← hrow3, ← hw3] at this
    exact this
  refine ⟨G, w1, w2, w3, hGn, hGm, hap1, hcp1, hcp2, ?_, ?_⟩
  · refine row_shut (cur := row3) (by rw [hw3, hrow3]; exact row_over _ hN2d _ _) hB hGn hGm (by rw [hrow3, over_size (by rw [hr2s, hrs]; omega), hr2s, hrs]) ?_
    have hr2l : row2.toList.length = G * 6 := by rw [Array.length_toList, hr2s, hrs]
    have htk : row2.toList.take ((i + 1) * 6) = xs.take (i * 6) ++ us := by
      have hxl : xs.length = n * 6 := by rw [← hx, List.length_take]; omega
      have hA : row.toList.take (i * 6) = xs.take (i * 6) := by rw [hr0, ← hx, List.take_take, Nat.min_eq_left (by omega : i * 6 ≤ n * 6)]
      have l1 : (xs.take (i * 6) ++ us).length = (i + 1) * 6 := by rw [List.length_append, List.length_take, hxl, hu]; omega
      rw [hrow2, over_list, hA, List.take_append_of_le_length (by omega), List.take_of_length_le (by omega)]
    have hxl : xs.length = n * 6 := by rw [← hx, List.length_take]; omega
    have l1 : (xs.take (i * 6) ++ us).length = (i + 1) * 6 := by rw [List.length_append, List.length_take, hxl, hu]; omega
    have l2 : (xs.take (i * 6) ++ us ++ cs1).length = (n + 1) * 6 := by rw [List.length_append, l1, hlen]; omega
    rw [hrow3, over_list, htk, putInC, List.take_append_of_le_length (by omega), List.take_of_length_le (by omega), hcs1, ← hx, List.drop_take, show (n - i) * 6 = n * 6 - i * 6 by omega]
  · rw [hw3]
    refine ⟨by rw [setRow_os]; show w2.os = _; rw [hw2, setRow_os, hw1]; rfl, by rw [setRow_tape]; show w2.tape = _; rw [hw2, setRow_tape, hw1]; rfl, by rw [setRow_output]; show w2.output = _; rw [hw2, setRow_output, hw1]; rfl, by rw [setRow_size]; show _ ≤ w2.heap.size; rw [hw2, setRow_size, hs1]; omega, fun k hk _ => by rw [setRow_other _ _ _ _ (by omega)]; exact hold2 k hk⟩

end Go.Proofs.Ytejkeccoialogaa
/-
  slices.Insert of one element into a row of certificates that has no room.
-/
namespace Go.Proofs.Ytejkeccoialogaa
open Go.RowKit

set_option maxRecDepth 100000 in
set_option maxHeartbeats 8000000 in
theorem insert_growC (B g n i gx : Nat) (xs us : List Value) (w : World) (h : w.ownsRow B 37 6 (.slice (some ⟨g, 0, none⟩) n n) n xs) (hB : B ≤ w.heap.size) (hi : i < n) (hn : n ≤ 1000000) (h1 : ∀ v ∈ xs, v.oneCell' = true)
    (hu : us.length = 6) (hgx : w.heap[gx]? = some (.cells us.toArray 37 (0, 0))) (hu1 : ∀ v ∈ us, v.oneCell' = true) :
    Calls Try.prog 55 #[.slice (some ⟨g, 0, none⟩) n n, .int .i64 i, .slice (some ⟨gx, 0, none⟩) 1 1] w fun e w' =>
      ∃ G, e = .returned (.slice (some ⟨w.heap.size, 0, none⟩) (n + 1) G) ∧ w'.ownsRow B 37 6 (.slice (some ⟨w.heap.size, 0, none⟩) (n + 1) G) (n + 1) (putInC xs us i) ∧ w.grownBy w' none := by
  obtain ⟨G, w1, w2, w3, hG1, hG2, hap, hcp1, hcp2, hown, hgr⟩ := grow_factsC B g n i gx xs us w h hB hi hn h1 hu hgx hu1
  have HA := Lib.hid hap
  have H1 := Lib.hid hcp1
  have H2 := Lib.hid hcp2
  have HO := Lib.hid hown
  unfold maxLen at hG2
  clear hap hcp1 hcp2 hown h hgx hu hu1 h1 hB
  obtain ⟨N, hN⟩ : ∃ N, N = w.heap.size := ⟨_, rfl⟩
  rw [← hN] at HA H1 H2 HO ⊢
  clear hN
  have e1 : (0 : Int) ≤ (i : Int) := by omega
  have e2 : (i : Int) ≤ (n : Int) := by omega
  have e3 : ¬ ((i : Int) = (n : Int)) := by omega
  have e4 : (n : Int) < (n : Int) + 1 := by omega
  have e6 : ((i : Int) + 1).toNat = i + 1 := by omega
  have e7 : (0 : Int) ≤ (i : Int) + 1 := by omega
  have e8 : (i : Int) + 1 ≤ (n : Int) + 1 := by omega
  have e9 : (i : Int) ≤ (n : Int) + 1 := by omega
  have f1 : ¬ (n = i) := by omega
  have f2 : ¬ (G = i) := by omega
  have f3 : ¬ (G = i + 1) := by omega
  have f4 : i ≤ n + 1 := by omega
  have f5 : ((n : Int) + 1).toNat = n + 1 := by omega
  have f7 : i + 1 ≤ n + 1 := by omega
  have f8 : i ≤ n := by omega
  go_enter Try.func55, Try.ntmps55
  go_wp2_with (first | (at_builtin; refine wpList_app_run (o := ⟨some 40, _, _, _, _, _⟩) _ rfl (.tmp 34) (.tmp 39) 22 3 rfl rfl rfl (HA.out _) ?_) | refine wpList_copy_run (o := ⟨some 45, _, _, _, _, _⟩) _ rfl (.tmp 43) (.tmp 44) 22 22 rfl rfl rfl (H1.out _ _) ?_)
  have g1 : IntKind.i64.wrap ((i : Int) + 1) = (i : Int) + 1 := IntWalk.i64_in _ (by omega)
  go_still_tail 8, (by kernel_rfl)
  change wpList _ _ _ _ _ w2.drew
  go_wp2_with (first | refine wpList_copy_run (o := ⟨some 54, _, _, _, _, _⟩) _ rfl (.tmp 50) (.tmp 53) 22 22 rfl rfl rfl (H2.out _ _ _) ?_)
  go_ret
  exact ⟨G, rfl, HO.out, hgr⟩

end Go.Proofs.Ytejkeccoialogaa
/-
  slices.Insert of one element at a row's end.
-/
namespace Go.Proofs.Ytejkeccoialogaa
open Go.RowKit

set_option maxRecDepth 100000 in
set_option maxHeartbeats 4000000 in
theorem insert_endC (B gx n : Nat) (v : Value) (xs us : List Value) (w : World) (h : w.ownsRow B 37 6 v n xs) (hB : B ≤ w.heap.size) (hn : n ≤ 1000000)
    (hu : us.length = 6) (hgx : w.heap[gx]? = some (.cells us.toArray 37 (0, 0))) (hu1 : ∀ v ∈ us, v.oneCell' = true) :
    Calls Try.prog 55 #[v, .int .i64 n, .slice (some ⟨gx, 0, none⟩) 1 1] w fun e w' =>
      ∃ g' c', e = .returned (.slice (some ⟨g', 0, none⟩) (n + 1) c') ∧ w'.ownsRow B 37 6 (.slice (some ⟨g', 0, none⟩) (n + 1) c') (n + 1) (xs ++ us) ∧ w.grownBy w' v.ownBlock ∧ (v.ownBlock = some g' ∨ g' = w.heap.size) := by
  obtain ⟨i0, hi0, hz0, hz1, hz2⟩ := info_parts info_zcert
  have hcell : ∀ j y, us[j]? = some y → w.cell? ((⟨gx, 0, none⟩ : Addr).add j) = some y := fun j y hj => by
    rw [Addr.add_lit, cell_of_row _ _ _ _ _ _ hgx]; simpa using hj
  have HU := Lib.hid hcell
  have HL := Lib.hid hu
  have HO := Lib.hid hu1
  clear hcell hu hgx hu1
  have hown := h
  obtain ⟨A, c, rfl, hnc, hcm, _, _, hxl⟩ := ownS_slice h
  have HX := Lib.hid hxl
  have HW := Lib.hid hown
  clear h hown hxl
  unfold maxLen at hcm
  have e1 : (0 : Int) ≤ (n : Int) := by omega
  by_cases hc : c = n
  all_goals rcases A with _ | A
  all_goals
    go_enter Try.func55, Try.ntmps55
    go_wp2_with (at_builtin; refine wpList_append_lies (o := ⟨some 25, _, _, _, _, _⟩) _ rfl (.tmp 23) (.tmp 24) 22 rfl B 37 i0 zcert 6 96 Try.underlying22 hi0 hz0 hz1 hz2 rfl (by decide) (.slice _ n c) n xs rfl HW.out ⟨gx, 0, none⟩ 1 1 us rfl HL.out HU.out HO.out (by decide) (by unfold maxLen; omega) (by omega) hB _ rfl ?_)
    intro g' c' w' k1 k2 k3 k4
    go_wp2
    go_ret
    exact ⟨g', c', rfl, k1, k2, k3⟩

end Go.Proofs.Ytejkeccoialogaa
/-
  slices.Insert of one element into a row of certificates, anywhere.
-/
namespace Go.Proofs.Ytejkeccoialogaa
open Go.RowKit

theorem putIn_endC {xs us : List Value} {n : Nat} (h : xs.length = n * 6) : putInC xs us n = xs ++ us := by
  rw [putInC, List.take_of_length_le (by omega), List.drop_of_length_le (by omega), List.append_nil]

theorem insert_anyC (B gx n i : Nat) (v : Value) (xs us : List Value) (w : World) (h : w.ownsRow B 37 6 v n xs) (hB : B ≤ w.heap.size) (hi : i ≤ n) (hn : n ≤ 1000000) (h1 : ∀ v ∈ xs, v.oneCell' = true)
    (hu : us.length = 6) (hgx : w.heap[gx]? = some (.cells us.toArray 37 (0, 0))) (hu1 : ∀ v ∈ us, v.oneCell' = true) (hne : v.ownBlock ≠ some gx) :
    Calls Try.prog 55 #[v, .int .i64 i, .slice (some ⟨gx, 0, none⟩) 1 1] w fun e w' =>
      ∃ v', e = .returned v' ∧ w'.ownsRow B 37 6 v' (n + 1) (putInC xs us i) ∧ w.grownBy w' v.ownBlock ∧ (v'.ownBlock = v.ownBlock ∨ v'.ownBlock = some w.heap.size) := by
  rcases Nat.lt_or_ge i n with hlt | hge
  · rcases h.2 with ⟨rfl, h0⟩ | ⟨g, cap, cur, rfl, hb, hg, hnc, hcm, hcs, ht⟩
    · omega
    · have hgg : gx ≠ g := fun e => hne (by rw [e]; rfl)
      rcases Nat.lt_or_ge n cap with hroom | hfull
      · refine (insert_roomC B g cap n i gx xs us w h hlt (by omega) hn h1 hu hgx hu1 hgg).mono ?_
        rintro e w' ⟨rfl, h2, h3⟩
        exact ⟨_, rfl, h2, h3, .inl rfl⟩
      · obtain rfl : cap = n := by omega
        refine (insert_growC B g cap i gx xs us w h hB hlt hn h1 hu hgx hu1).mono ?_
        rintro e w' ⟨G, rfl, h2, h3⟩
        exact ⟨_, rfl, h2, ⟨h3.os, h3.tape, h3.output, h3.size, fun k hk _ => h3.block k hk (by simp)⟩, .inr rfl⟩
  · obtain rfl : i = n := by omega
    refine (insert_endC B gx i v xs us w h hB hn hu hgx hu1).mono ?_
    rintro e w' ⟨g', c', rfl, h2, h3, h4⟩
    exact ⟨_, rfl, by rw [putIn_endC h.1]; exact h2, h3, h4.elim (fun h => .inl h.symm) (fun h => .inr (by rw [h]; rfl))⟩

end Go.Proofs.Ytejkeccoialogaa
