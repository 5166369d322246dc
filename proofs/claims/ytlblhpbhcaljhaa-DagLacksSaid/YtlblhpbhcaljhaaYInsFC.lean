/-
  slices.Insert of one element into a row of certificates that has no room; at its end; any.
-/
import Derived.Test.YtlblhpbhcaljhaaYInsC
import Derived.Test.YtlblhpbhcaljhaaDInsF
namespace Go.Proofs.Ytlblhpbhcaljhaa
open Go.RowKit

set_option maxHeartbeats 4000000 in
theorem grow_factsC (B g n i gx : Nat) (xs us : List Value) (w : World) (h : w.ownsRow B 45 6 (.slice (some ⟨g, 0, none⟩) n n) n xs) (hB : B ≤ w.heap.size) (hi : i < n) (hn : n ≤ 1000000) (h1 : ∀ v ∈ xs, v.oneCell' = true)
    (hu : us.length = 6) (hgx : w.heap[gx]? = some (.cells us.toArray 45 (0, 0))) (hu1 : ∀ v ∈ us, v.oneCell' = true) :
    ∃ (G : Nat) (w1 w2 w3 : World), n + 1 ≤ G ∧ G ≤ maxLen ∧
      (∀ ty, (Builtin.append_ #[22, 3] ty #[.slice (some ⟨g, 0, none⟩) i n, .int .i64 ((n : Int) + 1 - (i : Int))]).run Try.prog w = .ok (.slice (some ⟨w.heap.size, 0, none⟩) (n + 1) G) w1) ∧
      (∀ ty dc, (Builtin.copy_ #[22, 22] ty #[.slice (some ⟨w.heap.size, i * 6, none⟩) (n + 1 - i) dc, .slice (some ⟨gx, 0, none⟩) 1 1]).run Try.prog w1 = .ok (goInt (1 : Nat)) w2) ∧
      (∀ ty dc sc, (Builtin.copy_ #[22, 22] ty #[.slice (some ⟨w.heap.size, (i + 1) * 6, none⟩) (n - i) dc, .slice (some ⟨g, i * 6, none⟩) (n - i) sc]).run Try.prog w2.drew = .ok (goInt (n - i : Nat)) w3) ∧
      w3.ownsRow B 45 6 (.slice (some ⟨w.heap.size, 0, none⟩) (n + 1) G) (n + 1) (putInC xs us i) ∧ w.grownBy w3 none := by
  obtain ⟨cur, hg, hb, hnc, hcm, hcs, hx⟩ := row_open h
  obtain ⟨i0, hi0, hz0, hz1, hz2⟩ := info_parts info_zcert
  have hgl : g < w.heap.size := (Array.getElem?_eq_some_iff.1 hg).1
  have hgxl : gx < w.heap.size := (Array.getElem?_eq_some_iff.1 hgx).1
  have hgd : w.drew.heap[g]? = some (.cells cur 45 (0, 0)) := hg
  have hcl : cur.toList.length = n * 6 := by rw [Array.length_toList, hcs]
  have hcur1 : ∀ v ∈ cur.toList, v.oneCell' = true := fun v hv => h1 v (by rw [← hx, List.take_of_length_le (by omega)]; exact hv)
  have hold : (Builtin.firstCells i0.size i (.slice (some ⟨g, 0, none⟩) i n)).run Try.prog w.drew = .ok (cur.toList.take (i * 6)).toArray w.drew := by
    have := run_loadCells_list (P := Try.prog) w.drew ⟨g, 0, none⟩ ((cur.toList.drop 0).take (i * 6)) (cells_part hgd 0 (i * 6))
    simp only [List.drop_zero] at this
    have hl : (cur.toList.take (i * 6)).length = i * 6 := by rw [List.length_take]; omega
    rw [hl] at this
    simp only [Builtin.firstCells, hz1]
    exact this
  have hap : ∀ ty, (Builtin.append_ #[22, 3] ty #[.slice (some ⟨g, 0, none⟩) i n, .int .i64 ((n : Int) + 1 - (i : Int))]).run Try.prog w = .ok (.slice (some ⟨w.heap.size, 0, none⟩) (n + 1) (grownCap w (n + 1) n 45)) (w.drew.alloc (.cells ((cur.toList.take (i * 6)).toArray ++ Builtin.zeroCells zcert.cells (n + 1 - i) ++ Builtin.zeroCells zcert.cells (grownCap w (n + 1) n 45 - (n + 1))) 45)) := fun ty => by
    have := Lib.run_append_grow_zeros (P := Try.prog) w 22 3 ty 45 i0 _ .i64 .i64 Try.underlying22 Try.underlying3 hi0 hz0 (some ⟨g, 0, none⟩) i n (cur.toList.take (i * 6)) hold (n + 1 - i) (by omega) (by omega) (by omega) (by omega) (by rw [hz2]; omega) (by rw [hz2, show i + (n + 1 - i) = n + 1 by omega]; exact growslice_fits (by omega) (by omega))
    rw [show i + (n + 1 - i) = n + 1 by omega] at this
    rw [show ((n : Int) + 1 - (i : Int)) = ((n + 1 - i : Nat) : Int) by omega]
    exact this
  obtain ⟨G, hG⟩ : ∃ G, G = grownCap w (n + 1) n 45 := ⟨_, rfl⟩
  rw [← hG] at hap
  have hGn : n + 1 ≤ G := by rw [hG]; exact grownCap_ge w _ _ _
  have hGm : G ≤ maxLen := by rw [hG]; exact grownCap_le_maxLen w _ _ _ (by unfold maxLen; omega)
  obtain ⟨row, hrow⟩ : ∃ row : Array Value, row = (cur.toList.take (i * 6)).toArray ++ Builtin.zeroCells zcert.cells (n + 1 - i) ++ Builtin.zeroCells zcert.cells (G - (n + 1)) := ⟨_, rfl⟩
  rw [← hrow] at hap
  have hzc : zcert.cells.size = 6 := rfl
  have hrs : row.size = G * 6 := by
    rw [hrow]
    simp only [Array.size_append, size_zeroCells, hzc, List.size_toArray, List.length_take, hcl]
    omega
  have hrl : row.toList.length = G * 6 := by rw [Array.length_toList, hrs]
  have hr0 : row.toList.take (i * 6) = cur.toList.take (i * 6) := by
    rw [hrow]
    simp only [Array.toList_append, List.append_assoc]
    rw [List.take_append_of_le_length (by simp; omega), List.take_take, Nat.min_self]
  have hap2 : ∃ w1, (∀ ty, (Builtin.append_ #[22, 3] ty #[.slice (some ⟨g, 0, none⟩) i n, .int .i64 ((n : Int) + 1 - (i : Int))]).run Try.prog w = .ok (.slice (some ⟨w.heap.size, 0, none⟩) (n + 1) G) w1) ∧ w1 = w.drew.alloc (.cells row 45) := ⟨_, hap, rfl⟩
  obtain ⟨w1, hap1, hw1⟩ := hap2
  have hN1 : w1.heap[w.heap.size]? = some (.cells row 45 (0, 0)) := by rw [hw1]; exact heap_alloc_new w.drew _
  have hold1 : ∀ k, k < w.heap.size → w1.heap[k]? = w.heap[k]? := fun k hk => by rw [hw1]; exact (World.grownBy_alloc w.drew _ none).block k hk (by simp)
  have hs1 : w1.heap.size = w.heap.size + 1 := by rw [hw1]; simp
  obtain ⟨row2, hrow2⟩ : ∃ row2, row2 = over row (i * 6) us := ⟨_, rfl⟩
  obtain ⟨w2, hw2⟩ : ∃ w2, w2 = w1.setRow w.heap.size row2 := ⟨_, rfl⟩
  have hr2s : row2.size = row.size := by rw [hrow2]; exact over_size (by omega)
  have hN2 : w2.heap[w.heap.size]? = some (.cells row2 45 (0, 0)) := by rw [hw2, hrow2]; exact row_over _ hN1 _ _
  have hold2 : ∀ k, k < w.heap.size → w2.heap[k]? = w.heap[k]? := fun k hk => by rw [hw2, setRow_other _ _ _ _ (by omega)]; exact hold1 k hk
  have hN2d : w2.drew.heap[w.heap.size]? = some (.cells row2 45 (0, 0)) := hN2
  have hg2 : w2.drew.heap[g]? = some (.cells cur 45 (0, 0)) := by show w2.heap[g]? = _; rw [hold2 g hgl]; exact hg
  have hcp1 : ∀ ty dc, (Builtin.copy_ #[22, 22] ty #[.slice (some ⟨w.heap.size, i * 6, none⟩) (n + 1 - i) dc, .slice (some ⟨gx, 0, none⟩) 1 1]).run Try.prog w1 = .ok (goInt (1 : Nat)) w2 := by
    intro ty dc
    have := run_copy_in (P := Try.prog) w1 (t := 22) (ty := ty) Try.underlying22 hi0 hN1 (o := i * 6) (D := some ⟨w.heap.size, i * 6, none⟩) (A := some ⟨gx, 0, none⟩) (dn := n + 1 - i) (dc := dc) (k := 1) (kc := 1) (m := 1) (cs := us)
      (by simp only [Nat.min_def]; split <;> omega) (by rw [hz1]; omega) (fun _ => ⟨rfl, _, rfl, fun j v hj => by rw [Addr.add_lit, cell_of_row _ _ _ us.toArray 45 (0, 0) (by rw [hold1 gx hgxl]; exact hgx)]; simpa using hj⟩) (by rw [hz1, hrs]; omega) hu1
    rw [← hrow2, ← hw2] at this
    exact this
  obtain ⟨cs1, hcs1⟩ : ∃ cs1, cs1 = (cur.toList.drop (i * 6)).take ((n - i) * 6) := ⟨_, rfl⟩
  have hlen : cs1.length = (n - i) * 6 := by rw [hcs1]; simp; omega
  obtain ⟨row3, hrow3⟩ : ∃ row3, row3 = over row2 ((i + 1) * 6) cs1 := ⟨_, rfl⟩
  obtain ⟨w3, hw3⟩ : ∃ w3, w3 = w2.drew.setRow w.heap.size row3 := ⟨_, rfl⟩
  have hcp2 : ∀ ty dc sc, (Builtin.copy_ #[22, 22] ty #[.slice (some ⟨w.heap.size, (i + 1) * 6, none⟩) (n - i) dc, .slice (some ⟨g, i * 6, none⟩) (n - i) sc]).run Try.prog w2.drew = .ok (goInt (n - i : Nat)) w3 := by
    intro ty dc sc
    have := run_copy_in (P := Try.prog) w2.drew (t := 22) (ty := ty) Try.underlying22 hi0 hN2d (o := (i + 1) * 6) (D := some ⟨w.heap.size, (i + 1) * 6, none⟩) (A := some ⟨g, i * 6, none⟩) (dn := n - i) (dc := dc) (k := n - i) (kc := sc) (m := n - i) (cs := cs1)
      (by simp only [Nat.min_def]; split <;> omega) (by rw [hz1]; exact hlen) (fun _ => ⟨rfl, _, rfl, by rw [hcs1]; exact cells_part hg2 _ _⟩) (by rw [hz1, hr2s, hrs]; omega) (by rw [hcs1]; exact one_part hcur1)
    rw [← hrow3, ← hw3] at this
    exact this
  refine ⟨G, w1, w2, w3, hGn, hGm, hap1, hcp1, hcp2, ?_, ?_⟩
  · refine row_shut (cur := row3) (by rw [hw3, hrow3]; exact row_over _ hN2d _ _) hB hGn hGm (by rw [hrow3, over_size (by rw [hr2s, hrs]; omega), hr2s, hrs]) ?_
    have hr2l : row2.toList.length = G * 6 := by rw [Array.length_toList, hr2s, hrs]
    have htk : row2.toList.take ((i + 1) * 6) = xs.take (i * 6) ++ us := by
      have hxl : xs.length = n * 6 := by rw [← hx, List.length_take]; omega
      have hA : row.toList.take (i * 6) = xs.take (i * 6) := by rw [hr0, ← hx, List.take_take, Nat.min_eq_left (by omega : i * 6 ≤ n * 6)]
      have l1 : (xs.take (i * 6) ++ us).length = (i + 1) * 6 := by rw [List.length_append, List.length_take, hxl, hu]; omega
      rw [hrow2, over_list, hA, List.take_append_of_le_length (by omega), List.take_of_length_le (by omega)]
    have hxl : xs.length = n * 6 := by rw [← hx, List.length_take]; omega
    have l1 : (xs.take (i * 6) ++ us).length = (i + 1) * 6 := by rw [List.length_append, List.length_take, hxl, hu]; omega
    have l2 : (xs.take (i * 6) ++ us ++ cs1).length = (n + 1) * 6 := by rw [List.length_append, l1, hlen]; omega
    rw [hrow3, over_list, htk, putInC, List.take_append_of_le_length (by omega), List.take_of_length_le (by omega), hcs1, ← hx, List.drop_take, show (n - i) * 6 = n * 6 - i * 6 by omega]
  · rw [hw3]
    refine ⟨by rw [setRow_os]; show w2.os = _; rw [hw2, setRow_os, hw1]; rfl, by rw [setRow_tape]; show w2.tape = _; rw [hw2, setRow_tape, hw1]; rfl, by rw [setRow_output]; show w2.output = _; rw [hw2, setRow_output, hw1]; rfl, by rw [setRow_size]; show _ ≤ w2.heap.size; rw [hw2, setRow_size, hs1]; omega, fun k hk _ => by rw [setRow_other _ _ _ _ (by omega)]; exact hold2 k hk⟩

end Go.Proofs.Ytlblhpbhcaljhaa
