/-
  slices.Insert of one element into a row of certificates.
-/
import Derived.Test.YtlblhpbhcaljhaaDDel
import Derived.Test.YtlblhpbhcaljhaaDIns
import Derived.Laws.Externs
namespace Go.Proofs.Ytlblhpbhcaljhaa
open Go.RowKit

def zcert : Value := .agg #[.int .i64 0, .int .i64 0, .slice none 0 0, .slice none 0 0, .int .i64 0, .slice none 0 0]
theorem info_zcert : (Try.prog.info? 45).map (fun i => (i.zero, i.size, i.bytes)) = some (some zcert, 6, 96) := by kernel_rfl
theorem zcert_one : ∀ v ∈ zcert.cells.toList, v.oneCell' = true := by
  exact fun v hv => List.all_eq_true.1 (show zcert.cells.toList.all (·.oneCell') = true from rfl) v hv

/-- what stands ahead of i, the new element, what stood from i on -/
def putInC (xs us : List Value) (i : Nat) : List Value := xs.take (i * 6) ++ us ++ xs.drop (i * 6)

set_option maxRecDepth 100000 in
set_option maxHeartbeats 8000000 in
theorem insert_roomC (B g cap n i gx : Nat) (xs us : List Value) (w : World) (h : w.ownsRow B 45 6 (.slice (some ⟨g, 0, none⟩) n cap) n xs) (hi : i < n) (hroom : n + 1 ≤ cap) (hn : n ≤ 1000000) (h1 : ∀ v ∈ xs, v.oneCell' = true)
    (hu : us.length = 6) (hgx : w.heap[gx]? = some (.cells us.toArray 45 (0, 0))) (hu1 : ∀ v ∈ us, v.oneCell' = true) (hne : gx ≠ g) :
    Calls Try.prog 59 #[.slice (some ⟨g, 0, none⟩) n cap, .int .i64 i, .slice (some ⟨gx, 0, none⟩) 1 1] w fun e w' =>
      e = .returned (.slice (some ⟨g, 0, none⟩) (n + 1) cap) ∧ w'.ownsRow B 45 6 (.slice (some ⟨g, 0, none⟩) (n + 1) cap) (n + 1) (putInC xs us i) ∧ w.grownBy w' (some g) := by
  obtain ⟨cur, hg, hb, hnc, hcm, hcs, hx⟩ := row_open h
  obtain ⟨i0, hi0, hz0, hz1, hz2⟩ := info_parts info_zcert
  have HCM := Lib.hid hcm
  unfold maxLen at hcm
  have hgd : w.drew.heap[g]? = some (.cells cur 45 (0, 0)) := hg
  -- slices.overlaps
  have hov : ∀ lb cb, (callFunc 79 #[.slice (some ⟨gx, 0, none⟩) 1 1, .slice (some ⟨g, (i + 1) * 6, none⟩) lb cb]).run Try.prog w = .ok (.value (.bool false)) w := fun lb cb => by
    rw [run_callFunc_extern Try.func79 (by kernel_rfl) (by kernel_rfl) (by kernel_rfl) (e := Extern.SlicesOverlaps.overlaps #[22, 22] #[4]) (by kernel_rfl),
      Lib.run_overlaps_apart w 22 4 45 Try.underlying22 6 Try.sizeOf45 ⟨gx, 0, none⟩ ⟨g, (i + 1) * 6, none⟩ 1 1 lb cb hne 45 45 6 cur.size (by unfold World.shape?; rw [hgx]; simp [hu]) (by unfold World.shape?; rw [hg]) (by omega) (frozen_of_row _ _ _ _ _ hgx) (frozen_of_row _ _ _ _ _ hgx)]
    rfl
  -- what stood from i on goes up
  obtain ⟨cs1, hcs1⟩ : ∃ cs1, cs1 = (cur.toList.drop (i * 6)).take ((n - i) * 6) := ⟨_, rfl⟩
  have hlen : cs1.length = (n - i) * 6 := by rw [hcs1]; simp; omega
  obtain ⟨cur1, hcur1⟩ : ∃ cur1, cur1 = over cur ((i + 1) * 6) cs1 := ⟨_, rfl⟩
  obtain ⟨w1, hw1⟩ : ∃ w1, w1 = w.drew.setRow g cur1 := ⟨_, rfl⟩
  have hsz1 : cur1.size = cur.size := by rw [hcur1]; exact over_size (by omega)
  have hg1 : w1.heap[g]? = some (.cells cur1 45 (0, 0)) := by rw [hw1, hcur1]; exact row_over _ hgd _ _
  have hgx1 : w1.heap[gx]? = some (.cells us.toArray 45 (0, 0)) := by rw [hw1, setRow_other _ _ _ _ hne]; exact hgx
  have hcp1 : ∀ ty dc sc, (Builtin.copy_ #[22, 22] ty #[.slice (some ⟨g, (i + 1) * 6, none⟩) (n - i) dc, .slice (some ⟨g, i * 6, none⟩) (n + 1 - i) sc]).run Try.prog w.drew = .ok (goInt (n - i : Nat)) w1 := by
    intro ty dc sc
    have := run_copy_in (P := Try.prog) w.drew (t := 22) (ty := ty) Try.underlying22 hi0 hgd (o := (i + 1) * 6) (D := some ⟨g, (i + 1) * 6, none⟩) (A := some ⟨g, i * 6, none⟩) (dn := n - i) (dc := dc) (k := n + 1 - i) (kc := sc) (m := n - i) (cs := cs1)
      (by simp only [Nat.min_def]; split <;> omega) (by rw [hz1]; exact hlen) (fun _ => ⟨rfl, _, rfl, by rw [hcs1]; exact cells_part hgd _ _⟩) (by rw [hz1]; omega) (by rw [hcs1]; exact one_part_in hx h1 (by omega))
    rw [← hcur1, ← hw1] at this
    exact this
  obtain ⟨cur2, hcur2⟩ : ∃ cur2, cur2 = over cur1 (i * 6) us := ⟨_, rfl⟩
  obtain ⟨w2, hw2⟩ : ∃ w2, w2 = w1.setRow g cur2 := ⟨_, rfl⟩
  have hcp2 : ∀ ty dc, (Builtin.copy_ #[22, 22] ty #[.slice (some ⟨g, i * 6, none⟩) (n + 1 - i) dc, .slice (some ⟨gx, 0, none⟩) 1 1]).run Try.prog w1 = .ok (goInt (1 : Nat)) w2 := by
    intro ty dc
    have := run_copy_in (P := Try.prog) w1 (t := 22) (ty := ty) Try.underlying22 hi0 hg1 (o := i * 6) (D := some ⟨g, i * 6, none⟩) (A := some ⟨gx, 0, none⟩) (dn := n + 1 - i) (dc := dc) (k := 1) (kc := 1) (m := 1) (cs := us)
      (by simp only [Nat.min_def]; split <;> omega) (by rw [hz1]; omega) (fun _ => ⟨rfl, _, rfl, fun j v hj => by rw [Addr.add_lit, cell_of_row _ _ _ _ _ _ hgx1]; simpa using hj⟩) (by rw [hz1]; omega) hu1
    rw [← hcur2, ← hw2] at this
    exact this
  have hres : w2.ownsRow B 45 6 (.slice (some ⟨g, 0, none⟩) (n + 1) cap) (n + 1) (putInC xs us i) ∧ w.grownBy w2 (some g) := by
    refine ⟨row_shut (cur := cur2) ?_ hb (by omega) HCM.out ?_ ?_, ?_⟩
    · rw [hw2, hcur2]; exact row_over _ hg1 _ _
    · rw [hcur2, over_size (by omega), hsz1, hcs]
    · have hcl : cur.toList.length = cap * 6 := by rw [Array.length_toList, hcs]
      rw [hcur2, over_list, hcur1, over_list, hcs1, hu, putInC, ← hx]
      apply List.ext_getElem?
      intro j
      simp only [List.getElem?_take, List.getElem?_append, List.length_append, List.length_take, List.length_drop, List.getElem?_drop, hcl, hu]
      rcases Nat.lt_or_ge j ((n + 1) * 6) with hj | hj
      · rw [if_pos hj]
        rcases Nat.lt_or_ge j (i * 6) with h2 | h2
        · repeat' split
          all_goals first | rfl | (exfalso; omega)
        · rcases Nat.lt_or_ge j (i * 6 + 6) with h3 | h3
          · repeat' split
            all_goals first | rfl | (exfalso; omega) | (congr 1; omega)
          · repeat' split
            all_goals first | rfl | (exfalso; omega) | (congr 1; omega)
      · rw [if_neg (by omega)]
        repeat' split
        all_goals first | rfl | (exfalso; omega) | (symm; apply List.getElem?_eq_none; omega)
    · rw [hw2, hw1]
      exact grown_trans (w' := w.drew.setRow g cur1) (grown_trans (w' := w.drew) ⟨rfl, rfl, rfl, Nat.le_refl _, fun _ _ _ => rfl⟩ (setRow_grown w.drew g cur1)) (setRow_grown _ g cur2)
  have HV := Lib.hid hov
  have H1 := Lib.hid hcp1
  have H2 := Lib.hid hcp2
  have HS := Lib.hid hres
  clear hov hcp1 hcp2 hres hsz1 hcs hlen hz0 hz1 hz2 hi0 h1 hcur1 hcs1 hx hw1 hw2 hcur2 h hg hgd hg1 hgx hgx1 hu hu1
  have e1 : (0 : Int) ≤ (i : Int) := by omega
  have e2 : (i : Int) ≤ (n : Int) := by omega
  have e3 : ¬ ((i : Int) = (n : Int)) := by omega
  have e4 : ¬ ((cap : Int) < (n : Int) + 1) := by omega
  have e6 : ((i : Int) + 1).toNat = i + 1 := by omega
  have e7 : (0 : Int) ≤ (i : Int) + 1 := by omega
  have e8 : (i : Int) + 1 ≤ (n : Int) + 1 := by omega
  have e9 : (i : Int) ≤ (n : Int) + 1 := by omega
  have f1 : ¬ (cap = i) := by omega
  have f2 : ¬ (cap = i + 1) := by omega
  have f3 : (n : Int) + 1 ≤ (cap : Int) := by omega
  have f4 : i ≤ n + 1 := by omega
  have f5 : ((n : Int) + 1).toNat = n + 1 := by omega
  have f6 : n + 1 ≤ cap := hroom
  have f7 : i + 1 ≤ n + 1 := by omega
  have f8 : i ≤ n := by omega
  have hov := HV.out
  go_enter Try.func59, Try.ntmps59
  go_wp2
  clear hov
  have g1 : IntKind.i64.wrap ((i : Int) + 1) = (i : Int) + 1 := IntWalk.i64_in _ (by omega)
  go_still_tail 8, (by kernel_rfl)
  change wpList _ _ _ _ _ w.drew
  go_wp2_with (first | refine wpList_copy_run (o := ⟨some 77, _, _, _, _, _⟩) _ rfl (.tmp 73) (.tmp 76) 22 22 rfl rfl rfl (H1.out _ _ _) ?_ | refine wpList_copy_run (o := ⟨some 82, _, _, _, _, _⟩) _ rfl (.tmp 80) (.tmp 81) 22 22 rfl rfl rfl (H2.out _ _) ?_)
  go_ret
  exact ⟨rfl, HS.out⟩

end Go.Proofs.Ytlblhpbhcaljhaa
