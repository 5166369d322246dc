/-
 slices.Insert of one element into a row of waits.
-/
import Derived.Laws.Externs
import Derived.Deep.AppendLies
import Derived.Deep.DeepCutAuto
import Derived.Deep.CutRange
import Derived.Deep.RegionLaw
import Derived.Test.YteepobghdpnabaaGreatKBg
import Derived.Test.YteepobghdpnabaaGreatKBe
namespace Go.Proofs.YteepobghdpnabaaGreat
open Go.RowKit

def zwait : Value := .agg #[.int .i64 0, .slice none 0 0]
theorem info_zwait : (Tryz.prog.info? 56).map (fun i => (i.zero, i.size, i.bytes)) = some (some zwait, 2, 32) := by kernel_rfl
def putInW (xs us : List Value) (i : Nat) : List Value := xs.take (i * 2) ++ us ++ xs.drop (i * 2)

set_option maxRecDepth 100000 in
set_option maxHeartbeats 8000000 in
theorem insert_roomW (B g cap n i gx : Nat) (xs us : List Value) (w : World) (h : w.ownsRow B 56 2 (.slice (some ⟨g, 0, none⟩) n cap) n xs) (hi : i < n) (hroom : n + 1 ≤ cap) (hn : n ≤ 1000000) (h1 : ∀ v ∈ xs, v.oneCell' = true)
  (hu : us.length = 2) (hgx : w.heap[gx]? = some (.cells us.toArray 56 (0, 0))) (hu1 : ∀ v ∈ us, v.oneCell' = true) (hne : gx ≠ g) :
  Calls Tryz.prog 94 #[.slice (some ⟨g, 0, none⟩) n cap, .int .i64 i, .slice (some ⟨gx, 0, none⟩) 1 1] w fun e w' =>
   e = .returned (.slice (some ⟨g, 0, none⟩) (n + 1) cap) ∧ w'.ownsRow B 56 2 (.slice (some ⟨g, 0, none⟩) (n + 1) cap) (n + 1) (putInW xs us i) ∧ w.grownBy w' (some g) := by
 obtain ⟨cur, hg, hb, hnc, hcm, hcs, hx⟩ := row_open h
 obtain ⟨i0, hi0, hz0, hz1, hz2⟩ := info_parts info_zwait
 have HCM := Lib.hid hcm
 unfold maxLen at hcm
 have hgd : w.drew.heap[g]? = some (.cells cur 56 (0, 0)) := hg
 -- slices.overlaps
 have hov : ∀ lb cb, (callFunc 129 #[.slice (some ⟨gx, 0, none⟩) 1 1, .slice (some ⟨g, (i + 1) * 2, none⟩) lb cb]).run Tryz.prog w = .ok (.value (.bool false)) w := fun lb cb => by
  rw [run_callFunc_extern Tryz.func129 (by kernel_rfl) (by kernel_rfl) (by kernel_rfl) (e := Extern.SlicesOverlaps.overlaps #[23, 23] #[4]) (by kernel_rfl),
   Lib.run_overlaps_apart w 23 4 56 Tryz.underlying23 2 Tryz.sizeOf56 ⟨gx, 0, none⟩ ⟨g, (i + 1) * 2, none⟩ 1 1 lb cb hne 56 56 2 cur.size (by unfold World.shape?; rw [hgx]; simp [hu]) (by unfold World.shape?; rw [hg]) (by omega) (frozen_of_row _ _ _ _ _ hgx) (frozen_of_row _ _ _ _ _ hgx)]
  rfl
 -- what stood from i on goes up
 obtain ⟨cs1, hcs1⟩ : ∃ cs1, cs1 = (cur.toList.drop (i * 2)).take ((n - i) * 2) := ⟨_, rfl⟩
 have hlen : cs1.length = (n - i) * 2 := by rw [hcs1]; simp; omega
 obtain ⟨cur1, hcur1⟩ : ∃ cur1, cur1 = over cur ((i + 1) * 2) cs1 := ⟨_, rfl⟩
 obtain ⟨w1, hw1⟩ : ∃ w1, w1 = w.drew.setRow g cur1 := ⟨_, rfl⟩
 have hsz1 : cur1.size = cur.size := by rw [hcur1]; exact over_size (by omega)
 have hg1 : w1.heap[g]? = some (.cells cur1 56 (0, 0)) := by rw [hw1, hcur1]; exact row_over _ hgd _ _
 have hgx1 : w1.heap[gx]? = some (.cells us.toArray 56 (0, 0)) := by rw [hw1, setRow_other _ _ _ _ hne]; exact hgx
 have hcp1 : ∀ ty dc sc, (Builtin.copy_ #[23, 23] ty #[.slice (some ⟨g, (i + 1) * 2, none⟩) (n - i) dc, .slice (some ⟨g, i * 2, none⟩) (n + 1 - i) sc]).run Tryz.prog w.drew = .ok (goInt (n - i : Nat)) w1 := by
  intro ty dc sc
  have := run_copy_in (P := Tryz.prog) w.drew (t := 23) (ty := ty) Tryz.underlying23 hi0 hgd (o := (i + 1) * 2) (D := some ⟨g, (i + 1) * 2, none⟩) (A := some ⟨g, i * 2, none⟩) (dn := n - i) (dc := dc) (k := n + 1 - i) (kc := sc) (m := n - i) (cs := cs1)
   (by simp only [Nat.min_def]; split <;> omega) (by rw [hz1]; exact hlen) (fun _ => ⟨rfl, _, rfl, by rw [hcs1]; exact cells_part hgd _ _⟩) (by rw [hz1]; omega) (by rw [hcs1]; exact one_part_in hx h1 (by omega))
  rw [← hcur1, ← hw1] at this
  exact this
 obtain ⟨cur2, hcur2⟩ : ∃ cur2, cur2 = over cur1 (i * 2) us := ⟨_, rfl⟩
 obtain ⟨w2, hw2⟩ : ∃ w2, w2 = w1.setRow g cur2 := ⟨_, rfl⟩
 have hcp2 : ∀ ty dc, (Builtin.copy_ #[23, 23] ty #[.slice (some ⟨g, i * 2, none⟩) (n + 1 - i) dc, .slice (some ⟨gx, 0, none⟩) 1 1]).run Tryz.prog w1 = .ok (goInt (1 : Nat)) w2 := by
  intro ty dc
  have := run_copy_in (P := Tryz.prog) w1 (t := 23) (ty := ty) Tryz.underlying23 hi0 hg1 (o := i * 2) (D := some ⟨g, i * 2, none⟩) (A := some ⟨gx, 0, none⟩) (dn := n + 1 - i) (dc := dc) (k := 1) (kc := 1) (m := 1) (cs := us)
   (by simp only [Nat.min_def]; split <;> omega) (by rw [hz1]; omega) (fun _ => ⟨rfl, _, rfl, fun j v hj => by rw [Addr.add_lit, cell_of_row _ _ _ _ _ _ hgx1]; simpa using hj⟩) (by rw [hz1]; omega) hu1
  rw [← hcur2, ← hw2] at this
  exact this
 have hres : w2.ownsRow B 56 2 (.slice (some ⟨g, 0, none⟩) (n + 1) cap) (n + 1) (putInW xs us i) ∧ w.grownBy w2 (some g) := by
  refine ⟨row_shut (cur := cur2) ?_ hb (by omega) HCM.out ?_ ?_, ?_⟩
  ·rw [hw2, hcur2]; exact row_over _ hg1 _ _
  ·rw [hcur2, over_size (by omega), hsz1, hcs]
  ·have hcl : cur.toList.length = cap * 2 := by rw [Array.length_toList, hcs]
   rw [hcur2, over_list, hcur1, over_list, hcs1, hu, putInW, ← hx]
   apply List.ext_getElem?
   intro j
   simp only [List.getElem?_take, List.getElem?_append, List.length_append, List.length_take, List.length_drop, List.getElem?_drop, hcl, hu]
   rcases Nat.lt_or_ge j ((n + 1) * 2) with hj | hj
   ·rw [if_pos hj]
    rcases Nat.lt_or_ge j (i * 2) with h2 | h2
    ·repeat' split
     all_goals first | rfl | (exfalso; omega)
    ·rcases Nat.lt_or_ge j (i * 2 + 2) with h3 | h3
     ·repeat' split
      all_goals first | rfl | (exfalso; omega) | (congr 1; omega)
     ·repeat' split
      all_goals first | rfl | (exfalso; omega) | (congr 1; omega)
   ·rw [if_neg (by omega)]
    repeat' split
    all_goals first | rfl | (exfalso; omega) | (symm; apply List.getElem?_eq_none; omega)
  ·rw [hw2, hw1]
   exact grown_trans (w' := w.drew.setRow g cur1) (grown_trans (w' := w.drew) ⟨rfl, rfl, rfl, Nat.le_refl _, fun _ _ _ => rfl⟩ (setRow_grown w.drew g cur1)) (setRow_grown _ g cur2)
 have HV := Lib.hid hov
 have H1 := Lib.hid hcp1
 have H2 := Lib.hid hcp2
 have HS := Lib.hid hres
 clear hov hcp1 hcp2 hres hsz1 hcs hlen hz0 hz1 hz2 hi0 h1 hcur1 hcs1 hx hw1 hw2 hcur2 h hg hgd hg1 hgx hgx1 hu hu1
 have e1 : (0 : Int) ≤ (i : Int) := by omega
 have e2 : (i : Int) ≤ (n : Int) := by omega
 have e3 : ¬ ((i : Int) = (n : Int)) := by omega
 have e4 : ¬ ((cap : Int) < (n : Int) + 1) := by omega
 have e6 : ((i : Int) + 1).toNat = i + 1 := by omega
 have e7 : (0 : Int) ≤ (i : Int) + 1 := by omega
 have e8 : (i : Int) + 1 ≤ (n : Int) + 1 := by omega
 have e9 : (i : Int) ≤ (n : Int) + 1 := by omega
 have f1 : ¬ (cap = i) := by omega
 have f2 : ¬ (cap = i + 1) := by omega
 have f3 : (n : Int) + 1 ≤ (cap : Int) := by omega
 have f4 : i ≤ n + 1 := by omega
 have f5 : ((n : Int) + 1).toNat = n + 1 := by omega
 have f6 : n + 1 ≤ cap := hroom
 have f7 : i + 1 ≤ n + 1 := by omega
 have f8 : i ≤ n := by omega
 have hov := HV.out
 go_enter Tryz.func94, Tryz.ntmps94
 go_wp2
 clear hov
 have g1 : IntKind.i64.wrap ((i : Int) + 1) = (i : Int) + 1 := IntWalk.i64_in _ (by omega)
 go_still_tail 8, (by kernel_rfl)
 change wpList _ _ _ _ _ w.drew
 go_wp2_with (first | refine wpList_copy_run (o := ⟨some 77, _, _, _, _, _⟩) _ rfl (.tmp 73) (.tmp 76) 23 23 rfl rfl rfl (H1.out _ _ _) ?_ | refine wpList_copy_run (o := ⟨some 82, _, _, _, _, _⟩) _ rfl (.tmp 80) (.tmp 81) 23 23 rfl rfl rfl (H2.out _ _) ?_)
 go_ret
 exact ⟨rfl, HS.out⟩

end Go.Proofs.YteepobghdpnabaaGreat
namespace Go.Proofs.YteepobghdpnabaaGreat
open Go.RowKit

def zheld : Value := .agg #[.int .i64 0, .int .i64 0, .int .i64 0, .slice none 0 0]
theorem info_zheld : (Tryz.prog.info? 70).map (fun i => (i.zero, i.size, i.bytes)) = some (some zheld, 4, 48) := by kernel_rfl
def putInH (xs us : List Value) (i : Nat) : List Value := xs.take (i * 4) ++ us ++ xs.drop (i * 4)

set_option maxRecDepth 100000 in
set_option maxHeartbeats 8000000 in
theorem insert_roomH (B g cap n i gx : Nat) (xs us : List Value) (w : World) (h : w.ownsRow B 70 4 (.slice (some ⟨g, 0, none⟩) n cap) n xs) (hi : i < n) (hroom : n + 1 ≤ cap) (hn : n ≤ 1000000) (h1 : ∀ v ∈ xs, v.oneCell' = true)
  (hu : us.length = 4) (hgx : w.heap[gx]? = some (.cells us.toArray 70 (0, 0))) (hu1 : ∀ v ∈ us, v.oneCell' = true) (hne : gx ≠ g) :
  Calls Tryz.prog 126 #[.slice (some ⟨g, 0, none⟩) n cap, .int .i64 i, .slice (some ⟨gx, 0, none⟩) 1 1] w fun e w' =>
   e = .returned (.slice (some ⟨g, 0, none⟩) (n + 1) cap) ∧ w'.ownsRow B 70 4 (.slice (some ⟨g, 0, none⟩) (n + 1) cap) (n + 1) (putInH xs us i) ∧ w.grownBy w' (some g) := by
 obtain ⟨cur, hg, hb, hnc, hcm, hcs, hx⟩ := row_open h
 obtain ⟨i0, hi0, hz0, hz1, hz2⟩ := info_parts info_zheld
 have HCM := Lib.hid hcm
 unfold maxLen at hcm
 have hgd : w.drew.heap[g]? = some (.cells cur 70 (0, 0)) := hg
 -- slices.overlaps
 have hov : ∀ lb cb, (callFunc 142 #[.slice (some ⟨gx, 0, none⟩) 1 1, .slice (some ⟨g, (i + 1) * 4, none⟩) lb cb]).run Tryz.prog w = .ok (.value (.bool false)) w := fun lb cb => by
  rw [run_callFunc_extern Tryz.func142 (by kernel_rfl) (by kernel_rfl) (by kernel_rfl) (e := Extern.SlicesOverlaps.overlaps #[24, 24] #[4]) (by kernel_rfl),
   Lib.run_overlaps_apart w 24 4 70 Tryz.underlying24 4 Tryz.sizeOf70 ⟨gx, 0, none⟩ ⟨g, (i + 1) * 4, none⟩ 1 1 lb cb hne 70 70 4 cur.size (by unfold World.shape?; rw [hgx]; simp [hu]) (by unfold World.shape?; rw [hg]) (by omega) (frozen_of_row _ _ _ _ _ hgx) (frozen_of_row _ _ _ _ _ hgx)]
  rfl
 -- what stood from i on goes up
 obtain ⟨cs1, hcs1⟩ : ∃ cs1, cs1 = (cur.toList.drop (i * 4)).take ((n - i) * 4) := ⟨_, rfl⟩
 have hlen : cs1.length = (n - i) * 4 := by rw [hcs1]; simp; omega
 obtain ⟨cur1, hcur1⟩ : ∃ cur1, cur1 = over cur ((i + 1) * 4) cs1 := ⟨_, rfl⟩
 obtain ⟨w1, hw1⟩ : ∃ w1, w1 = w.drew.setRow g cur1 := ⟨_, rfl⟩
 have hsz1 : cur1.size = cur.size := by rw [hcur1]; exact over_size (by omega)
 have hg1 : w1.heap[g]? = some (.cells cur1 70 (0, 0)) := by rw [hw1, hcur1]; exact row_over _ hgd _ _
 have hgx1 : w1.heap[gx]? = some (.cells us.toArray 70 (0, 0)) := by rw [hw1, setRow_other _ _ _ _ hne]; exact hgx
 have hcp1 : ∀ ty dc sc, (Builtin.copy_ #[24, 24] ty #[.slice (some ⟨g, (i + 1) * 4, none⟩) (n - i) dc, .slice (some ⟨g, i * 4, none⟩) (n + 1 - i) sc]).run Tryz.prog w.drew = .ok (goInt (n - i : Nat)) w1 := by
  intro ty dc sc
  have := run_copy_in (P := Tryz.prog) w.drew (t := 24) (ty := ty) Tryz.underlying24 hi0 hgd (o := (i + 1) * 4) (D := some ⟨g, (i + 1) * 4, none⟩) (A := some ⟨g, i * 4, none⟩) (dn := n - i) (dc := dc) (k := n + 1 - i) (kc := sc) (m := n - i) (cs := cs1)
   (by simp only [Nat.min_def]; split <;> omega) (by rw [hz1]; exact hlen) (fun _ => ⟨rfl, _, rfl, by rw [hcs1]; exact cells_part hgd _ _⟩) (by rw [hz1]; omega) (by rw [hcs1]; exact one_part_in hx h1 (by omega))
  rw [← hcur1, ← hw1] at this
  exact this
 obtain ⟨cur2, hcur2⟩ : ∃ cur2, cur2 = over cur1 (i * 4) us := ⟨_, rfl⟩
 obtain ⟨w2, hw2⟩ : ∃ w2, w2 = w1.setRow g cur2 := ⟨_, rfl⟩
 have hcp2 : ∀ ty dc, (Builtin.copy_ #[24, 24] ty #[.slice (some ⟨g, i * 4, none⟩) (n + 1 - i) dc, .slice (some ⟨gx, 0, none⟩) 1 1]).run Tryz.prog w1 = .ok (goInt (1 : Nat)) w2 := by
  intro ty dc
  have := run_copy_in (P := Tryz.prog) w1 (t := 24) (ty := ty) Tryz.underlying24 hi0 hg1 (o := i * 4) (D := some ⟨g, i * 4, none⟩) (A := some ⟨gx, 0, none⟩) (dn := n + 1 - i) (dc := dc) (k := 1) (kc := 1) (m := 1) (cs := us)
   (by simp only [Nat.min_def]; split <;> omega) (by rw [hz1]; omega) (fun _ => ⟨rfl, _, rfl, fun j v hj => by rw [Addr.add_lit, cell_of_row _ _ _ _ _ _ hgx1]; simpa using hj⟩) (by rw [hz1]; omega) hu1
  rw [← hcur2, ← hw2] at this
  exact this
 have hres : w2.ownsRow B 70 4 (.slice (some ⟨g, 0, none⟩) (n + 1) cap) (n + 1) (putInH xs us i) ∧ w.grownBy w2 (some g) := by
  refine ⟨row_shut (cur := cur2) ?_ hb (by omega) HCM.out ?_ ?_, ?_⟩
  ·rw [hw2, hcur2]; exact row_over _ hg1 _ _
  ·rw [hcur2, over_size (by omega), hsz1, hcs]
  ·have hcl : cur.toList.length = cap * 4 := by rw [Array.length_toList, hcs]
   rw [hcur2, over_list, hcur1, over_list, hcs1, hu, putInH, ← hx]
   apply List.ext_getElem?
   intro j
   simp only [List.getElem?_take, List.getElem?_append, List.length_append, List.length_take, List.length_drop, List.getElem?_drop, hcl, hu]
   rcases Nat.lt_or_ge j ((n + 1) * 4) with hj | hj
   ·rw [if_pos hj]
    rcases Nat.lt_or_ge j (i * 4) with h2 | h2
    ·repeat' split
     all_goals first | rfl | (exfalso; omega)
    ·rcases Nat.lt_or_ge j (i * 4 + 4) with h3 | h3
     ·repeat' split
      all_goals first | rfl | (exfalso; omega) | (congr 1; omega)
     ·repeat' split
      all_goals first | rfl | (exfalso; omega) | (congr 1; omega)
   ·rw [if_neg (by omega)]
    repeat' split
    all_goals first | rfl | (exfalso; omega) | (symm; apply List.getElem?_eq_none; omega)
  ·rw [hw2, hw1]
   exact grown_trans (w' := w.drew.setRow g cur1) (grown_trans (w' := w.drew) ⟨rfl, rfl, rfl, Nat.le_refl _, fun _ _ _ => rfl⟩ (setRow_grown w.drew g cur1)) (setRow_grown _ g cur2)
 have HV := Lib.hid hov
 have H1 := Lib.hid hcp1
 have H2 := Lib.hid hcp2
 have HS := Lib.hid hres
 clear hov hcp1 hcp2 hres hsz1 hcs hlen hz0 hz1 hz2 hi0 h1 hcur1 hcs1 hx hw1 hw2 hcur2 h hg hgd hg1 hgx hgx1 hu hu1
 have e1 : (0 : Int) ≤ (i : Int) := by omega
 have e2 : (i : Int) ≤ (n : Int) := by omega
 have e3 : ¬ ((i : Int) = (n : Int)) := by omega
 have e4 : ¬ ((cap : Int) < (n : Int) + 1) := by omega
 have e6 : ((i : Int) + 1).toNat = i + 1 := by omega
 have e7 : (0 : Int) ≤ (i : Int) + 1 := by omega
 have e8 : (i : Int) + 1 ≤ (n : Int) + 1 := by omega
 have e9 : (i : Int) ≤ (n : Int) + 1 := by omega
 have f1 : ¬ (cap = i) := by omega
 have f2 : ¬ (cap = i + 1) := by omega
 have f3 : (n : Int) + 1 ≤ (cap : Int) := by omega
 have f4 : i ≤ n + 1 := by omega
 have f5 : ((n : Int) + 1).toNat = n + 1 := by omega
 have f6 : n + 1 ≤ cap := hroom
 have f7 : i + 1 ≤ n + 1 := by omega
 have f8 : i ≤ n := by omega
 have hov := HV.out
 go_enter Tryz.func126, Tryz.ntmps126
 go_wp2
 clear hov
 have g1 : IntKind.i64.wrap ((i : Int) + 1) = (i : Int) + 1 := IntWalk.i64_in _ (by omega)
 go_still_tail 8, (by kernel_rfl)
 change wpList _ _ _ _ _ w.drew
 go_wp2_with (first | refine wpList_copy_run (o := ⟨some 77, _, _, _, _, _⟩) _ rfl (.tmp 73) (.tmp 76) 24 24 rfl rfl rfl (H1.out _ _ _) ?_ | refine wpList_copy_run (o := ⟨some 82, _, _, _, _, _⟩) _ rfl (.tmp 80) (.tmp 81) 24 24 rfl rfl rfl (H2.out _ _) ?_)
 go_ret
 exact ⟨rfl, HS.out⟩

end Go.Proofs.YteepobghdpnabaaGreat
namespace Go.Proofs.YteepobghdpnabaaGreat
open Go.RowKit

def zint : Value := .int .i64 0
theorem info_zint : (Tryz.prog.info? 3).map (fun i => (i.zero, i.size, i.bytes)) = some (some zint, 1, 8) := by kernel_rfl
end Go.Proofs.YteepobghdpnabaaGreat
namespace Go.Proofs.YteepobghdpnabaaGreat
open Go.RowKit

def Cloned (e s : TypeId) (n : Nat) (xs : List Value) (w : World) (en : Ending) (w' : World) : Prop := ∃ o : Ad, en = .returned o.v ∧ o.n = n ∧ w'.ownsRow w.heap.size e s o.v n xs ∧ Below w.heap.size w w'

set_option maxRecDepth 100000 in
set_option maxHeartbeats 1000000 in
theorem cloneT_any (a : Ad) (l : Nat) (xs : List Value) (w : World) (h : SlIn w a l xs) (hx : xs.length = l * 4) (h1 : ∀ u ∈ xs, u.oneCell' = true) (hn : l ≤ 1000000) :
  Calls Tryz.prog 115 #[a.v] w (Cloned 40 4 l xs w) := by
 obtain ⟨A, n, c⟩ := a
 obtain ⟨hl, hc, hm, hr⟩ := h
 simp only at hl hc hm hr
 subst hl
 unfold Ad.v
 rcases A with _ | ⟨ab, ao, ap⟩
 ·have hx0 : xs = [] := by
   rcases Nat.eq_zero_or_pos xs.length with h0 | h0
   ·exact List.eq_nil_of_length_eq_zero h0
   ·obtain ⟨b, off, he, _⟩ := hr.open_ h0
    cases he
  subst hx0
  obtain rfl : l = 0 := by simp at hx; omega
  have hnil : ∀ w : World, (binOp BinOp.eql 22 (.slice none 0 c) (.slice none 0 0)).run Tryz.prog w = .ok (.bool true) w := fun w => by kernel_rfl
  go_enter Tryz.func115, Tryz.ntmps115
  go_wp2
  go_ret
  exact ⟨noAd, rfl, rfl, World.ownsRow_nil _ _ _ _, Below.refl _ _⟩
 ·obtain ⟨i0, hi0, hz0, hz1, hz2⟩ := info_parts info_tx
  have HX := Lib.hid hx
  have HR := Lib.hid hr
  have H1 := Lib.hid h1
  have HA : ∀ j y, xs[j]? = some y → ∀ wX : World, Below w.heap.size w wX → wX.cell? ((⟨ab, ao, ap⟩ : Addr).add j) = some y := fun j y hj wX hb => by
   obtain ⟨b, off, he, hbl, hcell⟩ := hr.open_ (by have := (List.getElem?_eq_some_iff.1 hj).1; omega)
   cases he
   rw [Addr.add_lit]
   exact (hb.cell (p := ⟨ab, ao + j, none⟩) hbl).trans (hcell j y hj)
  have HC := Lib.hid HA
  clear HA hx hr h1
  have hsom : ∀ w : World, (binOp BinOp.eql 22 (.slice (some ⟨ab, ao, ap⟩) l c) (.slice none 0 0)).run Tryz.prog w = .ok (.bool false) w := fun w => by kernel_rfl
  go_enter Tryz.func115, Tryz.ntmps115
  have HN := ownS_new w w.heap.size 40 4 0 [] (by simp) (by simp [maxLen]) (Nat.le_refl _)
  have HO := Lib.hid HN
  clear HN
  go_wp2_with (at_builtin; refine wpList_append_own _ rfl _ _ 22 rfl w.heap.size 40 i0 _ 4 48 Tryz.underlying22 hi0 hz0 hz1 hz2 rfl (by decide) _ 0 [] rfl HO.out ⟨ab, ao, ap⟩ l c xs rfl HX.out (fun j y hj => HC.out j y hj _ ((Below.refl _ _).alloc (Nat.le_refl _) _)) H1.out (by unfold maxLen; omega) (by omega) (by simp) ?_)
  intro v' w' hown hg _
  have hb := belowS_own ((Below.refl w.heap.size w).alloc (Nat.le_refl _) _) HO.out hg (by simp)
  obtain ⟨A', c', rfl, _⟩ := ownS_slice hown
  go_wp2
  go_ret
  refine ⟨⟨A', l, c'⟩, by first | rfl | simp [Ad.v], rfl, ?_, hb⟩
  have := ownS_conv (ys := xs) (n' := l) hown (by simp) (by simp)
  first | exact this | simpa [Ad.v] using this

set_option maxRecDepth 100000 in
set_option maxHeartbeats 1000000 in
theorem cloneW_any (a : Ad) (l : Nat) (xs : List Value) (w : World) (h : SlIn w a l xs) (hx : xs.length = l * 2) (h1 : ∀ u ∈ xs, u.oneCell' = true) (hn : l ≤ 1000000) :
  Calls Tryz.prog 123 #[a.v] w (Cloned 56 2 l xs w) := by
 obtain ⟨A, n, c⟩ := a
 obtain ⟨hl, hc, hm, hr⟩ := h
 simp only at hl hc hm hr
 subst hl
 unfold Ad.v
 rcases A with _ | ⟨ab, ao, ap⟩
 ·have hx0 : xs = [] := by
   rcases Nat.eq_zero_or_pos xs.length with h0 | h0
   ·exact List.eq_nil_of_length_eq_zero h0
   ·obtain ⟨b, off, he, _⟩ := hr.open_ h0
    cases he
  subst hx0
  obtain rfl : l = 0 := by simp at hx; omega
  have hnil : ∀ w : World, (binOp BinOp.eql 23 (.slice none 0 c) (.slice none 0 0)).run Tryz.prog w = .ok (.bool true) w := fun w => by kernel_rfl
  go_enter Tryz.func123, Tryz.ntmps123
  go_wp2
  go_ret
  exact ⟨noAd, rfl, rfl, World.ownsRow_nil _ _ _ _, Below.refl _ _⟩
 ·obtain ⟨i0, hi0, hz0, hz1, hz2⟩ := info_parts info_zwait
  have HX := Lib.hid hx
  have HR := Lib.hid hr
  have H1 := Lib.hid h1
  have HA : ∀ j y, xs[j]? = some y → ∀ wX : World, Below w.heap.size w wX → wX.cell? ((⟨ab, ao, ap⟩ : Addr).add j) = some y := fun j y hj wX hb => by
   obtain ⟨b, off, he, hbl, hcell⟩ := hr.open_ (by have := (List.getElem?_eq_some_iff.1 hj).1; omega)
   cases he
   rw [Addr.add_lit]
   exact (hb.cell (p := ⟨ab, ao + j, none⟩) hbl).trans (hcell j y hj)
  have HC := Lib.hid HA
  clear HA hx hr h1
  have hsom : ∀ w : World, (binOp BinOp.eql 23 (.slice (some ⟨ab, ao, ap⟩) l c) (.slice none 0 0)).run Tryz.prog w = .ok (.bool false) w := fun w => by kernel_rfl
  go_enter Tryz.func123, Tryz.ntmps123
  have HN := ownS_new w w.heap.size 56 2 0 [] (by simp) (by simp [maxLen]) (Nat.le_refl _)
  have HO := Lib.hid HN
  clear HN
  go_wp2_with (at_builtin; refine wpList_append_own _ rfl _ _ 23 rfl w.heap.size 56 i0 _ 2 32 Tryz.underlying23 hi0 hz0 hz1 hz2 rfl (by decide) _ 0 [] rfl HO.out ⟨ab, ao, ap⟩ l c xs rfl HX.out (fun j y hj => HC.out j y hj _ ((Below.refl _ _).alloc (Nat.le_refl _) _)) H1.out (by unfold maxLen; omega) (by omega) (by simp) ?_)
  intro v' w' hown hg _
  have hb := belowS_own ((Below.refl w.heap.size w).alloc (Nat.le_refl _) _) HO.out hg (by simp)
  obtain ⟨A', c', rfl, _⟩ := ownS_slice hown
  go_wp2
  go_ret
  refine ⟨⟨A', l, c'⟩, by first | rfl | simp [Ad.v], rfl, ?_, hb⟩
  have := ownS_conv (ys := xs) (n' := l) hown (by simp) (by simp)
  first | exact this | simpa [Ad.v] using this

set_option maxRecDepth 100000 in
set_option maxHeartbeats 1000000 in
theorem cloneH_any (a : Ad) (l : Nat) (xs : List Value) (w : World) (h : SlIn w a l xs) (hx : xs.length = l * 4) (h1 : ∀ u ∈ xs, u.oneCell' = true) (hn : l ≤ 1000000) :
  Calls Tryz.prog 125 #[a.v] w (Cloned 70 4 l xs w) := by
 obtain ⟨A, n, c⟩ := a
 obtain ⟨hl, hc, hm, hr⟩ := h
 simp only at hl hc hm hr
 subst hl
 unfold Ad.v
 rcases A with _ | ⟨ab, ao, ap⟩
 ·have hx0 : xs = [] := by
   rcases Nat.eq_zero_or_pos xs.length with h0 | h0
   ·exact List.eq_nil_of_length_eq_zero h0
   ·obtain ⟨b, off, he, _⟩ := hr.open_ h0
    cases he
  subst hx0
  obtain rfl : l = 0 := by simp at hx; omega
  have hnil : ∀ w : World, (binOp BinOp.eql 24 (.slice none 0 c) (.slice none 0 0)).run Tryz.prog w = .ok (.bool true) w := fun w => by kernel_rfl
  go_enter Tryz.func125, Tryz.ntmps125
  go_wp2
  go_ret
  exact ⟨noAd, rfl, rfl, World.ownsRow_nil _ _ _ _, Below.refl _ _⟩
 ·obtain ⟨i0, hi0, hz0, hz1, hz2⟩ := info_parts info_zheld
  have HX := Lib.hid hx
  have HR := Lib.hid hr
  have H1 := Lib.hid h1
  have HA : ∀ j y, xs[j]? = some y → ∀ wX : World, Below w.heap.size w wX → wX.cell? ((⟨ab, ao, ap⟩ : Addr).add j) = some y := fun j y hj wX hb => by
   obtain ⟨b, off, he, hbl, hcell⟩ := hr.open_ (by have := (List.getElem?_eq_some_iff.1 hj).1; omega)
   cases he
   rw [Addr.add_lit]
   exact (hb.cell (p := ⟨ab, ao + j, none⟩) hbl).trans (hcell j y hj)
  have HC := Lib.hid HA
  clear HA hx hr h1
  have hsom : ∀ w : World, (binOp BinOp.eql 24 (.slice (some ⟨ab, ao, ap⟩) l c) (.slice none 0 0)).run Tryz.prog w = .ok (.bool false) w := fun w => by kernel_rfl
  go_enter Tryz.func125, Tryz.ntmps125
  have HN := ownS_new w w.heap.size 70 4 0 [] (by simp) (by simp [maxLen]) (Nat.le_refl _)
  have HO := Lib.hid HN
  clear HN
  go_wp2_with (at_builtin; refine wpList_append_own _ rfl _ _ 24 rfl w.heap.size 70 i0 _ 4 48 Tryz.underlying24 hi0 hz0 hz1 hz2 rfl (by decide) _ 0 [] rfl HO.out ⟨ab, ao, ap⟩ l c xs rfl HX.out (fun j y hj => HC.out j y hj _ ((Below.refl _ _).alloc (Nat.le_refl _) _)) H1.out (by unfold maxLen; omega) (by omega) (by simp) ?_)
  intro v' w' hown hg _
  have hb := belowS_own ((Below.refl w.heap.size w).alloc (Nat.le_refl _) _) HO.out hg (by simp)
  obtain ⟨A', c', rfl, _⟩ := ownS_slice hown
  go_wp2
  go_ret
  refine ⟨⟨A', l, c'⟩, by first | rfl | simp [Ad.v], rfl, ?_, hb⟩
  have := ownS_conv (ys := xs) (n' := l) hown (by simp) (by simp)
  first | exact this | simpa [Ad.v] using this

set_option maxRecDepth 100000 in
set_option maxHeartbeats 1000000 in
theorem cloneI_any (a : Ad) (l : Nat) (xs : List Value) (w : World) (h : SlIn w a l xs) (hx : xs.length = l * 1) (h1 : ∀ u ∈ xs, u.oneCell' = true) (hn : l ≤ 1000000) :
  Calls Tryz.prog 124 #[a.v] w (Cloned 3 1 l xs w) := by
 obtain ⟨A, n, c⟩ := a
 obtain ⟨hl, hc, hm, hr⟩ := h
 simp only at hl hc hm hr
 subst hl
 unfold Ad.v
 rcases A with _ | ⟨ab, ao, ap⟩
 ·have hx0 : xs = [] := by
   rcases Nat.eq_zero_or_pos xs.length with h0 | h0
   ·exact List.eq_nil_of_length_eq_zero h0
   ·obtain ⟨b, off, he, _⟩ := hr.open_ h0
    cases he
  subst hx0
  obtain rfl : l = 0 := by simp at hx; omega
  have hnil : ∀ w : World, (binOp BinOp.eql 25 (.slice none 0 c) (.slice none 0 0)).run Tryz.prog w = .ok (.bool true) w := fun w => by kernel_rfl
  go_enter Tryz.func124, Tryz.ntmps124
  go_wp2
  go_ret
  exact ⟨noAd, rfl, rfl, World.ownsRow_nil _ _ _ _, Below.refl _ _⟩
 ·obtain ⟨i0, hi0, hz0, hz1, hz2⟩ := info_parts info_zint
  have HX := Lib.hid hx
  have HR := Lib.hid hr
  have H1 := Lib.hid h1
  have HA : ∀ j y, xs[j]? = some y → ∀ wX : World, Below w.heap.size w wX → wX.cell? ((⟨ab, ao, ap⟩ : Addr).add j) = some y := fun j y hj wX hb => by
   obtain ⟨b, off, he, hbl, hcell⟩ := hr.open_ (by have := (List.getElem?_eq_some_iff.1 hj).1; omega)
   cases he
   rw [Addr.add_lit]
   exact (hb.cell (p := ⟨ab, ao + j, none⟩) hbl).trans (hcell j y hj)
  have HC := Lib.hid HA
  clear HA hx hr h1
  have hsom : ∀ w : World, (binOp BinOp.eql 25 (.slice (some ⟨ab, ao, ap⟩) l c) (.slice none 0 0)).run Tryz.prog w = .ok (.bool false) w := fun w => by kernel_rfl
  go_enter Tryz.func124, Tryz.ntmps124
  have HN := ownS_new w w.heap.size 3 1 0 [] (by simp) (by simp [maxLen]) (Nat.le_refl _)
  have HO := Lib.hid HN
  clear HN
  go_wp2_with (at_builtin; refine wpList_append_own _ rfl _ _ 25 rfl w.heap.size 3 i0 _ 1 8 Tryz.underlying25 hi0 hz0 hz1 hz2 rfl (by decide) _ 0 [] rfl HO.out ⟨ab, ao, ap⟩ l c xs rfl HX.out (fun j y hj => HC.out j y hj _ ((Below.refl _ _).alloc (Nat.le_refl _) _)) H1.out (by unfold maxLen; omega) (by omega) (by simp) ?_)
  intro v' w' hown hg _
  have hb := belowS_own ((Below.refl w.heap.size w).alloc (Nat.le_refl _) _) HO.out hg (by simp)
  obtain ⟨A', c', rfl, _⟩ := ownS_slice hown
  go_wp2
  go_ret
  refine ⟨⟨A', l, c'⟩, by first | rfl | simp [Ad.v], rfl, ?_, hb⟩
  have := ownS_conv (ys := xs) (n' := l) hown (by simp) (by simp)
  first | exact this | simpa [Ad.v] using this

end Go.Proofs.YteepobghdpnabaaGreat
namespace Go.Proofs.YteepobghdpnabaaGreat
open Go.RowKit

set_option maxHeartbeats 4000000 in
theorem copied_any (a N : Int) (o : Ad) (L : List TxD) (w : World) (h : SlIn w o L.length (txs L)) (hn : L.length ≤ 1000000) :
  Calls Tryz.prog 80 #[.agg #[.int .i64 a, .int .i64 N, o.v]] w fun e w' => ∃ o' : Ad, e = .returned (.agg #[.int .i64 a, .int .i64 N, o'.v]) ∧
   o'.n = L.length ∧ w'.ownsRow w.heap.size 40 4 o'.v L.length (txs L) ∧ Below w.heap.size w w' := by
 obtain ⟨A, n, c⟩ := o
 have HI := Lib.hid h
 unfold Ad.v
 clear h
 go_enter Tryz.func80, Tryz.ntmps80
 go_wp2_with fail
 refine (cloneT_any ⟨A, n, c⟩ L.length (txs L) _ ((HI.out.below ((Below.refl _ _).alloc (Nat.le_refl _) _)).below ((Below.refl _ _).alloc (Nat.le_refl _) _)) (txs_length L) (txs_one L) hn).mono ?_
 rintro e w1 ⟨⟨A', n', c'⟩, rfl, hn', hob, hb⟩
 simp only at hn'
 subst hn'
 simp only [Ad.v] at hob
 have bx := (box_new w [.int .i64 a, .int .i64 N, .slice A n c] 42).below ((Below.refl _ _).alloc (Nat.le_refl _) (.cells #[.int .i64 0, .int .i64 0, .slice none 0 0] 42)) (by simp)
 have bx1 : Box w1 w.heap.size [.int .i64 a, .int .i64 N, .slice A n c] := bx.below hb (by simp; omega)
 have by0 := box_new (w.alloc (.cells #[.int .i64 a, .int .i64 N, .slice A n c] 42)) [.int .i64 0, .int .i64 0, .slice none 0 0] 42
 have by1 : Box w1 (w.heap.size + 1) [.int .i64 0, .int .i64 0, .slice none 0 0] := by
  have := by0.below hb (by simp)
  simpa using this
 have k0 := (bx1.2 0 _ rfl).1
 have k1 := (bx1.2 1 _ rfl).1
 have k2 := (bx1.2 2 _ rfl).1
 have f2 := (bx1.2 2 _ rfl).2
 have l0 := (by1.2 0 _ rfl).1
 have l1 := (by1.2 1 _ rfl).1
 have l2 := (by1.2 2 _ rfl).1
 have m0 := (by1.2 0 _ rfl).2
 have m1 := (by1.2 1 _ rfl).2
 have m2 := (by1.2 2 _ rfl).2
 clear bx bx1 by0 by1
 have hb3 : Below w.heap.size w w1 := (((Below.refl _ _).alloc (Nat.le_refl _) _).alloc (by simp) _).trans (hb.mono (by simp; omega))
 have hob2 : w1.ownsRow (w.heap.size + 1 + 1) 40 4 (.slice A' L.length c') L.length (txs L) := ownS_more hob (by simp)
 have HOB := Lib.hid hob2
 have HB3 := Lib.hid hb3
 clear hob hob2
 unfold Ad.v
 go_wp2_with fail
 refine bodyPost_ret (v := .agg #[.int .i64 a, .int .i64 N, .slice A' L.length c']) (by simp [results, Tryz.results80, go_sem, l0, l1, l2]) rfl ⟨Ad.mk A' L.length c', rfl, rfl, ?_, ?_⟩
 ·exact ownS_more (B := w.heap.size + 1 + 1) (ownsRow_setCell_below (ownsRow_setCell_below (ownsRow_setCell_below (ownsRow_setCell_below HOB.out (by simp; omega) _) (by simp) _) (by simp) _) (by simp) _) (by omega)
 ·exact (((HB3.out.setCell (by simp) _).setCell (by simp) _).setCell (by simp) _).setCell (by simp) _

end Go.Proofs.YteepobghdpnabaaGreat
