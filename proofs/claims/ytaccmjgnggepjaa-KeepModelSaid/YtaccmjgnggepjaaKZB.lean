/-
  slices.Delete of one element of a row of files.
-/
import Derived.Test.YtaccmjgnggepjaaRows
import Derived.Test.YtaccmjgnggepjaaDSl
import Derived.WalkSpells
import Derived.WalkLawsBesides
import Derived.Deep.QuietTactic
import Derived.BigQuiet
import Derived.LoopTactic
import Derived.Outline
import Derived.Deep.RegionLaw
import Derived.StillTailTactics
import Derived.Laws.Externs
namespace Go.Proofs.Ytaccmjgnggepjaa
open Go.RowKit

def zfile : Value := .agg #[.string ByteArray.empty, .slice none 0 0, .slice none 0 0, .int .i64 0]
theorem info_file : (Try.prog.info? 82).map (fun i => (i.zero, i.size, i.bytes)) = some (some zfile, 4, 72) := by kernel_rfl
theorem zfile_one : ∀ v ∈ zfile.cells.toList, v.oneCell' = true := by
  intro v hv
  simp [zfile, Value.cells] at hv
  rcases hv with rfl | rfl | rfl <;> rfl

/-- a row whose block is known whole -/
theorem row_open {w : World} {B g n cap s : Nat} {e : TypeId} {xs : List Value} (h : w.ownsRow B e s (.slice (some ⟨g, 0, none⟩) n cap) n xs) :
    ∃ cur : Array Value, w.heap[g]? = some (.cells cur e (0, 0)) ∧ B ≤ g ∧ n ≤ cap ∧ cap ≤ maxLen ∧ cur.size = cap * s ∧ cur.toList.take (n * s) = xs := by
  rcases h.2 with ⟨hv, _⟩ | ⟨g', cap', cur, hv, hb, hg, h1, h2, h3, h4⟩
  · cases hv
  · cases hv
    exact ⟨cur, hg, hb, h1, h2, h3, h4⟩
theorem row_shut {w : World} {B g n cap s : Nat} {e : TypeId} {xs : List Value} {cur : Array Value} (hg : w.heap[g]? = some (.cells cur e (0, 0))) (hb : B ≤ g) (hn : n ≤ cap) (hm : cap ≤ maxLen) (hs : cur.size = cap * s) (hx : cur.toList.take (n * s) = xs) :
    w.ownsRow B e s (.slice (some ⟨g, 0, none⟩) n cap) n xs :=
  ⟨by rw [← hx, List.length_take, Array.length_toList, hs]; exact Nat.min_eq_left (Nat.mul_le_mul_right _ hn), .inr ⟨g, cap, cur, rfl, hb, hg, hn, hm, hs, hx⟩⟩

theorem cells_part {w : World} {g : Nat} {cur : Array Value} {t : TypeId} (hg : w.heap[g]? = some (.cells cur t (0, 0))) (o k : Nat) : ∀ j v, ((cur.toList.drop o).take k)[j]? = some v → w.cell? ((⟨g, o, none⟩ : Addr).add j) = some v := by
  intro j v hv
  rw [Addr.add_lit, cell_of_row w g (o + j) cur t (0, 0) hg]
  rw [List.getElem?_take] at hv
  split at hv
  · rw [List.getElem?_drop] at hv
    simpa using hv
  · cases hv

set_option maxRecDepth 100000 in
set_option maxHeartbeats 1000000 in
theorem delete_any (B g cap m i : Nat) (xs : List Value) (w : World) (h : w.ownsRow B 82 4 (.slice (some ⟨g, 0, none⟩) (m + 1) cap) (m + 1) xs) (hi : i ≤ m) (hn : m ≤ 1000000) (h1 : ∀ v ∈ xs, v.oneCell' = true) :
    Calls Try.prog 63 #[.slice (some ⟨g, 0, none⟩) (m + 1) cap, .int .i64 i, .int .i64 ((i : Int) + 1)] w fun e w' =>
      e = .returned (.slice (some ⟨g, 0, none⟩) m cap) ∧ w'.ownsRow B 82 4 (.slice (some ⟨g, 0, none⟩) m cap) m (xs.take (i * 4) ++ xs.drop ((i + 1) * 4)) ∧ w.grownBy w' (some g) := by
  obtain ⟨cur, hg, hb, hnc, hcm, hcs, hx⟩ := row_open h
  obtain ⟨i0, hi0, hz0, hz1, hz2⟩ := info_parts info_file
  have HCM := Lib.hid hcm
  unfold maxLen at hcm
  have hgd : w.drew.heap[g]? = some (.cells cur 82 (0, 0)) := hg
  obtain ⟨cs1, hcs1⟩ : ∃ cs1, cs1 = (cur.toList.drop ((i + 1) * 4)).take ((m - i) * 4) := ⟨_, rfl⟩
  have hlen : cs1.length = (m - i) * 4 := by rw [hcs1]; simp; omega
  obtain ⟨cur1, hcur1⟩ : ∃ cur1, cur1 = over cur (i * 4) cs1 := ⟨_, rfl⟩
  obtain ⟨w1, hw1⟩ : ∃ w1, w1 = w.drew.setRow g cur1 := ⟨_, rfl⟩
  have hsz1 : cur1.size = cur.size := by rw [hcur1]; exact over_size (by omega)
  have hg1 : w1.heap[g]? = some (.cells cur1 82 (0, 0)) := by rw [hw1, hcur1]; exact row_over _ hgd _ _
  have hrun : ∀ (A : Option Addr), (0 < m - i → A = some ⟨g, (i + 1) * 4, none⟩) → ∀ ty c,
      (Builtin.append_ #[74, 74] ty #[.slice (some ⟨g, 0, none⟩) i cap, .slice A (m - i) c]).run Try.prog w.drew = .ok (.slice (some ⟨g, 0, none⟩) m cap) w1 := by
    intro A hA ty c
    have := run_append_in (P := Try.prog) w.drew (t := 74) (ty := ty) Try.underlying74 hi0 (n := i) (cap := cap) hgd (A := A) (k := m - i) (kc := c) (cs := cs1)
      (by rw [hz1]; exact hlen) (fun h0 => ⟨_, hA h0, by rw [hcs1]; exact cells_part hgd _ _⟩) (by omega) (by rw [hz1]; omega) (fun v hv => by
        refine h1 v ?_
        rw [← hx]
        rw [hcs1] at hv
        rw [List.mem_iff_getElem?] at hv ⊢
        obtain ⟨j, hj⟩ := hv
        refine ⟨(i + 1) * 4 + j, ?_⟩
        rw [List.getElem?_take] at hj
        split at hj
        · rw [List.getElem?_drop] at hj
          rw [List.getElem?_take, if_pos (by omega)]
          exact hj
        · cases hj)
    rw [show i + (m - i) = m by omega, hz1, ← hcur1, ← hw1] at this
    exact this
  obtain ⟨cur2, hcur2⟩ : ∃ cur2, cur2 = over cur1 (m * 4) (Builtin.zeroCells zfile.cells 1).toList := ⟨_, rfl⟩
  obtain ⟨w2, hw2⟩ : ∃ w2, w2 = w1.setRow g cur2 := ⟨_, rfl⟩
  have hclr : ∀ ty c, (Builtin.clear_ #[74] ty #[.slice (some ⟨g, m * 4, none⟩) 1 c]).run Try.prog w1 = .ok (.tuple #[]) w2 := by
    intro ty c
    rw [hw2, hcur2]
    exact run_clear_in (P := Try.prog) w1 Try.underlying74 hi0 hz0 hg1 (by show m * 4 + 1 * 4 ≤ _; rw [hsz1]; omega) zfile_one (by decide) (by decide)
  have hres : w2.ownsRow B 82 4 (.slice (some ⟨g, 0, none⟩) m cap) m (xs.take (i * 4) ++ xs.drop ((i + 1) * 4)) ∧ w.grownBy w2 (some g) := by
    have hzl : (Builtin.zeroCells zfile.cells 1).toList.length = 4 := by rw [Array.length_toList, size_zeroCells]; rfl
    refine ⟨row_shut (cur := cur2) ?_ hb (by omega) HCM.out ?_ ?_, ?_⟩
    · rw [hw2, hcur2]; exact row_over _ hg1 _ _
    · rw [hcur2, over_size (by rw [hzl, hsz1]; omega), hsz1, hcs]
    · rw [hcur2, over_list, List.append_assoc, List.take_append_of_le_length (by simp; omega), List.take_take, Nat.min_self, hcur1, over_list, ← hx]
      have hcl : cur.toList.length = cap * 4 := by rw [Array.length_toList, hcs]
      rw [List.append_assoc, List.take_append, List.take_take, List.length_take, hcl, Nat.min_eq_left (by omega : i * 4 ≤ cap * 4), Nat.min_eq_right (by omega : i * 4 ≤ m * 4), List.take_take, Nat.min_eq_left (by omega : i * 4 ≤ (m + 1) * 4)]
      have hsecond : List.take (m * 4 - i * 4) (cs1 ++ List.drop (i * 4 + cs1.length) cur.toList) = List.drop ((i + 1) * 4) (List.take ((m + 1) * 4) cur.toList) := by
        rw [List.take_append_of_le_length (by omega), List.take_of_length_le (by omega), hcs1, List.drop_take, show (m - i) * 4 = (m + 1) * 4 - (i + 1) * 4 by omega]
      rw [hsecond]
    · rw [hw2, hw1]
      exact grown_trans (w' := w.drew.setRow g cur1) (grown_trans (w' := w.drew) ⟨rfl, rfl, rfl, Nat.le_refl _, fun _ _ _ => rfl⟩ (setRow_grown w.drew g cur1)) (setRow_grown _ g cur2)
  have HR := Lib.hid hrun
  have HC := Lib.hid hclr
  have HS := Lib.hid hres
  clear hrun hclr hres hsz1 hcs hlen hz0 hz1 hz2 hi0 h1 hcur1 hcs1 hx hw1 hw2 hcur2 h hg hgd hg1
  have e1 : (0 : Int) ≤ (i : Int) := by omega
  have e2 : (i : Int) ≤ (i : Int) + 1 := by omega
  have e3 : (i : Int) + 1 ≤ (m : Int) + 1 := by omega
  have e4 : (m : Int) + 1 ≤ (cap : Int) := by omega
  have e5 : ¬ ((i : Int) = (i : Int) + 1) := by omega
  have e6 : ((i : Int) + 1).toNat = i + 1 := by omega
  have e7 : (0 : Int) ≤ (i : Int) + 1 := by omega
  have k3 : i ≤ cap := by omega
  have k4 : i + 1 ≤ m + 1 := by omega
  have k5 : i ≤ m + 1 := by omega
  have k6 : m ≤ m + 1 := by omega
  have k7 : ¬ (cap = m) := by omega
  have k8 : (m : Int) ≤ (m : Int) + 1 := by omega
  have k9 : (0 : Int) ≤ (m : Int) := by omega
  by_cases hc : cap = i + 1
  · subst hc
    obtain rfl : m = i := by omega
    have HR1 := HR.out
    simp only [Nat.sub_self] at HR1
    have HR2 := Lib.hid HR1
    clear HR1 HR
    go_enter Try.func63, Try.ntmps63
    go_wp2
    go_still_tail 6, (by kernel_rfl)
    change wpList _ _ _ _ _ w.drew
    go_wp2_with (first | (at_builtin; refine wpList_app_run _ rfl (.tmp 22) (.tmp 25) 74 74 rfl rfl rfl (HR2.out _ (fun h0 => absurd h0 (by decide)) _ _) ?_) | refine wpList_clear_run (o := ⟨none, _, _, _, _, _⟩) _ rfl (.tmp 31) 74 rfl rfl (HC.out _ _) ?_)
    go_ret
    exact ⟨rfl, HS.out⟩
  · go_enter Try.func63, Try.ntmps63
    go_wp2
    go_still_tail 6, (by kernel_rfl)
    change wpList _ _ _ _ _ w.drew
    go_wp2_with (first | (at_builtin; refine wpList_app_run _ rfl (.tmp 22) (.tmp 25) 74 74 rfl rfl rfl (HR.out _ (fun _ => rfl) _ _) ?_) | refine wpList_clear_run (o := ⟨none, _, _, _, _, _⟩) _ rfl (.tmp 31) 74 rfl rfl (HC.out _ _) ?_)
    go_ret
    exact ⟨rfl, HS.out⟩

end Go.Proofs.Ytaccmjgnggepjaa
/-
  slices.Delete of one element of a row of pairs.
-/
namespace Go.Proofs.Ytaccmjgnggepjaa
open Go.RowKit

def zpair : Value := .agg #[.string ByteArray.empty, .string ByteArray.empty]
theorem info_pair : (Try.prog.info? 65).map (fun i => (i.zero, i.size, i.bytes)) = some (some zpair, 2, 32) := by kernel_rfl
theorem zpair_one : ∀ v ∈ zpair.cells.toList, v.oneCell' = true := by
  intro v hv
  simp [zpair, Value.cells] at hv
  rcases hv with rfl | rfl <;> rfl

set_option maxRecDepth 100000 in
set_option maxHeartbeats 1000000 in
theorem delete_anyP (B g cap m i : Nat) (xs : List Value) (w : World) (h : w.ownsRow B 65 2 (.slice (some ⟨g, 0, none⟩) (m + 1) cap) (m + 1) xs) (hi : i ≤ m) (hn : m ≤ 1000000) (h1 : ∀ v ∈ xs, v.oneCell' = true) :
    Calls Try.prog 68 #[.slice (some ⟨g, 0, none⟩) (m + 1) cap, .int .i64 i, .int .i64 ((i : Int) + 1)] w fun e w' =>
      e = .returned (.slice (some ⟨g, 0, none⟩) m cap) ∧ w'.ownsRow B 65 2 (.slice (some ⟨g, 0, none⟩) m cap) m (xs.take (i * 2) ++ xs.drop ((i + 1) * 2)) ∧ w.grownBy w' (some g) := by
  obtain ⟨cur, hg, hb, hnc, hcm, hcs, hx⟩ := row_open h
  obtain ⟨i0, hi0, hz0, hz1, hz2⟩ := info_parts info_pair
  have HCM := Lib.hid hcm
  unfold maxLen at hcm
  have hgd : w.drew.heap[g]? = some (.cells cur 65 (0, 0)) := hg
  obtain ⟨cs1, hcs1⟩ : ∃ cs1, cs1 = (cur.toList.drop ((i + 1) * 2)).take ((m - i) * 2) := ⟨_, rfl⟩
  have hlen : cs1.length = (m - i) * 2 := by rw [hcs1]; simp; omega
  obtain ⟨cur1, hcur1⟩ : ∃ cur1, cur1 = over cur (i * 2) cs1 := ⟨_, rfl⟩
  obtain ⟨w1, hw1⟩ : ∃ w1, w1 = w.drew.setRow g cur1 := ⟨_, rfl⟩
  have hsz1 : cur1.size = cur.size := by rw [hcur1]; exact over_size (by omega)
  have hg1 : w1.heap[g]? = some (.cells cur1 65 (0, 0)) := by rw [hw1, hcur1]; exact row_over _ hgd _ _
  have hrun : ∀ (A : Option Addr), (0 < m - i → A = some ⟨g, (i + 1) * 2, none⟩) → ∀ ty c,
      (Builtin.append_ #[34, 34] ty #[.slice (some ⟨g, 0, none⟩) i cap, .slice A (m - i) c]).run Try.prog w.drew = .ok (.slice (some ⟨g, 0, none⟩) m cap) w1 := by
    intro A hA ty c
    have := run_append_in (P := Try.prog) w.drew (t := 34) (ty := ty) Try.underlying34 hi0 (n := i) (cap := cap) hgd (A := A) (k := m - i) (kc := c) (cs := cs1)
      (by rw [hz1]; exact hlen) (fun h0 => ⟨_, hA h0, by rw [hcs1]; exact cells_part hgd _ _⟩) (by omega) (by rw [hz1]; omega) (fun v hv => by
        refine h1 v ?_
        rw [← hx]
        rw [hcs1] at hv
        rw [List.mem_iff_getElem?] at hv ⊢
        obtain ⟨j, hj⟩ := hv
        refine ⟨(i + 1) * 2 + j, ?_⟩
        rw [List.getElem?_take] at hj
        split at hj
        · rw [List.getElem?_drop] at hj
          rw [List.getElem?_take, if_pos (by omega)]
          exact hj
        · cases hj)
    rw [show i + (m - i) = m by omega, hz1, ← hcur1, ← hw1] at this
    exact this
  obtain ⟨cur2, hcur2⟩ : ∃ cur2, cur2 = over cur1 (m * 2) (Builtin.zeroCells zpair.cells 1).toList := ⟨_, rfl⟩
  obtain ⟨w2, hw2⟩ : ∃ w2, w2 = w1.setRow g cur2 := ⟨_, rfl⟩
  have hclr : ∀ ty c, (Builtin.clear_ #[34] ty #[.slice (some ⟨g, m * 2, none⟩) 1 c]).run Try.prog w1 = .ok (.tuple #[]) w2 := by
    intro ty c
    rw [hw2, hcur2]
    exact run_clear_in (P := Try.prog) w1 Try.underlying34 hi0 hz0 hg1 (by show m * 2 + 1 * 2 ≤ _; rw [hsz1]; omega) zpair_one (by decide) (by decide)
  have hres : w2.ownsRow B 65 2 (.slice (some ⟨g, 0, none⟩) m cap) m (xs.take (i * 2) ++ xs.drop ((i + 1) * 2)) ∧ w.grownBy w2 (some g) := by
    have hzl : (Builtin.zeroCells zpair.cells 1).toList.length = 2 := by rw [Array.length_toList, size_zeroCells]; rfl
    refine ⟨row_shut (cur := cur2) ?_ hb (by omega) HCM.out ?_ ?_, ?_⟩
    · rw [hw2, hcur2]; exact row_over _ hg1 _ _
    · rw [hcur2, over_size (by rw [hzl, hsz1]; omega), hsz1, hcs]
    · rw [hcur2, over_list, List.append_assoc, List.take_append_of_le_length (by simp; omega), List.take_take, Nat.min_self, hcur1, over_list, ← hx]
      have hcl : cur.toList.length = cap * 2 := by rw [Array.length_toList, hcs]
      rw [List.append_assoc, List.take_append, List.take_take, List.length_take, hcl, Nat.min_eq_left (by omega : i * 2 ≤ cap * 2), Nat.min_eq_right (by omega : i * 2 ≤ m * 2), List.take_take, Nat.min_eq_left (by omega : i * 2 ≤ (m + 1) * 2)]
      have hsecond : List.take (m * 2 - i * 2) (cs1 ++ List.drop (i * 2 + cs1.length) cur.toList) = List.drop ((i + 1) * 2) (List.take ((m + 1) * 2) cur.toList) := by
        rw [List.take_append_of_le_length (by omega), List.take_of_length_le (by omega), hcs1, List.drop_take, show (m - i) * 2 = (m + 1) * 2 - (i + 1) * 2 by omega]
      rw [hsecond]
    · rw [hw2, hw1]
      exact grown_trans (w' := w.drew.setRow g cur1) (grown_trans (w' := w.drew) ⟨rfl, rfl, rfl, Nat.le_refl _, fun _ _ _ => rfl⟩ (setRow_grown w.drew g cur1)) (setRow_grown _ g cur2)
  have HR := Lib.hid hrun
  have HC := Lib.hid hclr
  have HS := Lib.hid hres
  clear hrun hclr hres hsz1 hcs hlen hz0 hz1 hz2 hi0 h1 hcur1 hcs1 hx hw1 hw2 hcur2 h hg hgd hg1
  have e1 : (0 : Int) ≤ (i : Int) := by omega
  have e2 : (i : Int) ≤ (i : Int) + 1 := by omega
  have e3 : (i : Int) + 1 ≤ (m : Int) + 1 := by omega
  have e4 : (m : Int) + 1 ≤ (cap : Int) := by omega
  have e5 : ¬ ((i : Int) = (i : Int) + 1) := by omega
  have e6 : ((i : Int) + 1).toNat = i + 1 := by omega
  have e7 : (0 : Int) ≤ (i : Int) + 1 := by omega
  have k3 : i ≤ cap := by omega
  have k4 : i + 1 ≤ m + 1 := by omega
  have k5 : i ≤ m + 1 := by omega
  have k6 : m ≤ m + 1 := by omega
  have k7 : ¬ (cap = m) := by omega
  have k8 : (m : Int) ≤ (m : Int) + 1 := by omega
  have k9 : (0 : Int) ≤ (m : Int) := by omega
  by_cases hc : cap = i + 1
  · subst hc
    obtain rfl : m = i := by omega
    have HR1 := HR.out
    simp only [Nat.sub_self] at HR1
    have HR2 := Lib.hid HR1
    clear HR1 HR
    go_enter Try.func68, Try.ntmps68
    go_wp2
    go_still_tail 6, (by kernel_rfl)
    change wpList _ _ _ _ _ w.drew
    go_wp2_with (first | (at_builtin; refine wpList_app_run _ rfl (.tmp 22) (.tmp 25) 34 34 rfl rfl rfl (HR2.out _ (fun h0 => absurd h0 (by decide)) _ _) ?_) | refine wpList_clear_run (o := ⟨none, _, _, _, _, _⟩) _ rfl (.tmp 31) 34 rfl rfl (HC.out _ _) ?_)
    go_ret
    exact ⟨rfl, HS.out⟩
  · go_enter Try.func68, Try.ntmps68
    go_wp2
    go_still_tail 6, (by kernel_rfl)
    change wpList _ _ _ _ _ w.drew
    go_wp2_with (first | (at_builtin; refine wpList_app_run _ rfl (.tmp 22) (.tmp 25) 34 34 rfl rfl rfl (HR.out _ (fun _ => rfl) _ _) ?_) | refine wpList_clear_run (o := ⟨none, _, _, _, _, _⟩) _ rfl (.tmp 31) 34 rfl rfl (HC.out _ _) ?_)
    go_ret
    exact ⟨rfl, HS.out⟩

end Go.Proofs.Ytaccmjgnggepjaa
/-
  slices.Insert of one element into a row of files.
-/
namespace Go.Proofs.Ytaccmjgnggepjaa
open Go.RowKit

theorem one_part {cur : Array Value} (h1 : ∀ v ∈ cur.toList, v.oneCell' = true) {o k : Nat} : ∀ v ∈ (cur.toList.drop o).take k, v.oneCell' = true :=
  fun v hv => h1 v (List.mem_of_mem_drop (List.mem_of_mem_take hv))
theorem one_part_in {cur : Array Value} {xs : List Value} {N : Nat} (hx : cur.toList.take N = xs) (h1 : ∀ v ∈ xs, v.oneCell' = true) {o k : Nat} (h : o + k ≤ N) : ∀ v ∈ (cur.toList.drop o).take k, v.oneCell' = true := by
  intro v hv
  refine h1 v ?_
  rw [← hx]
  rw [List.mem_iff_getElem?] at hv ⊢
  obtain ⟨j, hj⟩ := hv
  refine ⟨o + j, ?_⟩
  rw [List.getElem?_take] at hj
  split at hj
  · rw [List.getElem?_drop] at hj
    rw [List.getElem?_take, if_pos (by omega)]
    exact hj
  · cases hj

/-- what stands ahead of i, the new element, what stood from i on -/
def putIn (xs us : List Value) (i : Nat) : List Value := xs.take (i * 4) ++ us ++ xs.drop (i * 4)

set_option maxRecDepth 100000 in
set_option maxHeartbeats 8000000 in
theorem insert_room (B g cap n i gx : Nat) (xs us : List Value) (w : World) (h : w.ownsRow B 82 4 (.slice (some ⟨g, 0, none⟩) n cap) n xs) (hi : i < n) (hroom : n + 1 ≤ cap) (hn : n ≤ 1000000) (h1 : ∀ v ∈ xs, v.oneCell' = true)
    (hu : us.length = 4) (hgx : w.heap[gx]? = some (.cells us.toArray 82 (0, 0))) (hu1 : ∀ v ∈ us, v.oneCell' = true) (hne : gx ≠ g) :
    Calls Try.prog 84 #[.slice (some ⟨g, 0, none⟩) n cap, .int .i64 i, .slice (some ⟨gx, 0, none⟩) 1 1] w fun e w' =>
      e = .returned (.slice (some ⟨g, 0, none⟩) (n + 1) cap) ∧ w'.ownsRow B 82 4 (.slice (some ⟨g, 0, none⟩) (n + 1) cap) (n + 1) (putIn xs us i) ∧ w.grownBy w' (some g) := by
  obtain ⟨cur, hg, hb, hnc, hcm, hcs, hx⟩ := row_open h
  obtain ⟨i0, hi0, hz0, hz1, hz2⟩ := info_parts info_file
  have HCM := Lib.hid hcm
  unfold maxLen at hcm
  have hgd : w.drew.heap[g]? = some (.cells cur 82 (0, 0)) := hg
  -- slices.overlaps
  have hov : ∀ lb cb, (callFunc 87 #[.slice (some ⟨gx, 0, none⟩) 1 1, .slice (some ⟨g, (i + 1) * 4, none⟩) lb cb]).run Try.prog w = .ok (.value (.bool false)) w := fun lb cb => by
    rw [run_callFunc_extern Try.func87 (by kernel_rfl) (by kernel_rfl) (by kernel_rfl) (e := Extern.SlicesOverlaps.overlaps #[74, 74] #[4]) (by kernel_rfl),
      Lib.run_overlaps_apart w 74 4 82 Try.underlying74 4 Try.sizeOf82 ⟨gx, 0, none⟩ ⟨g, (i + 1) * 4, none⟩ 1 1 lb cb hne 82 82 4 cur.size (by unfold World.shape?; rw [hgx]; simp [hu]) (by unfold World.shape?; rw [hg]) (by omega) (frozen_of_row _ _ _ _ _ hgx) (frozen_of_row _ _ _ _ _ hgx)]
    rfl
  -- what stood from i on goes up
  obtain ⟨cs1, hcs1⟩ : ∃ cs1, cs1 = (cur.toList.drop (i * 4)).take ((n - i) * 4) := ⟨_, rfl⟩
  have hlen : cs1.length = (n - i) * 4 := by rw [hcs1]; simp; omega
  obtain ⟨cur1, hcur1⟩ : ∃ cur1, cur1 = over cur ((i + 1) * 4) cs1 := ⟨_, rfl⟩
  obtain ⟨w1, hw1⟩ : ∃ w1, w1 = w.drew.setRow g cur1 := ⟨_, rfl⟩
  have hsz1 : cur1.size = cur.size := by rw [hcur1]; exact over_size (by omega)
  have hg1 : w1.heap[g]? = some (.cells cur1 82 (0, 0)) := by rw [hw1, hcur1]; exact row_over _ hgd _ _
  have hgx1 : w1.heap[gx]? = some (.cells us.toArray 82 (0, 0)) := by rw [hw1, setRow_other _ _ _ _ hne]; exact hgx
  have hcp1 : ∀ ty dc sc, (Builtin.copy_ #[74, 74] ty #[.slice (some ⟨g, (i + 1) * 4, none⟩) (n - i) dc, .slice (some ⟨g, i * 4, none⟩) (n + 1 - i) sc]).run Try.prog w.drew = .ok (goInt (n - i : Nat)) w1 := by
    intro ty dc sc
    have := run_copy_in (P := Try.prog) w.drew (t := 74) (ty := ty) Try.underlying74 hi0 hgd (o := (i + 1) * 4) (D := some ⟨g, (i + 1) * 4, none⟩) (A := some ⟨g, i * 4, none⟩) (dn := n - i) (dc := dc) (k := n + 1 - i) (kc := sc) (m := n - i) (cs := cs1)
      (by simp only [Nat.min_def]; split <;> omega) (by rw [hz1]; exact hlen) (fun _ => ⟨rfl, _, rfl, by rw [hcs1]; exact cells_part hgd _ _⟩) (by rw [hz1]; omega) (by rw [hcs1]; exact one_part_in hx h1 (by omega))
    rw [← hcur1, ← hw1] at this
    exact this
  obtain ⟨cur2, hcur2⟩ : ∃ cur2, cur2 = over cur1 (i * 4) us := ⟨_, rfl⟩
  obtain ⟨w2, hw2⟩ : ∃ w2, w2 = w1.setRow g cur2 := ⟨_, rfl⟩
  have hcp2 : ∀ ty dc, (Builtin.copy_ #[74, 74] ty #[.slice (some ⟨g, i * 4, none⟩) (n + 1 - i) dc, .slice (some ⟨gx, 0, none⟩) 1 1]).run Try.prog w1 = .ok (goInt (1 : Nat)) w2 := by
    intro ty dc
    have := run_copy_in (P := Try.prog) w1 (t := 74) (ty := ty) Try.underlying74 hi0 hg1 (o := i * 4) (D := some ⟨g, i * 4, none⟩) (A := some ⟨gx, 0, none⟩) (dn := n + 1 - i) (dc := dc) (k := 1) (kc := 1) (m := 1) (cs := us)
      (by simp only [Nat.min_def]; split <;> omega) (by rw [hz1]; omega) (fun _ => ⟨rfl, _, rfl, fun j v hj => by rw [Addr.add_lit, cell_of_row _ _ _ _ _ _ hgx1]; simpa using hj⟩) (by rw [hz1]; omega) hu1
    rw [← hcur2, ← hw2] at this
    exact this
  have hres : w2.ownsRow B 82 4 (.slice (some ⟨g, 0, none⟩) (n + 1) cap) (n + 1) (putIn xs us i) ∧ w.grownBy w2 (some g) := by
    refine ⟨row_shut (cur := cur2) ?_ hb (by omega) HCM.out ?_ ?_, ?_⟩
    · rw [hw2, hcur2]; exact row_over _ hg1 _ _
    · rw [hcur2, over_size (by omega), hsz1, hcs]
    · have hcl : cur.toList.length = cap * 4 := by rw [Array.length_toList, hcs]
      rw [hcur2, over_list, hcur1, over_list, hcs1, hu, putIn, ← hx]
      apply List.ext_getElem?
      intro j
      simp only [List.getElem?_take, List.getElem?_append, List.length_append, List.length_take, List.length_drop, List.getElem?_drop, hcl, hu]
      rcases Nat.lt_or_ge j ((n + 1) * 4) with hj | hj
      · rw [if_pos hj]
        rcases Nat.lt_or_ge j (i * 4) with h2 | h2
        · repeat' split
          all_goals first | rfl | (exfalso; omega)
        · rcases Nat.lt_or_ge j (i * 4 + 4) with h3 | h3
          · repeat' split
            all_goals first | rfl | (exfalso; omega) | (congr 1; omega)
          · repeat' split
            all_goals first | rfl | (exfalso; omega) | (congr 1; omega)
      · rw [if_neg (by omega)]
        repeat' split
        all_goals first | rfl | (exfalso; omega) | (symm; apply List.getElem?_eq_none; omega)
    · rw [hw2, hw1]
      exact grown_trans (w' := w.drew.setRow g cur1) (grown_trans (w' := w.drew) ⟨rfl, rfl, rfl, Nat.le_refl _, fun _ _ _ => rfl⟩ (setRow_grown w.drew g cur1)) (setRow_grown _ g cur2)
  have HV := Lib.hid hov
  have H1 := Lib.hid hcp1
  have H2 := Lib.hid hcp2
  have HS := Lib.hid hres
  clear hov hcp1 hcp2 hres hsz1 hcs hlen hz0 hz1 hz2 hi0 h1 hcur1 hcs1 hx hw1 hw2 hcur2 h hg hgd hg1 hgx hgx1 hu hu1
  have e1 : (0 : Int) ≤ (i : Int) := by omega
  have e2 : (i : Int) ≤ (n : Int) := by omega
  have e3 : ¬ ((i : Int) = (n : Int)) := by omega
  have e4 : ¬ ((cap : Int) < (n : Int) + 1) := by omega
  have e6 : ((i : Int) + 1).toNat = i + 1 := by omega
  have e7 : (0 : Int) ≤ (i : Int) + 1 := by omega
  have e8 : (i : Int) + 1 ≤ (n : Int) + 1 := by omega
  have e9 : (i : Int) ≤ (n : Int) + 1 := by omega
  have f1 : ¬ (cap = i) := by omega
  have f2 : ¬ (cap = i + 1) := by omega
  have f3 : (n : Int) + 1 ≤ (cap : Int) := by omega
  have f4 : i ≤ n + 1 := by omega
  have f5 : ((n : Int) + 1).toNat = n + 1 := by omega
  have f6 : n + 1 ≤ cap := hroom
  have f7 : i + 1 ≤ n + 1 := by omega
  have f8 : i ≤ n := by omega
  have hov := HV.out
  go_enter Try.func84, Try.ntmps84
  go_wp2
  clear hov
  have g1 : IntKind.i64.wrap ((i : Int) + 1) = (i : Int) + 1 := IntWalk.i64_in _ (by omega)
  go_still_tail 8, (by kernel_rfl)
  change wpList _ _ _ _ _ w.drew
  go_wp2_with (first | refine wpList_copy_run (o := ⟨some 77, _, _, _, _, _⟩) _ rfl (.tmp 73) (.tmp 76) 74 74 rfl rfl rfl (H1.out _ _ _) ?_ | refine wpList_copy_run (o := ⟨some 82, _, _, _, _, _⟩) _ rfl (.tmp 80) (.tmp 81) 74 74 rfl rfl rfl (H2.out _ _) ?_)
  go_ret
  exact ⟨rfl, HS.out⟩

end Go.Proofs.Ytaccmjgnggepjaa
