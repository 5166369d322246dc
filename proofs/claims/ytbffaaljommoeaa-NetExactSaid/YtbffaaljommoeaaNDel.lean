/-
  slices.Delete of one element of a row of texts.
-/
import Derived.Test.YtbffaaljommoeaaRows
import Derived.Test.YtbffaaljommoeaaDSl
import Derived.Test.YtbffaaljommoeaaDDel
import Derived.Test.YtbffaaljommoeaaHelp
import Derived.WalkSpells
import Derived.WalkLawsBesides
import Derived.Deep.QuietTactic
import Derived.BigQuiet
import Derived.LoopTactic
import Derived.Outline
import Derived.Deep.RegionLaw
import Derived.StillTailTactics
namespace Go.Proofs.Ytbffaaljommoeaa
open Go.RowKit

def zstr : Value := .string ByteArray.empty
theorem zstr_one : ∀ v ∈ zstr.cells.toList, v.oneCell' = true := by
  intro v hv
  simp [zstr, Value.cells] at hv
  subst hv
  rfl

set_option maxRecDepth 100000 in
set_option maxHeartbeats 1000000 in
theorem delete_anyN (B g cap m i : Nat) (xs : List Value) (w : World) (h : w.ownsRow B 9 1 (.slice (some ⟨g, 0, none⟩) (m + 1) cap) (m + 1) xs) (hi : i ≤ m) (hn : m ≤ 1000000) (h1 : ∀ v ∈ xs, v.oneCell' = true) :
    Calls Try.prog 31 #[.slice (some ⟨g, 0, none⟩) (m + 1) cap, .int .i64 i, .int .i64 ((i : Int) + 1)] w fun e w' =>
      e = .returned (.slice (some ⟨g, 0, none⟩) m cap) ∧ w'.ownsRow B 9 1 (.slice (some ⟨g, 0, none⟩) m cap) m (xs.take (i) ++ xs.drop ((i + 1))) ∧ w.grownBy w' (some g) := by
  obtain ⟨cur, hg, hb, hnc, hcm, hcs, hx⟩ := row_open h
  simp only [Nat.mul_one] at hcs hx
  obtain ⟨i0, hi0, hz0, hz1, hz2⟩ := info_parts info_str
  have HCM := Lib.hid hcm
  unfold maxLen at hcm
  have hgd : w.drew.heap[g]? = some (.cells cur 9 (0, 0)) := hg
  obtain ⟨cs1, hcs1⟩ : ∃ cs1, cs1 = (cur.toList.drop ((i + 1))).take ((m - i)) := ⟨_, rfl⟩
  have hlen : cs1.length = (m - i) := by rw [hcs1]; simp; omega
  obtain ⟨cur1, hcur1⟩ : ∃ cur1, cur1 = over cur (i) cs1 := ⟨_, rfl⟩
  obtain ⟨w1, hw1⟩ : ∃ w1, w1 = w.drew.setRow g cur1 := ⟨_, rfl⟩
  have hsz1 : cur1.size = cur.size := by rw [hcur1]; exact over_size (by omega)
  have hg1 : w1.heap[g]? = some (.cells cur1 9 (0, 0)) := by rw [hw1, hcur1]; exact row_over _ hgd _ _
  have hrun : ∀ (A : Option Addr), (0 < m - i → A = some ⟨g, (i + 1), none⟩) → ∀ ty c,
      (Builtin.append_ #[51, 51] ty #[.slice (some ⟨g, 0, none⟩) i cap, .slice A (m - i) c]).run Try.prog w.drew = .ok (.slice (some ⟨g, 0, none⟩) m cap) w1 := by
    intro A hA ty c
    have := run_append_in (P := Try.prog) w.drew (t := 51) (ty := ty) Try.underlying51 hi0 (n := i) (cap := cap) hgd (A := A) (k := m - i) (kc := c) (cs := cs1)
      (by rw [hz1, Nat.mul_one]; exact hlen) (fun h0 => ⟨_, hA h0, by rw [hcs1]; exact cells_part hgd _ _⟩) (by omega) (by rw [hz1]; omega) (fun v hv => by
        refine h1 v ?_
        rw [← hx]
        rw [hcs1] at hv
        rw [List.mem_iff_getElem?] at hv ⊢
        obtain ⟨j, hj⟩ := hv
        refine ⟨(i + 1) + j, ?_⟩
        rw [List.getElem?_take] at hj
        split at hj
        · rw [List.getElem?_drop] at hj
          rw [List.getElem?_take, if_pos (by omega)]
          exact hj
        · cases hj)
    rw [show i + (m - i) = m by omega, hz1, Nat.mul_one, ← hcur1, ← hw1] at this
    exact this
  obtain ⟨cur2, hcur2⟩ : ∃ cur2, cur2 = over cur1 (m) (Builtin.zeroCells zstr.cells 1).toList := ⟨_, rfl⟩
  obtain ⟨w2, hw2⟩ : ∃ w2, w2 = w1.setRow g cur2 := ⟨_, rfl⟩
  have hclr : ∀ ty c, (Builtin.clear_ #[51] ty #[.slice (some ⟨g, m, none⟩) 1 c]).run Try.prog w1 = .ok (.tuple #[]) w2 := by
    intro ty c
    rw [hw2, hcur2]
    exact run_clear_in (P := Try.prog) w1 Try.underlying51 hi0 hz0 hg1 (by show m + 1 * 1 ≤ _; rw [hsz1]; omega) zstr_one (by decide) (by decide)
  have hres : w2.ownsRow B 9 1 (.slice (some ⟨g, 0, none⟩) m cap) m (xs.take (i) ++ xs.drop ((i + 1))) ∧ w.grownBy w2 (some g) := by
    have hzl : (Builtin.zeroCells zstr.cells 1).toList.length = 1 := by rw [Array.length_toList, size_zeroCells]; rfl
    refine ⟨row_shut (cur := cur2) ?_ hb (by omega) HCM.out ?_ ?_, ?_⟩
    · rw [hw2, hcur2]; exact row_over _ hg1 _ _
    · rw [hcur2, over_size (by rw [hzl, hsz1]; omega), hsz1, hcs, Nat.mul_one]
    · rw [Nat.mul_one, hcur2, over_list, List.append_assoc, List.take_append_of_le_length (by simp; omega), List.take_take, Nat.min_self, hcur1, over_list, ← hx]
      have hcl : cur.toList.length = cap := by rw [Array.length_toList, hcs]
      rw [List.append_assoc, List.take_append, List.take_take, List.length_take, hcl, Nat.min_eq_left (by omega : i ≤ cap), Nat.min_eq_right (by omega : i ≤ m), List.take_take, Nat.min_eq_left (by omega : i ≤ (m + 1))]
      have hsecond : List.take (m - i) (cs1 ++ List.drop (i + cs1.length) cur.toList) = List.drop ((i + 1)) (List.take ((m + 1)) cur.toList) := by
        rw [List.take_append_of_le_length (by omega), List.take_of_length_le (by omega), hcs1, List.drop_take, show (m - i) = (m + 1) - (i + 1) by omega]
      rw [hsecond]
    · rw [hw2, hw1]
      exact grown_trans (w' := w.drew.setRow g cur1) (grown_trans (w' := w.drew) ⟨rfl, rfl, rfl, Nat.le_refl _, fun _ _ _ => rfl⟩ (setRow_grown w.drew g cur1)) (setRow_grown _ g cur2)
  have HR := Lib.hid hrun
  have HC := Lib.hid hclr
  have HS := Lib.hid hres
  clear hrun hclr hres hsz1 hcs hlen hz0 hz1 hz2 hi0 h1 hcur1 hcs1 hx hw1 hw2 hcur2 h hg hgd hg1
  have e1 : (0 : Int) ≤ (i : Int) := by omega
  have e2 : (i : Int) ≤ (i : Int) + 1 := by omega
  have e3 : (i : Int) + 1 ≤ (m : Int) + 1 := by omega
  have e4 : (m : Int) + 1 ≤ (cap : Int) := by omega
  have e5 : ¬ ((i : Int) = (i : Int) + 1) := by omega
  have e6 : ((i : Int) + 1).toNat = i + 1 := by omega
  have e7 : (0 : Int) ≤ (i : Int) + 1 := by omega
  have k3 : i ≤ cap := by omega
  have k4 : i + 1 ≤ m + 1 := by omega
  have k5 : i ≤ m + 1 := by omega
  have k6 : m ≤ m + 1 := by omega
  have k7 : ¬ (cap = m) := by omega
  have k8 : (m : Int) ≤ (m : Int) + 1 := by omega
  have k9 : (0 : Int) ≤ (m : Int) := by omega
  by_cases hc : cap = i + 1
  · subst hc
    obtain rfl : m = i := by omega
    have HR1 := HR.out
    simp only [Nat.sub_self] at HR1
    have HR2 := Lib.hid HR1
    clear HR1 HR
    go_enter Try.func31, Try.ntmps31
    go_wp2
    go_still_tail 6, (by kernel_rfl)
    change wpList _ _ _ _ _ w.drew
    go_wp2_with (first | (at_builtin; refine wpList_app_run _ rfl (.tmp 22) (.tmp 25) 51 51 rfl rfl rfl (HR2.out _ (fun h0 => absurd h0 (by decide)) _ _) ?_) | refine wpList_clear_run (o := ⟨none, _, _, _, _, _⟩) _ rfl (.tmp 31) 51 rfl rfl (HC.out _ _) ?_)
    go_ret
    exact ⟨rfl, HS.out⟩
  · go_enter Try.func31, Try.ntmps31
    go_wp2
    go_still_tail 6, (by kernel_rfl)
    change wpList _ _ _ _ _ w.drew
    go_wp2_with (first | (at_builtin; refine wpList_app_run _ rfl (.tmp 22) (.tmp 25) 51 51 rfl rfl rfl (HR.out _ (fun _ => rfl) _ _) ?_) | refine wpList_clear_run (o := ⟨none, _, _, _, _, _⟩) _ rfl (.tmp 31) 51 rfl rfl (HC.out _ _) ?_)
    go_ret
    exact ⟨rfl, HS.out⟩

end Go.Proofs.Ytbffaaljommoeaa
