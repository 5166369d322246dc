/-
  slices.Insert of one element at a row's end.
-/
import Derived.Test.YtlblhpbhcaljhaaYInsFC
namespace Go.Proofs.Ytlblhpbhcaljhaa
open Go.RowKit

set_option maxRecDepth 100000 in
set_option maxHeartbeats 4000000 in
theorem insert_endC (B gx n : Nat) (v : Value) (xs us : List Value) (w : World) (h : w.ownsRow B 45 6 v n xs) (hB : B ≤ w.heap.size) (hn : n ≤ 1000000)
    (hu : us.length = 6) (hgx : w.heap[gx]? = some (.cells us.toArray 45 (0, 0))) (hu1 : ∀ v ∈ us, v.oneCell' = true) :
    Calls Try.prog 59 #[v, .int .i64 n, .slice (some ⟨gx, 0, none⟩) 1 1] w fun e w' =>
      ∃ g' c', e = .returned (.slice (some ⟨g', 0, none⟩) (n + 1) c') ∧ w'.ownsRow B 45 6 (.slice (some ⟨g', 0, none⟩) (n + 1) c') (n + 1) (xs ++ us) ∧ w.grownBy w' v.ownBlock ∧ (v.ownBlock = some g' ∨ g' = w.heap.size) := by
  obtain ⟨i0, hi0, hz0, hz1, hz2⟩ := info_parts info_zcert
  have hcell : ∀ j y, us[j]? = some y → w.cell? ((⟨gx, 0, none⟩ : Addr).add j) = some y := fun j y hj => by
    rw [Addr.add_lit, cell_of_row _ _ _ _ _ _ hgx]; simpa using hj
  have HU := Lib.hid hcell
  have HL := Lib.hid hu
  have HO := Lib.hid hu1
  clear hcell hu hgx hu1
  have hown := h
  obtain ⟨A, c, rfl, hnc, hcm, _, _, hxl⟩ := ownS_slice h
  have HX := Lib.hid hxl
  have HW := Lib.hid hown
  clear h hown hxl
  unfold maxLen at hcm
  have e1 : (0 : Int) ≤ (n : Int) := by omega
  by_cases hc : c = n
  all_goals rcases A with _ | A
  all_goals
    go_enter Try.func59, Try.ntmps59
    go_wp2_with (at_builtin; refine wpList_append_lies (o := ⟨some 25, _, _, _, _, _⟩) _ rfl (.tmp 23) (.tmp 24) 22 rfl B 45 i0 zcert 6 96 Try.underlying22 hi0 hz0 hz1 hz2 rfl (by decide) (.slice _ n c) n xs rfl HW.out ⟨gx, 0, none⟩ 1 1 us rfl HL.out HU.out HO.out (by decide) (by unfold maxLen; omega) (by omega) hB _ rfl ?_)
    intro g' c' w' k1 k2 k3 k4
    go_wp2
    go_ret
    exact ⟨g', c', rfl, k1, k2, k3⟩

end Go.Proofs.Ytlblhpbhcaljhaa
