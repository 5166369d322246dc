/-
  The walks of what the statements share: copies, comparisons, the writing over of answers.
-/
import Derived.Test.YtejkeccoialogaaRows
import Derived.Test.YtejkeccoialogaaMem
import Derived.WalkSpells
import Derived.WalkLawsBesides
import Derived.Deep.QuietTactic
import Derived.BigQuiet
import Derived.LoopTactic
import Derived.Outline
namespace Go.Proofs.Ytejkeccoialogaa
open Go.RowKit

theorem info_u8 : (Try.prog.info? 5).map (fun i => (i.zero, i.size, i.bytes)) = some (some (.int .u8 0), 1, 1) := by kernel_rfl
theorem info_i64 : (Try.prog.info? 3).map (fun i => (i.zero, i.size, i.bytes)) = some (some (.int .i64 0), 1, 8) := by kernel_rfl
theorem info_str : (Try.prog.info? 9).map (fun i => (i.zero, i.size, i.bytes)) = some (some (.string ByteArray.empty), 1, 16) := by kernel_rfl

theorem cell_new (w : World) (u : Value) (t : TypeId) : (w.alloc (.cells #[u] t)).cell? ⟨w.heap.size, 0, none⟩ = some u := by
  rw [World.cell?_alloc_at _ _ _ _ rfl]; rfl
theorem take_up {α : Type} {l : List α} {k : Nat} {x : α} (h : l[k]? = some x) : l.take (k + 1) = l.take k ++ [x] := by
  rw [List.take_add_one, h]; rfl

set_option maxHeartbeats 400000 in
theorem copyNumbers_any (A : Option Addr) (c n : Nat) (zs : List Int) (w : World) (hz : zs.length = n) (hr : Rd w A (i64s zs)) (hc : n ≤ c) (hn : n ≤ 1073741824) :
    Calls Try.prog 49 #[.slice A n c] w (Made w.heap.size 3 w (i64s zs)) := by
  have HZ := Lib.hid hz
  clear hz
  go_enter Try.func49, Try.ntmps49
  go_wp2
  go_loopw [3, 4] (fun v i wr => ∃ k : Nat, i = .int .i64 k ∧ k ≤ n ∧ wr.ownsRow w.heap.size 3 1 v k ((i64s zs).take k) ∧ Below w.heap.size w wr) (fun _ i _ => n - (intOf i).toNat)
  case atStart => exact ⟨0, rfl, by omega, World.ownsRow_nil _ _ _ _, Below.refl _ _⟩
  case round =>
    obtain ⟨k, rfl, hk, hown, hb⟩ := hrel
    by_cases hlt : k < n
    · obtain ⟨b, off, rfl, hbl, hcell⟩ := (hr.below hb).open_ (by rw [i64s_length, HZ.out]; omega)
      have hc1 := hcell k _ (i64s_at (by rw [HZ.out]; exact hlt))
      clear hcell
      go_wp2_with (at_builtin; refine wpList_app_one _ rfl _ _ 25 rfl w.heap.size 3 (.int .i64 0) 8 Try.underlying25 info_i64 rfl (by decide) _ k _ rfl (hown.alloc _) wr.heap.size (.int .i64 (zs[k]?.getD 0)) rfl (cell_new _ _ _) rfl (by omega) (by have := hb.size; simp; omega) ?_)
      intro v' w1 hown1 hb1
      have hown2 := own_conv hown1 (take_up (i64s_at (by rw [HZ.out]; exact hlt))).symm rfl
      clear hown1 hown
      go_wp2
      go_roundw
      case rel => exact ⟨k + 1, by go_num, by omega, hown2, (hb.alloc hb.size _).trans hb1⟩
      case measure => simp [intOf]; omega
    · obtain rfl : k = n := by omega
      go_wp2
      go_ret
      rw [List.take_of_length_le (by rw [i64s_length, HZ.out]; omega)] at hown
      exact ⟨_, rfl, own_cast hown (by rw [i64s_length, HZ.out]), hb⟩

set_option maxHeartbeats 400000 in
theorem eqNumbers_same (A A' : Option Addr) (c c' n : Nat) (zs : List Int) (w : World) (hz : zs.length = n) (hr : Rd w A (i64s zs)) (hr' : Rd w A' (i64s zs)) (hn : n ≤ 1073741824) :
    Calls Try.prog 37 #[.slice A n c, .slice A' n c'] w fun e w' => e = .returned (.bool true) ∧ ∃ d, w' = w.drewN d := by
  have HZ := Lib.hid hz
  clear hz
  go_enter Try.func37, Try.ntmps37
  go_wp2
  go_loopw [5] (fun i wr => ∃ k d : Nat, i = .int .i64 k ∧ k ≤ n ∧ wr = w.drewN d) (fun i _ => n - (intOf i).toNat)
  case atStart => exact ⟨0, 0, rfl, by omega, rfl⟩
  case round =>
    obtain ⟨k, d, rfl, hk, rfl⟩ := hrel
    by_cases hlt : k < n
    · obtain ⟨b, off, rfl, hbl, hcell⟩ := hr.open_ (by rw [i64s_length, HZ.out]; omega)
      obtain ⟨b', off', rfl, hbl', hcell'⟩ := hr'.open_ (by rw [i64s_length, HZ.out]; omega)
      have hc1 := hcell k _ (i64s_at (by rw [HZ.out]; exact hlt))
      have hc2 := hcell' k _ (i64s_at (by rw [HZ.out]; exact hlt))
      clear hcell hcell'
      have i0 : (0 : Int) ≤ (k : Int) := by omega
      have i1 : (k : Int) < (n : Int) := by omega
      go_wp2
      go_quiet (fail)
      go_wp2
      go_roundw
      case rel => exact ⟨k + 1, _, by go_num, by omega, rfl⟩
      case measure => simp [intOf]; omega
    · have i1 : ¬ ((k : Int) < (n : Int)) := by omega
      go_wp2
      go_ret
      exact ⟨rfl, _, rfl⟩

set_option maxHeartbeats 400000 in
theorem spoilNumbers_any (B : Nat) (v : Value) (n : Nat) (zs : List Int) (w : World) (hown : w.ownsRow B 3 1 v n (i64s zs)) (hB : B ≤ w.heap.size) (hn : n ≤ 1073741824) :
    Calls Try.prog 38 #[v] w fun e w' => e = .returned (.tuple #[]) ∧ Below B w w' := by
  obtain ⟨A, c, rfl, hnl, hc, hm, _, _⟩ := own_slice hown
  rw [← hnl] at hown hc ⊢
  unfold maxLen at hm
  have HL : Hid (n = (i64s zs).length) := hnl
  clear hnl
  go_enter Try.func38, Try.ntmps38
  go_wp2
  go_loopw [2] (fun i wr => ∃ (k : Nat) (ys : List Int), i = .int .i64 k ∧ k ≤ n ∧ wr.ownsRow B 3 1 (.slice A n c) n (i64s ys) ∧ Below B w wr) (fun i _ => n - (intOf i).toNat)
  case atStart => exact ⟨0, zs, rfl, by omega, hown, Below.refl _ _⟩
  case round =>
    obtain ⟨k, ys, rfl, hk, ho, hb⟩ := hrel
    clear hown
    by_cases hlt : k < n
    · obtain ⟨g, cap, hv, hBg, hglt⟩ := ho.form (by omega)
      simp only [Value.slice.injEq, true_and] at hv
      obtain ⟨rfl, rfl⟩ := hv
      have hyl : ys.length = n := by have := ho.1; rw [i64s_length] at this; omega
      have hc1 : wr.cell? ⟨g, k, none⟩ = some (.int .i64 (ys[k]?.getD 0)) := by rw [ho.cellAt k (by omega), i64s_at (by omega)]
      have hf1 := ho.frozenAt k
      have HY := Lib.hid hyl
      clear hyl
      have i0 : (0 : Int) ≤ (k : Int) := by omega
      have i1 : (k : Int) < (n : Int) := by omega
      go_wp2
      go_roundw
      case rel =>
        obtain ⟨s1, s2⟩ := ho.stored k (.int .i64 (-99))
        refine ⟨k + 1, ys.set k (-99), by go_num, by omega, ?_, hb.setCell hBg _⟩
        rw [show i64s (ys.set k (-99)) = (i64s ys).set k (.int .i64 (-99)) from by simp [i64s, List.map_set]]
        exact s1
      case measure => simp [intOf]; omega
    · have i1 : ¬ ((k : Int) < (n : Int)) := by omega
      obtain rfl : k = n := by omega
      go_wp2_with (at_builtin; refine wpList_app_one _ rfl _ _ 25 rfl B 3 (.int .i64 0) 8 Try.underlying25 info_i64 rfl (by decide) _ k _ rfl (ho.alloc _) wr.heap.size (.int .i64 5) rfl (cell_new _ _ _) rfl (by omega) (by have := hb.size; simp; omega) ?_)
      intro v' w1 hown1 hb1
      go_wp2
      go_end0
      exact ⟨rfl, (hb.alloc (by have := hb.size; omega) _).trans hb1⟩

end Go.Proofs.Ytejkeccoialogaa
