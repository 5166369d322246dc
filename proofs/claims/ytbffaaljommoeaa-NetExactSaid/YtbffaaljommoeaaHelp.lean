/-
  The walks of what the statements share: copies, comparisons, the writing over of answers.
-/
import Derived.Test.YtbffaaljommoeaaRows
import Derived.Test.YtbffaaljommoeaaMem
import Derived.WalkSpells
import Derived.WalkLawsBesides
import Derived.Deep.QuietTactic
import Derived.BigQuiet
import Derived.LoopTactic
import Derived.Outline
namespace Go.Proofs.Ytbffaaljommoeaa
open Go.RowKit

theorem info_u8 : (Try.prog.info? 5).map (fun i => (i.zero, i.size, i.bytes)) = some (some (.int .u8 0), 1, 1) := by kernel_rfl
theorem info_i64 : (Try.prog.info? 3).map (fun i => (i.zero, i.size, i.bytes)) = some (some (.int .i64 0), 1, 8) := by kernel_rfl
theorem info_str : (Try.prog.info? 9).map (fun i => (i.zero, i.size, i.bytes)) = some (some (.string ByteArray.empty), 1, 16) := by kernel_rfl

theorem cell_new (w : World) (u : Value) (t : TypeId) : (w.alloc (.cells #[u] t)).cell? ⟨w.heap.size, 0, none⟩ = some u := by
  rw [World.cell?_alloc_at _ _ _ _ rfl]; rfl
theorem take_up {α : Type} {l : List α} {k : Nat} {x : α} (h : l[k]? = some x) : l.take (k + 1) = l.take k ++ [x] := by
  rw [List.take_add_one, h]; rfl

set_option maxHeartbeats 400000 in
theorem copyBytes_any (A : Option Addr) (c n : Nat) (zs : List Int) (w : World) (hz : zs.length = n) (hr : Rd w A (u8s zs)) (hc : n ≤ c) (hn : n ≤ 1073741824) :
    Calls Try.prog 19 #[.slice A n c] w (Made w.heap.size 5 w (u8s zs)) := by
  have HZ := Lib.hid hz
  clear hz
  go_enter Try.func19, Try.ntmps19
  go_wp2
  go_loopw [3, 4] (fun v i wr => ∃ k : Nat, i = .int .i64 k ∧ k ≤ n ∧ wr.ownsRow w.heap.size 5 1 v k ((u8s zs).take k) ∧ Below w.heap.size w wr) (fun _ i _ => n - (intOf i).toNat)
  case atStart => exact ⟨0, rfl, by omega, World.ownsRow_nil _ _ _ _, Below.refl _ _⟩
  case round =>
    obtain ⟨k, rfl, hk, hown, hb⟩ := hrel
    by_cases hlt : k < n
    · obtain ⟨b, off, rfl, hbl, hcell⟩ := (hr.below hb).open_ (by rw [u8s_length, HZ.out]; omega)
      have hc1 := hcell k _ (u8s_at (by rw [HZ.out]; exact hlt))
      clear hcell
      go_wp2_with (at_builtin; refine wpList_app_one _ rfl _ _ 30 rfl w.heap.size 5 (.int .u8 0) 1 Try.underlying30 info_u8 rfl (by decide) _ k _ rfl (hown.alloc _) wr.heap.size (.int .u8 (zs[k]?.getD 0)) rfl (cell_new _ _ _) rfl (by omega) (by have := hb.size; simp; omega) ?_)
      intro v' w1 hown1 hb1
      have hown2 := own_conv hown1 (take_up (u8s_at (by rw [HZ.out]; exact hlt))).symm rfl
      clear hown1 hown
      go_wp2
      go_roundw
      case rel => exact ⟨k + 1, by go_num, by omega, hown2, (hb.alloc hb.size _).trans hb1⟩
      case measure => simp [intOf]; omega
    · obtain rfl : k = n := by omega
      go_wp2
      go_ret
      rw [List.take_of_length_le (by rw [u8s_length, HZ.out]; omega)] at hown
      exact ⟨_, rfl, own_cast hown (by rw [u8s_length, HZ.out]), hb⟩

set_option maxHeartbeats 400000 in
theorem eqBytes_same (A A' : Option Addr) (c c' n : Nat) (zs : List Int) (w : World) (hz : zs.length = n) (hr : Rd w A (u8s zs)) (hr' : Rd w A' (u8s zs)) (hn : n ≤ 1073741824) :
    Calls Try.prog 12 #[.slice A n c, .slice A' n c'] w fun e w' => e = .returned (.bool true) ∧ ∃ d, w' = w.drewN d := by
  have HZ := Lib.hid hz
  clear hz
  go_enter Try.func12, Try.ntmps12
  go_wp2
  go_loopw [5] (fun i wr => ∃ k d : Nat, i = .int .i64 k ∧ k ≤ n ∧ wr = w.drewN d) (fun i _ => n - (intOf i).toNat)
  case atStart => exact ⟨0, 0, rfl, by omega, rfl⟩
  case round =>
    obtain ⟨k, d, rfl, hk, rfl⟩ := hrel
    by_cases hlt : k < n
    · obtain ⟨b, off, rfl, hbl, hcell⟩ := hr.open_ (by rw [u8s_length, HZ.out]; omega)
      obtain ⟨b', off', rfl, hbl', hcell'⟩ := hr'.open_ (by rw [u8s_length, HZ.out]; omega)
      have hc1 := hcell k _ (u8s_at (by rw [HZ.out]; exact hlt))
      have hc2 := hcell' k _ (u8s_at (by rw [HZ.out]; exact hlt))
      clear hcell hcell'
      have i0 : (0 : Int) ≤ (k : Int) := by omega
      have i1 : (k : Int) < (n : Int) := by omega
      go_wp2
      go_quiet (fail)
      go_wp2
      go_roundw
      case rel => exact ⟨k + 1, _, by go_num, by omega, rfl⟩
      case measure => simp [intOf]; omega
    · have i1 : ¬ ((k : Int) < (n : Int)) := by omega
      go_wp2
      go_ret
      exact ⟨rfl, _, rfl⟩

set_option maxHeartbeats 400000 in
theorem spoilBytes_any (B : Nat) (v : Value) (n : Nat) (zs : List Int) (w : World) (hown : w.ownsRow B 5 1 v n (u8s zs)) (hB : B ≤ w.heap.size) (hn : n ≤ 1073741824) :
    Calls Try.prog 13 #[v] w fun e w' => e = .returned (.tuple #[]) ∧ Below B w w' := by
  obtain ⟨A, c, rfl, hnl, hc, hm, _, _⟩ := own_slice hown
  rw [← hnl] at hown hc ⊢
  unfold maxLen at hm
  have HL : Hid (n = (u8s zs).length) := hnl
  clear hnl
  go_enter Try.func13, Try.ntmps13
  go_wp2
  go_loopw [2] (fun i wr => ∃ (k : Nat) (ys : List Int), i = .int .i64 k ∧ k ≤ n ∧ wr.ownsRow B 5 1 (.slice A n c) n (u8s ys) ∧ Below B w wr) (fun i _ => n - (intOf i).toNat)
  case atStart => exact ⟨0, zs, rfl, by omega, hown, Below.refl _ _⟩
  case round =>
    obtain ⟨k, ys, rfl, hk, ho, hb⟩ := hrel
    clear hown
    by_cases hlt : k < n
    · obtain ⟨g, cap, hv, hBg, hglt⟩ := ho.form (by omega)
      simp only [Value.slice.injEq, true_and] at hv
      obtain ⟨rfl, rfl⟩ := hv
      have hyl : ys.length = n := by have := ho.1; rw [u8s_length] at this; omega
      have hc1 : wr.cell? ⟨g, k, none⟩ = some (.int .u8 (ys[k]?.getD 0)) := by rw [ho.cellAt k (by omega), u8s_at (by omega)]
      have hf1 := ho.frozenAt k
      have HY := Lib.hid hyl
      clear hyl
      have i0 : (0 : Int) ≤ (k : Int) := by omega
      have i1 : (k : Int) < (n : Int) := by omega
      go_wp2
      go_roundw
      case rel =>
        obtain ⟨s1, s2⟩ := ho.stored k (.int .u8 (bits .xor .u8 (ys[k]?.getD 0) 85))
        refine ⟨k + 1, ys.set k (bits .xor .u8 (ys[k]?.getD 0) 85), by go_num, by omega, ?_, hb.setCell hBg _⟩
        rw [show u8s (ys.set k (bits .xor .u8 (ys[k]?.getD 0) 85)) = (u8s ys).set k (.int .u8 (bits .xor .u8 (ys[k]?.getD 0) 85)) from by simp [u8s, List.map_set]]
        exact s1
      case measure => simp [intOf]; omega
    · have i1 : ¬ ((k : Int) < (n : Int)) := by omega
      obtain rfl : k = n := by omega
      go_wp2_with (at_builtin; refine wpList_app_one _ rfl _ _ 30 rfl B 5 (.int .u8 0) 1 Try.underlying30 info_u8 rfl (by decide) _ k _ rfl (ho.alloc _) wr.heap.size (.int .u8 5) rfl (cell_new _ _ _) rfl (by omega) (by have := hb.size; simp; omega) ?_)
      intro v' w1 hown1 hb1
      go_wp2
      go_end0
      exact ⟨rfl, (hb.alloc (by have := hb.size; omega) _).trans hb1⟩

end Go.Proofs.Ytbffaaljommoeaa
