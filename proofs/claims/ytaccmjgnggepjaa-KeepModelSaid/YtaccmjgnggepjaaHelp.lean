/-
  The walks of what the statements share: copies, comparisons, the writing over of answers.
-/
import Derived.Test.YtaccmjgnggepjaaRows
import Derived.Test.YtaccmjgnggepjaaMem
import Derived.WalkSpells
import Derived.WalkLawsBesides
import Derived.Deep.QuietTactic
import Derived.BigQuiet
import Derived.LoopTactic
import Derived.Outline
namespace Go.Proofs.Ytaccmjgnggepjaa
open Go.RowKit

theorem info_u8 : (Try.prog.info? 5).map (fun i => (i.zero, i.size, i.bytes)) = some (some (.int .u8 0), 1, 1) := by kernel_rfl
theorem info_i64 : (Try.prog.info? 3).map (fun i => (i.zero, i.size, i.bytes)) = some (some (.int .i64 0), 1, 8) := by kernel_rfl
theorem info_str : (Try.prog.info? 9).map (fun i => (i.zero, i.size, i.bytes)) = some (some (.string ByteArray.empty), 1, 16) := by kernel_rfl

theorem cell_new (w : World) (u : Value) (t : TypeId) : (w.alloc (.cells #[u] t)).cell? ⟨w.heap.size, 0, none⟩ = some u := by
  rw [World.cell?_alloc_at _ _ _ _ rfl]; rfl
theorem take_up {α : Type} {l : List α} {k : Nat} {x : α} (h : l[k]? = some x) : l.take (k + 1) = l.take k ++ [x] := by
  rw [List.take_add_one, h]; rfl

set_option maxHeartbeats 400000 in
theorem eqStrings_same (A A' : Option Addr) (c c' n : Nat) (zs : List ByteArray) (w : World) (hz : zs.length = n) (hr : Rd w A (strs zs)) (hr' : Rd w A' (strs zs)) (hn : n ≤ 1073741824) :
    Calls Try.prog 22 #[.slice A n c, .slice A' n c'] w fun e w' => e = .returned (.bool true) ∧ ∃ d, w' = w.drewN d := by
  have HZ := Lib.hid hz
  clear hz
  go_enter Try.func22, Try.ntmps22
  go_wp2
  go_loopw [5] (fun i wr => ∃ k d : Nat, i = .int .i64 k ∧ k ≤ n ∧ wr = w.drewN d) (fun i _ => n - (intOf i).toNat)
  case atStart => exact ⟨0, 0, rfl, by omega, rfl⟩
  case round =>
    obtain ⟨k, d, rfl, hk, rfl⟩ := hrel
    by_cases hlt : k < n
    · obtain ⟨b, off, rfl, hbl, hcell⟩ := hr.open_ (by rw [strs_length, HZ.out]; omega)
      obtain ⟨b', off', rfl, hbl', hcell'⟩ := hr'.open_ (by rw [strs_length, HZ.out]; omega)
      have hc1 := hcell k _ (strs_at (by rw [HZ.out]; exact hlt))
      have hc2 := hcell' k _ (strs_at (by rw [HZ.out]; exact hlt))
      clear hcell hcell'
      have i0 : (0 : Int) ≤ (k : Int) := by omega
      have i1 : (k : Int) < (n : Int) := by omega
      go_wp2
      go_quiet (fail)
      go_wp2
      go_roundw
      case rel => exact ⟨k + 1, _, by go_num, by omega, rfl⟩
      case measure => simp [intOf]; omega
    · have i1 : ¬ ((k : Int) < (n : Int)) := by omega
      go_wp2
      go_ret
      exact ⟨rfl, _, rfl⟩

set_option maxHeartbeats 400000 in
theorem spoilStrings_any (B : Nat) (v : Value) (n : Nat) (zs : List ByteArray) (w : World) (hown : w.ownsRow B 9 1 v n (strs zs)) (hB : B ≤ w.heap.size) (hn : n ≤ 1073741824) :
    Calls Try.prog 30 #[v] w fun e w' => e = .returned (.tuple #[]) ∧ Below B w w' := by
  obtain ⟨A, c, rfl, hnl, hc, hm, _, _⟩ := own_slice hown
  rw [← hnl] at hown hc ⊢
  unfold maxLen at hm
  have HL : Hid (n = (strs zs).length) := hnl
  clear hnl
  go_enter Try.func30, Try.ntmps30
  go_wp2
  go_loopw [2] (fun i wr => ∃ (k : Nat) (ys : List ByteArray), i = .int .i64 k ∧ k ≤ n ∧ wr.ownsRow B 9 1 (.slice A n c) n (strs ys) ∧ Below B w wr) (fun i _ => n - (intOf i).toNat)
  case atStart => exact ⟨0, zs, rfl, by omega, hown, Below.refl _ _⟩
  case round =>
    obtain ⟨k, ys, rfl, hk, ho, hb⟩ := hrel
    clear hown
    by_cases hlt : k < n
    · obtain ⟨g, cap, hv, hBg, hglt⟩ := ho.form (by omega)
      simp only [Value.slice.injEq, true_and] at hv
      obtain ⟨rfl, rfl⟩ := hv
      have hyl : ys.length = n := by have := ho.1; rw [strs_length] at this; omega
      have hc1 : wr.cell? ⟨g, k, none⟩ = some (.string (ys[k]?.getD ByteArray.empty)) := by rw [ho.cellAt k (by omega), strs_at (by omega)]
      have hf1 := ho.frozenAt k
      have HY := Lib.hid hyl
      clear hyl
      have i0 : (0 : Int) ≤ (k : Int) := by omega
      have i1 : (k : Int) < (n : Int) := by omega
      go_wp2
      go_roundw
      case rel =>
        obtain ⟨s1, s2⟩ := ho.stored k (.string ⟨#[115, 112, 111, 105, 108, 116]⟩)
        refine ⟨k + 1, ys.set k (⟨#[115, 112, 111, 105, 108, 116]⟩), by go_num, by omega, ?_, hb.setCell hBg _⟩
        rw [show strs (ys.set k (⟨#[115, 112, 111, 105, 108, 116]⟩)) = (strs ys).set k (.string ⟨#[115, 112, 111, 105, 108, 116]⟩) from by simp [strs, List.map_set]]
        exact s1
      case measure => simp [intOf]; omega
    · have i1 : ¬ ((k : Int) < (n : Int)) := by omega
      obtain rfl : k = n := by omega
      go_wp2_with (at_builtin; refine wpList_app_one _ rfl _ _ 50 rfl B 9 (.string ByteArray.empty) 16 Try.underlying50 info_str rfl (by decide) _ k _ rfl (ho.alloc _) wr.heap.size (.string ⟨#[]⟩) rfl (cell_new _ _ _) rfl (by omega) (by have := hb.size; simp; omega) ?_)
      intro v' w1 hown1 hb1
      go_wp2
      go_end0
      exact ⟨rfl, (hb.alloc (by have := hb.size; omega) _).trans hb1⟩

end Go.Proofs.Ytaccmjgnggepjaa
