/-
  The statements' writing over of bytes: only the row's own block turns.
-/
import Derived.Test.YtbffaaljommoeaaHelp
import Derived.Test.YtbffaaljommoeaaFoot
namespace Go.Proofs.Ytbffaaljommoeaa
open Go.RowKit

/-- bytes written over: only their own row turns -/
theorem spoil_far (B : Nat) (v : Value) (n : Nat) (zs : List Int) (w : World) (hown : w.ownsRow B 5 1 v n (u8s zs)) (hn : n ≤ 1073741824) :
    Calls Try.prog 13 #[v] w fun e w' => e = .returned (.tuple #[]) ∧ Touch (fun k => v.ownBlock = some k) w w' := by
  obtain ⟨A, c, rfl, hnl, hc, hm, _, _⟩ := own_slice hown
  rw [← hnl] at hown hc ⊢
  unfold maxLen at hm
  have HL : Hid (n = (u8s zs).length) := hnl
  clear hnl
  go_enter Try.func13, Try.ntmps13
  go_wp2
  go_loopw [2] (fun i wr => ∃ (k : Nat) (ys : List Int), i = .int .i64 k ∧ k ≤ n ∧ wr.ownsRow 0 5 1 (.slice A n c) n (u8s ys) ∧ Touch (fun k => (Value.slice A n c).ownBlock = some k) w wr) (fun i _ => n - (intOf i).toNat)
  case atStart => exact ⟨0, zs, rfl, by omega, own_low hown (fun _ _ => Nat.zero_le _), Touch.refl _ _⟩
  case round =>
    obtain ⟨k, ys, rfl, hk, ho, ht⟩ := hrel
    clear hown
    by_cases hlt : k < n
    · obtain ⟨g, cap, hv, hBg, hglt⟩ := ho.form (by omega)
      simp only [Value.slice.injEq, true_and] at hv
      obtain ⟨rfl, rfl⟩ := hv
      have hyl : ys.length = n := by have := ho.1; rw [u8s_length] at this; omega
      have hc1 : wr.cell? ⟨g, k, none⟩ = some (.int .u8 (ys[k]?.getD 0)) := by rw [ho.cellAt k (by omega), u8s_at (by omega)]
      have hf1 := ho.frozenAt k
      have HY := Lib.hid hyl
      have HT := Lib.hid ht
      clear hyl ht
      have i0 : (0 : Int) ≤ (k : Int) := by omega
      have i1 : (k : Int) < (n : Int) := by omega
      go_wp2
      go_roundw
      case rel =>
        obtain ⟨s1, s2⟩ := ho.stored k (.int .u8 (bits .xor .u8 (ys[k]?.getD 0) 85))
        refine ⟨k + 1, ys.set k (bits .xor .u8 (ys[k]?.getD 0) 85), by go_num, by omega, ?_, HT.out.set (.inl rfl) _⟩
        rw [show u8s (ys.set k (bits .xor .u8 (ys[k]?.getD 0) 85)) = (u8s ys).set k (.int .u8 (bits .xor .u8 (ys[k]?.getD 0) 85)) from by simp [u8s, List.map_set]]
        exact s1
      case measure => simp [intOf]; omega
    · have i1 : ¬ ((k : Int) < (n : Int)) := by omega
      obtain rfl : k = n := by omega
      have HT := Lib.hid ht
      clear ht
      go_wp2_with (at_builtin; refine wpList_app_lies _ rfl _ _ 30 rfl 0 5 (.int .u8 0) 1 Try.underlying30 info_u8 rfl (by decide) _ k _ rfl (ho.alloc _) wr.heap.size (.int .u8 5) rfl (cell_new _ _ _) rfl (by omega) (by omega) ?_)
      intro g' c' w1 hown1 hg1 _
      have hT := (HT.out.alloc (.cells #[.int .u8 5] 5)).trans (Touch.grown (F := fun k' => (Value.slice A k c).ownBlock = some k') hg1 (fun k' e => e)) (fun k' hf => .inl hf)
      go_wp2
      go_end0
      exact ⟨rfl, hT⟩

end Go.Proofs.Ytbffaaljommoeaa
