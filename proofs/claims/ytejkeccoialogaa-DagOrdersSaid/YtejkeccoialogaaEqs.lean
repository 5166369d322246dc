/-
  The page's comparisons of bytes and of numbers: whether two lists are the same.
-/
import Derived.Test.YtejkeccoialogaaRows
import Derived.Test.YtejkeccoialogaaMem
import Derived.WalkSpells
import Derived.WalkLawsBesides
import Derived.Deep.QuietTactic
import Derived.BigQuiet
import Derived.LoopTactic
namespace Go.Proofs.Ytejkeccoialogaa
open Go.RowKit

theorem take_nxt {α : Type} {l : List α} {k : Nat} {x : α} (h : l[k]? = some x) : l.take (k + 1) = l.take k ++ [x] := by
  rw [List.take_add_one, h]; rfl

set_option maxHeartbeats 800000 in
theorem eqNumbers_any (A A' : Option Addr) (c c' n n' : Nat) (L M : List Int) (w : World) (hz : L.length = n) (hz' : M.length = n') (hr : Rd w A (i64s L)) (hr' : Rd w A' (i64s M)) (hn : n ≤ 1073741824) (hn' : n' ≤ 1073741824) :
    Calls Try.prog 37 #[.slice A n c, .slice A' n' c'] w fun e w' => e = .returned (.bool (decide (L = M))) ∧ ∃ d, w' = w.drewN d := by
  have HZ := Lib.hid hz
  have HZ' := Lib.hid hz'
  clear hz hz'
  by_cases hnn : n = n'
  · subst hnn
    go_enter Try.func37, Try.ntmps37
    go_wp2
    go_loopw [5] (fun i wr => ∃ k d : Nat, i = .int .i64 k ∧ k ≤ n ∧ Hid (L.take k = M.take k) ∧ wr = w.drewN d) (fun i _ => n - (intOf i).toNat)
    case atStart => exact ⟨0, 0, rfl, by omega, rfl, rfl⟩
    case round =>
      obtain ⟨k, d, rfl, hk, HE, rfl⟩ := hrel
      by_cases hlt : k < n
      · obtain ⟨b, off, rfl, hbl, hcell⟩ := hr.open_ (by rw [i64s_length, HZ.out]; omega)
        obtain ⟨b', off', rfl, hbl', hcell'⟩ := hr'.open_ (by rw [i64s_length, HZ'.out]; omega)
        have hc1 := hcell k _ (i64s_at (by rw [HZ.out]; exact hlt))
        have hc2 := hcell' k _ (i64s_at (by rw [HZ'.out]; exact hlt))
        obtain ⟨x, hx⟩ : ∃ x, L[k]? = some x := ⟨L[k]'(by rw [HZ.out]; exact hlt), by simp⟩
        obtain ⟨y, hy⟩ : ∃ y, M[k]? = some y := ⟨M[k]'(by rw [HZ'.out]; exact hlt), by simp⟩
        rw [hx] at hc1
        rw [hy] at hc2
        simp only [Option.getD_some] at hc1 hc2
        have i0 : (0 : Int) ≤ (k : Int) := by omega
        have i1 : (k : Int) < (n : Int) := by omega
        by_cases hxy : x = y
        · have HT : Hid (L.take (k + 1) = M.take (k + 1)) := by
            show L.take (k + 1) = M.take (k + 1)
            rw [take_nxt hx, take_nxt hy, HE.out, hxy]
          subst hxy
          clear hcell hcell' hx hy
          go_wp2
          go_quiet (fail)
          go_wp2
          go_roundw
          case rel => exact ⟨k + 1, _, by go_num, by omega, HT.out, rfl⟩
          case measure => simp [intOf]; omega
        · have HT : Hid (decide (L = M) = false) := by
            show decide (L = M) = false
            simp only [decide_eq_false_iff_not]
            intro e
            rw [e, hy] at hx
            exact hxy (Option.some.inj hx).symm
          have j1 : (x == y) = false := by simp [hxy]
          have j2 : (x != y) = true := by simp [hxy]
          clear hcell hcell' hx hy hxy
          go_wp2
          go_quiet (fail)
          go_wp2
          go_ret
          exact ⟨by rw [HT.out]; rfl, d + _, World.drewN_drewN _ _ _⟩
      · have i1 : ¬ ((k : Int) < (n : Int)) := by omega
        have HT : Hid (decide (L = M) = true) := by
          show decide (L = M) = true
          have := HE.out
          rw [List.take_of_length_le (by rw [HZ.out]; omega), List.take_of_length_le (by rw [HZ'.out]; omega)] at this
          simp [this]
        go_wp2
        go_ret
        exact ⟨by rw [HT.out]; rfl, _, rfl⟩
  · have HT : Hid (decide (L = M) = false) := by
      show decide (L = M) = false
      simp only [decide_eq_false_iff_not]
      intro e
      have h1 := HZ.out
      have h2 := HZ'.out
      rw [e] at h1
      omega
    have j1 : ((n : Int) == (n' : Int)) = false := by simp; omega
    have j2 : ((n : Int) != (n' : Int)) = true := by simp; omega
    go_enter Try.func37, Try.ntmps37
    go_wp2
    go_ret
    exact ⟨by rw [HT.out]; rfl, 0, rfl⟩

end Go.Proofs.Ytejkeccoialogaa
