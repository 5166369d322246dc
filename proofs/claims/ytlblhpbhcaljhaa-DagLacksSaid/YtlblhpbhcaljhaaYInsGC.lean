/-
  slices.Insert of one element into a row of certificates that has no room.
-/
import Derived.Test.YtlblhpbhcaljhaaYInsFC
namespace Go.Proofs.Ytlblhpbhcaljhaa
open Go.RowKit

set_option maxRecDepth 100000 in
set_option maxHeartbeats 8000000 in
theorem insert_growC (B g n i gx : Nat) (xs us : List Value) (w : World) (h : w.ownsRow B 45 6 (.slice (some ⟨g, 0, none⟩) n n) n xs) (hB : B ≤ w.heap.size) (hi : i < n) (hn : n ≤ 1000000) (h1 : ∀ v ∈ xs, v.oneCell' = true)
    (hu : us.length = 6) (hgx : w.heap[gx]? = some (.cells us.toArray 45 (0, 0))) (hu1 : ∀ v ∈ us, v.oneCell' = true) :
    Calls Try.prog 59 #[.slice (some ⟨g, 0, none⟩) n n, .int .i64 i, .slice (some ⟨gx, 0, none⟩) 1 1] w fun e w' =>
      ∃ G, e = .returned (.slice (some ⟨w.heap.size, 0, none⟩) (n + 1) G) ∧ w'.ownsRow B 45 6 (.slice (some ⟨w.heap.size, 0, none⟩) (n + 1) G) (n + 1) (putInC xs us i) ∧ w.grownBy w' none := by
  obtain ⟨G, w1, w2, w3, hG1, hG2, hap, hcp1, hcp2, hown, hgr⟩ := grow_factsC B g n i gx xs us w h hB hi hn h1 hu hgx hu1
  have HA := Lib.hid hap
  have H1 := Lib.hid hcp1
  have H2 := Lib.hid hcp2
  have HO := Lib.hid hown
  unfold maxLen at hG2
  clear hap hcp1 hcp2 hown h hgx hu hu1 h1 hB
  obtain ⟨N, hN⟩ : ∃ N, N = w.heap.size := ⟨_, rfl⟩
  rw [← hN] at HA H1 H2 HO ⊢
  clear hN
  have e1 : (0 : Int) ≤ (i : Int) := by omega
  have e2 : (i : Int) ≤ (n : Int) := by omega
  have e3 : ¬ ((i : Int) = (n : Int)) := by omega
  have e4 : (n : Int) < (n : Int) + 1 := by omega
  have e6 : ((i : Int) + 1).toNat = i + 1 := by omega
  have e7 : (0 : Int) ≤ (i : Int) + 1 := by omega
  have e8 : (i : Int) + 1 ≤ (n : Int) + 1 := by omega
  have e9 : (i : Int) ≤ (n : Int) + 1 := by omega
  have f1 : ¬ (n = i) := by omega
  have f2 : ¬ (G = i) := by omega
  have f3 : ¬ (G = i + 1) := by omega
  have f4 : i ≤ n + 1 := by omega
  have f5 : ((n : Int) + 1).toNat = n + 1 := by omega
  have f7 : i + 1 ≤ n + 1 := by omega
  have f8 : i ≤ n := by omega
  go_enter Try.func59, Try.ntmps59
  go_wp2_with (first | (at_builtin; refine wpList_app_run (o := ⟨some 40, _, _, _, _, _⟩) _ rfl (.tmp 34) (.tmp 39) 22 3 rfl rfl rfl (HA.out _) ?_) | refine wpList_copy_run (o := ⟨some 45, _, _, _, _, _⟩) _ rfl (.tmp 43) (.tmp 44) 22 22 rfl rfl rfl (H1.out _ _) ?_)
  have g1 : IntKind.i64.wrap ((i : Int) + 1) = (i : Int) + 1 := IntWalk.i64_in _ (by omega)
  go_still_tail 8, (by kernel_rfl)
  change wpList _ _ _ _ _ w2.drew
  go_wp2_with (first | refine wpList_copy_run (o := ⟨some 54, _, _, _, _, _⟩) _ rfl (.tmp 50) (.tmp 53) 22 22 rfl rfl rfl (H2.out _ _ _) ?_)
  go_ret
  exact ⟨G, rfl, HO.out, hgr⟩

end Go.Proofs.Ytlblhpbhcaljhaa
