/-
  Package message's Decode as landed: bytes that are too short.
-/
import Derived.Test.YtafkcofocjellaaMFine
namespace Go.Proofs.Ytafkcofocjellaa
open Go.RowKit

set_option maxRecDepth 100000 in
set_option maxHeartbeats 16000000 in
theorem mdec_short (A : Option Addr) (c l : Nat) (x : List Int) (n : Int) (w : World) (hz : x.length = l) (h3 : l < 3) :
    Calls Try.prog 23 #[.slice A l c, .int .i64 n] w fun e w' => Below w.heap.size w w' ∧ DecGot w' e (decM x n) := by
  obtain ⟨w1, hw1⟩ : ∃ w1, w1 = w.alloc (.cells (msgC zeroM zeroA).toArray 32) := ⟨_, rfl⟩
  have hb1 : Below w.heap.size w w1 := by rw [hw1]; exact (Below.refl _ _).alloc (Nat.le_refl _) _
  have hs1 : w1.heap.size = w.heap.size + 1 := by rw [hw1]; simp
  have bx1 : Box w1 w.heap.size (msgC zeroM zeroA) := by rw [hw1]; exact box_new w (msgC zeroM zeroA) 32
  have HW := Lib.hid hw1
  have HS1 := Lib.hid hs1
  have HBX1 := Lib.hid bx1
  clear hw1 bx1 hs1
  have HNO : Hid (decM x n = none) := decM_short n (by rw [hz]; exact h3)
  have i3 : (l : Int) < 3 := by omega
  clear h3 hz
  go_enter Try.func23, Try.ntmps23
  go_upto_region 1 with (refine wpList_run_to rfl 32 rfl (.pointer (some ⟨w.heap.size, 0, none⟩)) (w.alloc (.cells (msgC zeroM zeroA).toArray 32)) (by unfold execOp msgC zeroM zeroA; go_simp; done) ?_)
  rw [← HW.out]
  go_wp2_with (refine wpList_store_box rfl 32 _ _ rfl w.heap.size 0 (msgC zeroM zeroA) (msgC zeroM zeroA) (msgC zeroM zeroA) rfl rfl HBX1.out (by simp [msgC]) rfl size_mes rfl ?_)
  intro w2 bx2 T2
  have hb2 : Below w.heap.size w w2 := hb1.trans ((T2 (fun k => k = w.heap.size) rfl).below (fun k hk => by rw [hk]; exact Nat.le_refl _) hb1.size)
  clear T2
  go_wp2_with fail
  refine bodyPost_ret (v := .tuple #[msgV zeroM zeroA, .int .i64 1]) (mres _ _ w.heap.size zeroM zeroA 1 rfl rfl bx2) rfl ⟨hb2, dec_none HNO.out rfl⟩

end Go.Proofs.Ytafkcofocjellaa
