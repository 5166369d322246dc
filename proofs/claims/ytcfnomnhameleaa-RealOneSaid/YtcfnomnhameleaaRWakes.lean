/-
  What the statements ask of package real; what wakes them.
-/
import Derived.Test.YtcfnomnhameleaaZJ
import Derived.Test.YtcfnomnhameleaaRRealAll
namespace Go.Proofs.Ytcfnomnhameleaa
open Go.RowKit

structure RContracts (I : BookIs) : Prop where
  check : ∀ (v : Int) {F : Nat → Prop} (g : Nat) (L : List (List Int)) (S : List (Int × Int)) (A : Option Addr) (c nl : Nat) (l : List Int) (m : MsgD) (a : MsgA) (n : Int) (w : World), I w g F L S → realR L S n l m = v → MsgIn w m a → MsgOk m → MsgFew 1000000 a →
    l.length = nl → Rd w A (i64s l) → nl ≤ 1000000 → S.length ≤ 1000 → L.length ≤ 1000 →
    Calls Try.prog 23 #[.pointer (some ⟨g, 0, none⟩), .int .i64 n, .slice A nl c, msgV m a] w (Tells w.heap.size w (.int .i64 v))
  check_nil : ∀ (A : Option Addr) (c nl : Nat) (m : MsgD) (a : MsgA) (n : Int) (w : World),
    Calls Try.prog 23 #[.pointer none, .int .i64 n, .slice A nl c, msgV m a] w (Tells w.heap.size w (.int .i64 1))

def vote1 : MsgD := { zeroM with k := 5, f := 1, t := 2, d := 1 }
def xL : List Int := [120]
theorem vote1_no : realR [xL] [] 4 [] vote1 = 7 := by decide
theorem vote1_yes : realR [xL] [(1, 1)] 4 [] vote1 = 0 := by decide
theorem vote1_ok : MsgOk vote1 := ⟨by unfold I64 vote1; decide, by unfold I64 vote1; decide, by unfold I64 vote1; decide, by unfold I64 vote1; decide, i64_zero, i64_zero, fun x h => by simp [vote1, zeroM] at h, i64_zero, i64_zero, fun x h => by simp [vote1, zeroM] at h, fun x h => by simp [vote1, zeroM] at h, i64_zero, i64_zero, fun x h => by simp [vote1, zeroM] at h, fun x h => by simp [vote1, zeroM] at h, i64_zero, fun x h => by simp [vote1, zeroM] at h, fun x h => by simp [vote1, zeroM] at h⟩
theorem few_zero8 (s : Nat) : MsgFew s zeroA := by constructor <;> exact Nat.zero_le s
theorem vote1_in (w : World) : MsgIn w vote1 zeroA := by constructor <;> first | rfl | exact Rd.nil _ _ | exact Nat.le_refl _ | simp [zeroA, maxLen]

set_option maxRecDepth 100000 in
set_option maxHeartbeats 4000000 in
theorem wakes8_any {I : BookIs} (K : BookK I) (R : RContracts I) (w : World) : Calls Try.prog 28 #[] w (Tells w.heap.size w (.bool true)) := by
  have hcv := fun w => Lib.run_convert_bytes_const (P := Try.prog) w 60 5 #[.int .u8 120] 1 1 Try.underlying60 Try.underlying5
  go_enter Try.func28, Try.ntmps28
  go_wp2_with fail
  refine (K.new _).mono ?_
  rintro e w1 ⟨g, F, rfl, hI, hF, hb⟩
  go_wp2_with fail
  obtain ⟨w2, hw2⟩ : ∃ w2, w2 = w1.alloc (.cells #[.int .u8 120] 5 (1, 2)) := ⟨_, rfl⟩
  have hb2 : Below w1.heap.size w1 w2 := by rw [hw2]; exact (Below.refl _ _).alloc (Nat.le_refl _) _
  have hr2 : Rd w2 (some ⟨w1.heap.size, 0, none⟩) (u8s xL) := by rw [hw2]; exact rd_marked w1 [.int .u8 120] _ _
  have hI2 := K.kept hI hb2.size fun k hk => hb2.block k (K.lt hI k hk)
  have hG : Given w2 F (some ⟨w1.heap.size, 0, none⟩) 1 1 xL := ⟨rfl, hr2, fun c hc => by simp [xL] at hc; subst hc; exact ⟨by omega, by omega⟩, by omega, by simp [maxLen], by omega, fun a ha _ hf => by cases ha; have := K.lt hI _ hf; simp at this⟩
  rw [← hw2]
  have hbw : Below w.heap.size w w2 := hb.trans (hb2.mono hb.size)
  clear hw2 hr2 hI hb2
  refine (K.digest_new g [] [] _ 1 1 xL _ hI2 hG (by simp) rfl).mono ?_
  rintro e w3 ⟨rfl, F3, hI3, ht3, _⟩
  have hb3 : Below w.heap.size w w3 := hbw.trans (ht3.below hF hbw.size)
  have hF3 : ∀ k, F3 k → w.heap.size ≤ k := fun k hk => by
    rename_i h
    rcases h k hk with h | h
    · exact hF k h
    · have := hbw.size; omega
  clear hG hI2 ht3 hbw
  obtain ⟨gm, hgm⟩ : ∃ gm, gm = w3.heap.size := ⟨_, rfl⟩
  have bz := Lib.hid (box_new w3 (msgC zeroM zeroA) 42)
  have HI3 := Lib.hid hI3
  have HF3 := Lib.hid hF3
  clear hI3 hF3
  go_wp2_with (first
    | (refine wpList_store_box rfl 42 _ _ rfl w3.heap.size 0 (msgC vote1 zeroA) (msgC zeroM zeroA) (msgC vote1 zeroA) rfl rfl bz.out (by simp [msgC]) rfl size_msg rfl ?_)
    | (refine wpList_run_to rfl 42 rfl (.pointer (some ⟨w3.heap.size, 0, none⟩)) (w3.alloc (.cells (msgC zeroM zeroA).toArray 42)) (by unfold execOp msgC zeroM zeroA; go_simp; done) ?_))
  intro w4 bx4 T4
  have t4 := T4 (fun k => k = w3.heap.size) rfl
  have h34 : Below w3.heap.size w3 w4 := ((Below.refl _ _).alloc (Nat.le_refl _) _).trans (t4.below (fun k hk => by rw [hk]; exact Nat.le_refl _) (by simp))
  have hb4 := hb3.trans (h34.mono hb3.size)
  rw [← hgm] at bx4 ⊢
  have HBX4 := Lib.hid bx4
  have hI4 := K.kept HI3.out h34.size fun k hk => h34.block k (K.lt HI3.out k hk)
  have hgF : ¬ F3 gm := fun h => by have := K.lt HI3.out _ h; omega
  have HI4 := Lib.hid hI4
  have HGF := Lib.hid hgF
  clear T4 t4 bx4 hI4 h34 hgm bz hgF
  go_wp2_with (refine wpList_load_box rfl 42 _ rfl gm rfl (msgC vote1 zeroA) HBX4.out _ Try.underlying42 rfl size_msg ?_)
  refine (R.check 7 g [xL] [] none 0 0 [] vote1 zeroA 4 _ HI4.out vote1_no (vote1_in _) vote1_ok (few_zero8 _) rfl (Rd.nil _ _) (by omega) (by simp) (by simp)).mono ?_
  rintro e w5 ⟨rfl, h45⟩
  have hb5 := hb4.trans (h45.mono hb4.size)
  have HBX5 := Lib.hid (HBX4.out.below h45 HBX4.out.1)
  have HI5 := Lib.hid (K.kept HI4.out h45.size fun k hk => h45.block k (K.lt HI4.out k hk))
  go_wp2_with fail
  refine (num8_any _ _).mono ?_
  rintro e w' ⟨rfl, rfl⟩
  go_wp2_with fail
  refine (K.sign_ok g [xL] [] 1 1 _ HI5.out (by simp) (by simp) (by omega) ⟨by omega, by simp⟩).mono ?_
  rintro e w6 ⟨rfl, F6, hI6, ht6, _⟩
  have hb6 := hb5.trans (ht6.below HF3.out hb5.size)
  have HBX6 := Lib.hid (HBX5.out.touch ht6 HGF.out)
  have HI6 := Lib.hid hI6
  clear hI6 ht6
  go_wp2_with fail
  refine (num8_any _ _).mono ?_
  rintro e w' ⟨rfl, rfl⟩
  go_wp2_with fail
  refine (num8_any _ _).mono ?_
  rintro e w' ⟨rfl, rfl⟩
  go_wp2_with (refine wpList_load_boxG 42 _ rfl gm rfl rfl (msgC vote1 zeroA) HBX6.out _ Try.underlying42 rfl size_msg ?_)
  refine (R.check 0 g [xL] [(1, 1)] none 0 0 [] vote1 zeroA 4 _ HI6.out vote1_yes (vote1_in _) vote1_ok (few_zero8 _) rfl (Rd.nil _ _) (by omega) (by simp) (by simp)).mono ?_
  rintro e w7 ⟨rfl, h67⟩
  have hb7 := hb6.trans (h67.mono hb6.size)
  go_wp2_with fail
  refine (num8_any _ _).mono ?_
  rintro e w' ⟨rfl, rfl⟩
  go_wp2_with fail
  go_ret
  exact ⟨rfl, hb7⟩

end Go.Proofs.Ytcfnomnhameleaa
