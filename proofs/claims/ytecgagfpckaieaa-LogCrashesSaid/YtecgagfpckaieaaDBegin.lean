/-
  Package disk: the count of calls, the power; open.
-/
import Derived.Test.YtecgagfpckaieaaDBase
namespace Go.Proofs.Ytecgagfpckaieaa
open Go.RowKit

section
variable {w w' : World} {g : Nat} {F F' : Nat → Prop} {D D' : PD} {vL : Value} {l l' : Int} {ms : List MF}
/-- only its own block has turned, but not its files -/
theorem DiskIn.turn (h : DiskIn w g F D vL l ms) (ht : Touch (fun k => k = g) w w') (hb : w'.heap[g]? = some (.cells #[vL, .int .i64 D'.calls, .int .i64 l', .bool D'.off] 67 (0, 0))) (hL : D'.L = D.L)
    (ho : D'.off = false → l' = D'.left) (hl : -9223372036854775808 ≤ l' ∧ l' ≤ 9223372036854775807) : DiskIn w' g F D' vL l' ms where
  blk := hb
  row := own_kept h.row fun k hk hl => ht.block k hl (fun e => by
    subst e
    have hnd := h.nd
    simp only [dblks, List.nodup_cons, List.mem_append, hk, Option.toList_some, List.mem_singleton, true_or, not_true_eq_false, false_and] at hnd)
  els := fun m hm => (h.els m hm).kept fun k hk => ht.block k (h.lt _ (h.elF hm hk)) (fun e => by
    subst e
    have hnd := h.nd
    simp only [dblks, List.nodup_cons, List.mem_append, List.mem_flatMap] at hnd
    exact hnd.1 (.inr ⟨m, hm, hk⟩))
  nd := h.nd
  inF := h.inF
  lt := fun k hf => Nat.lt_of_lt_of_le (h.lt k hf) ht.size
  eqL := by rw [hL]; exact h.eqL
  rise := by rw [hL]; exact h.rise
  few := h.few
  okl := ho
  lr := hl
end

theorem begin_no (g : Nat) (s : ByteArray) (w : World) (hs : s.size ≤ maxLen) (hn : okName s = false) :
    Calls Try.prog 47 #[.pointer (some ⟨g, 0, none⟩), .string s] w fun e w' => e = .returned (.int .i64 1) ∧ w = w' := by
  go_enter Try.func47, Try.ntmps47
  go_wp2_with (go_at_call 39; refine (isName_is false _ _ hs hn).mono ?_; rintro e w' ⟨rfl, rfl⟩)
  go_ret
  exact ⟨rfl, rfl⟩

def BeginTo (g : Nat) (F : Nat → Prop) (D : PD) (vL : Value) (ms : List MF) (w w' : World) : Prop := ∃ l, DiskIn w' g F D vL l ms ∧ Touch (fun k => k = g) w w'

set_option maxHeartbeats 2000000 in
theorem begin_yes {F : Nat → Prop} {D : PD} {vL : Value} {l : Int} {ms : List MF} (b : Bool) (g : Nat) (s : ByteArray) (w : World) (h : DiskIn w g F D vL l ms) (hs : s.size ≤ maxLen) (hn : okName s = true) (hc : D.calls ≤ 1000000) (hb : D.tick.off = b) :
    Calls Try.prog 47 #[.pointer (some ⟨g, 0, none⟩), .string s] w fun e w' => e = .returned (.int .i64 (if b = true then 9 else 0)) ∧ BeginTo g F D.tick vL ms w w' := by
  have c1 := h.c1
  have c2 := h.c2
  have c3 := h.c3
  have f1 := h.fz 1
  have f2 := h.fz 2
  have f3 := h.fz 3
  have hlr := h.lr
  have hcc : ((D.calls : Int) + 1) = ((D.calls + 1 : Nat) : Int) := by omega
  -- what the block holds behind it
  have fin : ∀ (w' : World) (D' : PD) (l' : Int), D' = D.tick → Touch (fun k => k = g) w w' → w'.heap[g]? = some (.cells #[vL, .int .i64 ((D.calls : Int) + 1), .int .i64 l', .bool D'.off] 67 (0, 0)) → (D'.off = false → l' = D'.left) → (-9223372036854775808 ≤ l' ∧ l' ≤ 9223372036854775807) → BeginTo g F D.tick vL ms w w' := by
    intro w' D' l' e ht hb ho hl
    subst e
    exact ⟨l', h.turn ht (by rw [tick_calls, ← hcc]; exact hb) (tick_L D) ho hl, ht⟩
  have HF := Lib.hid fin
  have HBLK := Lib.hid h.blk
  have HT : Hid (Touch (fun k => k = g) w w) := Touch.refl _ _
  clear fin hcc
  cases hoff : D.off with
  | true =>
    have htk : D.tick = { D with calls := D.calls + 1 } := by unfold PD.tick; rw [if_pos hoff]
    have hb1 : b = true := by rw [← hb, htk]; exact hoff
    subst hb1
    rw [hoff] at c3
    have HTK := Lib.hid htk
    have HOFF := Lib.hid hoff
    clear htk hoff hb
    have hne : Hid ((D.tick).off = true) := by show _ = true; rw [HTK.out]; exact HOFF.out
    by_cases hl : 0 < l
    · go_enter Try.func47, Try.ntmps47
      go_wp2_with (go_at_call 39; refine (isName_is true _ _ hs hn).mono ?_; rintro e w' ⟨rfl, rfl⟩)
      go_ret
      refine ⟨rfl, HF.out _ D.tick (l - 1) rfl ?_ ?_ (fun h => by rw [hne.out] at h; cases h) ⟨by omega, by omega⟩⟩
      · exact ((HT.out.set (.inl rfl) _).set (.inl rfl) _).set (.inl rfl) _
      · rw [hne.out]
        exact heap_setCell_same _ g 3 _ _ _ (heap_setCell_same _ g 2 _ _ _ (heap_setCell_same _ g 1 _ _ _ HBLK.out))
    · go_enter Try.func47, Try.ntmps47
      go_wp2_with (go_at_call 39; refine (isName_is true _ _ hs hn).mono ?_; rintro e w' ⟨rfl, rfl⟩)
      go_ret
      refine ⟨rfl, HF.out _ D.tick l rfl ?_ ?_ (fun h => by rw [hne.out] at h; cases h) ⟨by omega, by omega⟩⟩
      · exact HT.out.set (.inl rfl) _
      · have := heap_setCell_same w g 1 _ _ (.int .i64 ((D.calls : Int) + 1)) HBLK.out
        rw [hne.out]
        rw [HOFF.out] at this
        exact this
  | false =>
    have hl0 := h.okl hoff
    subst hl0
    rw [hoff] at c3
    rcases Nat.eq_zero_or_pos D.left with h0 | h0
    · have htk : D.tick = { D with calls := D.calls + 1 } := by unfold PD.tick; rw [if_neg (by rw [hoff]; decide), if_pos h0]
      have hb1 : b = false := by rw [← hb, htk]; exact hoff
      subst hb1
      have i0 : ¬ ((0 : Int) < (D.left : Int)) := by omega
      have hne : Hid ((D.tick).off = false) := by show _ = false; rw [htk]; exact hoff
      have hlf : Hid ((D.tick).left = D.left) := by show _ = _; rw [htk]
      have HOFF := Lib.hid hoff
      clear hoff hb htk h0
      go_enter Try.func47, Try.ntmps47
      go_wp2_with (go_at_call 39; refine (isName_is true _ _ hs hn).mono ?_; rintro e w' ⟨rfl, rfl⟩)
      go_ret
      refine ⟨rfl, HF.out _ D.tick D.left rfl ?_ ?_ (fun h => by rw [hlf.out]) ⟨by omega, by omega⟩⟩
      · exact HT.out.set (.inl rfl) _
      · have := heap_setCell_same w g 1 _ _ (.int .i64 ((D.calls : Int) + 1)) HBLK.out
        rw [hne.out]
        rw [HOFF.out] at this
        exact this
    · by_cases h1 : D.left = 1
      · have htk : D.tick = { D with calls := D.calls + 1, left := 0, off := true } := by unfold PD.tick; rw [if_neg (by rw [hoff]; decide), if_neg (by omega), if_pos h1]
        have hb1 : b = true := by rw [← hb, htk]
        subst hb1
        have i0 : (0 : Int) < (D.left : Int) := by omega
        have hne : Hid ((D.tick).off = true) := by show _ = true; rw [htk]
        have i1 : ((D.left : Int) - 1 == 0) = true := by simp; omega
        have i2 : (D.left : Int) - 1 = 0 := by omega
        have HOFF := Lib.hid hoff
        have HI2 := Lib.hid i2
        have HI1 := Lib.hid i1
        clear hoff hb htk h1 i1 h0
        go_enter Try.func47, Try.ntmps47
        go_wp2_with (go_at_call 39; refine (isName_is true _ _ hs hn).mono ?_; rintro e w' ⟨rfl, rfl⟩)
        go_ret
        refine ⟨rfl, HF.out _ D.tick 0 rfl ?_ ?_ (fun h => by rw [hne.out] at h; cases h) ⟨by omega, by omega⟩⟩
        · exact ((HT.out.set (.inl rfl) _).set (.inl rfl) _).set (.inl rfl) _
        · rw [hne.out]
          exact heap_setCell_same _ g 3 _ _ _ (heap_setCell_same _ g 2 _ _ _ (heap_setCell_same _ g 1 _ _ _ HBLK.out))
      · have htk : D.tick = { D with calls := D.calls + 1, left := D.left - 1 } := by unfold PD.tick; rw [if_neg (by rw [hoff]; decide), if_neg (by omega), if_neg h1]
        have hb1 : b = false := by rw [← hb, htk]; exact hoff
        subst hb1
        have i0 : (0 : Int) < (D.left : Int) := by omega
        have hne : Hid ((D.tick).off = false) := by show _ = false; rw [htk]; exact hoff
        have hlf : Hid (((D.tick).left : Int) = (D.left : Int) - 1) := by show _ = _; rw [htk]; show ((D.left - 1 : Nat) : Int) = _; omega
        have i1 : ((D.left : Int) - 1 == 0) = false := by simp; omega
        have i2 : ¬ ((D.left : Int) - 1 = 0) := by omega
        have HOFF := Lib.hid hoff
        clear hoff hb htk h1 h0
        go_enter Try.func47, Try.ntmps47
        go_wp2_with (go_at_call 39; refine (isName_is true _ _ hs hn).mono ?_; rintro e w' ⟨rfl, rfl⟩)
        go_ret
        refine ⟨rfl, HF.out _ D.tick ((D.left : Int) - 1) rfl ?_ ?_ (fun _ => hlf.out.symm) ⟨by omega, by omega⟩⟩
        · exact ((HT.out.set (.inl rfl) _).set (.inl rfl) _).set (.inl rfl) _
        · rw [hne.out]
          exact heap_setCell_same _ g 3 _ _ _ (heap_setCell_same _ g 2 _ _ _ (heap_setCell_same _ g 1 _ _ _ HBLK.out))

end Go.Proofs.Ytecgagfpckaieaa
