/-
  Package batch's look at the strings of an encoding.
-/
import Derived.Test.YtafkcofocjellaaBNums
import Derived.Test.YtafkcofocjellaaGets
namespace Go.Proofs.Ytafkcofocjellaa
open Go.RowKit

/-- as many texts as some batch's, the tag ahead -/
def shapeB (T : List ByteArray) : Bool := decide (7 ≤ T.length ∧ T.length ≤ 35 ∧ T[0]? = some batchW ∧ T.length % 4 = 3)
theorem shape_yes {T : List ByteArray} (h : shapeB T = true) : ∃ (t0 t1 t2 : ByteArray) (R : List ByteArray) (j : Nat), T = t0 :: t1 :: t2 :: R ∧ t0 = batchW ∧ R.length = 4 * j ∧ 1 ≤ j ∧ j ≤ 8 := by
  simp only [shapeB, decide_eq_true_eq] at h
  obtain ⟨h7, h35, h0, h4⟩ := h
  match T, h7, h35, h0, h4 with
  | t0 :: t1 :: t2 :: R, h7, h35, h0, h4 =>
    simp at h7 h35 h0 h4
    exact ⟨t0, t1, t2, R, R.length / 4, rfl, h0, by omega, by omega, by omega⟩
theorem shape_no {T : List ByteArray} (h : shapeB T = false) : textsB T = none := by
  simp only [shapeB, decide_eq_false_iff_not] at h
  rcases Nat.lt_or_ge T.length 7 with h7 | h7
  · exact textsB_short h7
  · by_cases h4 : T.length % 4 = 3
    · match T, h, h7, h4 with
      | t0 :: t1 :: t2 :: R, h, h7, h4 =>
        rw [textsB_three, if_neg]
        rintro ⟨hw, g4, g5, _, _, _, hb⟩
        have hl := (bat_all hb).2.2.1.2
        have hr := rdT_length (R.length / 4) R (by omega)
        refine h ⟨h7, ?_, by rw [hw]; rfl, h4⟩
        simp only [List.length_cons]
        omega
    · exact textsB_odd h7 h4

set_option maxHeartbeats 1000000 in
theorem isShape_is (b : Bool) (A : Option Addr) (c n : Nat) (T : List ByteArray) (w : World) (h : shapeB T = b) (hz : T.length = n) (hr : Rd w A (strs T)) (hn : n ≤ 1048576) :
    Calls Try.prog 83 #[.slice A n c] w fun e w' => e = .returned (.bool b) ∧ w = w' := by
  subst h
  have HZ := Lib.hid hz
  by_cases h7 : n < 7
  · have HN : Hid (shapeB T = false) := by show shapeB T = false; simp [shapeB]; omega
    have g1 : (n : Int) < 7 := by omega
    rw [HN.out]
    clear hz h7
    go_enter Try.func83, Try.ntmps83
    go_wp2
    go_ret
    exact ⟨rfl, rfl⟩
  · have g1 : ¬ ((n : Int) < 7) := by omega
    by_cases h35 : 35 < n
    · have HN : Hid (shapeB T = false) := by show shapeB T = false; simp [shapeB]; omega
      have g2 : 35 < (n : Int) := by omega
      rw [HN.out]
      clear hz h7 h35
      go_enter Try.func83, Try.ntmps83
      go_wp2
      go_ret
      exact ⟨rfl, rfl⟩
    · have g2 : ¬ (35 < (n : Int)) := by omega
      obtain ⟨t0, R, rfl⟩ : ∃ t0 R, T = t0 :: R := by
        match T, hz with
        | t0 :: R, _ => exact ⟨t0, R, rfl⟩
        | [], hz => simp at hz; omega
      obtain ⟨bl, off, rfl, hbl, hcell⟩ := hr.open_ (by simp [strs])
      have q0 : w.cell? ⟨bl, off, none⟩ = some (.string t0) := hcell 0 _ rfl
      have hn0 : 0 < n := by omega
      have hn0' : (0 : Int) < (n : Int) := by omega
      clear hcell hr
      by_cases hw : t0 = batchW
      · have ht0 : (t0.toList == [98, 97, 116, 99, 104]) = true := by rw [hw, batchW_toList]; rfl
        have s1 : IntKind.i64.wrap ((n : Int) - 3) = ((n - 3 : Nat) : Int) := by rw [IntWalk.i64_in _ (by omega)]; omega
        by_cases h4 : n % 4 = 3
        · have HN : Hid (shapeB (t0 :: R) = true) := by show shapeB (t0 :: R) = true; have hz' := hz; simp only [List.length_cons] at hz'; simp [shapeB, hw]; omega
          have i4 : (((n - 3 : Nat) : Int) % 4 == 0) = true := by simp; omega
          rw [HN.out]
          clear hz h7 h35 hw h4
          go_enter Try.func83, Try.ntmps83
          go_wp2
          go_ret
          exact ⟨ret_bool (by simp), rfl⟩
        · have HN : Hid (shapeB (t0 :: R) = false) := by show shapeB (t0 :: R) = false; have hz' := hz; simp only [List.length_cons] at hz'; simp [shapeB, hw]; omega
          have i4 : (((n - 3 : Nat) : Int) % 4 == 0) = false := by simp; omega
          rw [HN.out]
          clear hz h7 h35 hw h4
          go_enter Try.func83, Try.ntmps83
          go_wp2
          go_ret
          exact ⟨ret_bool (by simp), rfl⟩
      · have ht0 : (t0.toList == [98, 97, 116, 99, 104]) = false := by
          have e1 : ([98, 97, 116, 99, 104] : List UInt8) = batchW.toList := batchW_toList.symm
          rw [e1, beq_eq_false_iff_ne]
          exact fun h => hw (str_toList.1 h)
        have HN : Hid (shapeB (t0 :: R) = false) := by show shapeB (t0 :: R) = false; simp [shapeB, hw]
        rw [HN.out]
        clear hz h7 h35 hw
        go_enter Try.func83, Try.ntmps83
        go_wp2
        go_ret
        exact ⟨ret_bool (by simp), rfl⟩

end Go.Proofs.Ytafkcofocjellaa
