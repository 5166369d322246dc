/-
  Is a message real, by a book? The page's own walk.
-/
import Derived.Test.YtcfnomnhameleaaMMay
import Derived.Test.YtcfnomnhameleaaZG
import Derived.Test.YtcfnomnhameleaaCLists
import Derived.Test.YtcfnomnhameleaaZD
import Derived.Test.YtcfnomnhameleaaHPage
import Derived.Test.YtcfnomnhameleaaZA
import Derived.Deep.RegionHeld3
namespace Go.Proofs.Ytcfnomnhameleaa
open Go.RowKit

/-! ### as plain data -/
def byB (S : List (Int × Int)) (l : List Int) (who d : Int) : Bool := decide (who ∈ l) || signedB S who d
def allBy (S : List (Int × Int)) (l : List Int) (d : Int) (c : List Int) : Bool := c.all fun who => byB S l who d
def betwB (l : List Int) (lo hi : Int) : Bool := l.all fun x => decide (lo ≤ x ∧ x ≤ hi)
/-- is a message that may be from whom it says? -/
def okR (L : List (List Int)) (S : List (Int × Int)) (l : List Int) (m : MsgD) : Bool :=
  if m.k = 1 ∨ m.k = 3 then decide (((findB L (batBytes m.ba m.bn m.L) : Nat) : Int) = m.d) && byB S l m.ba m.d
  else if m.k = 4 then decide (((findB L (headBytes m.ha m.hr m.hB m.hP) : Nat) : Int) = m.d) && byB S l m.f m.d
  else if m.k = 6 then decide (((findB L (headBytes m.ca m.cr m.cB m.cP) : Nat) : Int) = m.cd) && allBy S l m.cd m.cS
  else if m.k = 2 then decide (m.d ≤ (L.length : Int))
  else if m.k = 5 then decide (m.d ≤ (L.length : Int)) && byB S l m.f m.d
  else betwB m.D 1 (L.length : Int)
def realR (L : List (List Int)) (S : List (Int × Int)) (n : Int) (l : List Int) (m : MsgD) : Int := if messB m n = true then (if okR L S l m = true then 0 else 7) else 1

theorem rby_is {F : Nat → Prop} (b : Bool) (g : Nat) (L : List (List Int)) (S : List (Int × Int)) (A : Option Addr) (c n : Nat) (l : List Int) (who d : Int) (w : World) (h : IsRef w g F L S) (hb : byB S l who d = b) (hz : l.length = n) (hr : Rd w A (i64s l)) (hn : n ≤ 1073741824) (hS : S.length ≤ 1000) :
    Calls Try.prog 46 #[.pointer (some ⟨g, 0, none⟩), .int .i64 who, .int .i64 d, .slice A n c] w fun e w' => e = .returned (.bool b) ∧ w = w' := by
  have HZ := Lib.hid hz
  have HR := Lib.hid h
  by_cases hm : who ∈ l
  · have HB : Hid (b = true) := by show b = true; rw [← hb, byB, decide_eq_true hm, Bool.true_or]
    have HM := Lib.hid hm
    clear hm hb hz h
    go_enter Try.func46, Try.ntmps46
    go_wp2_with fail
    refine (in_yes A c n l who _ HM.out HZ.out hr hn).mono ?_
    rintro e w' ⟨k, hk, rfl, rfl⟩
    have i0 : (0 : Int) ≤ (k : Int) := by omega
    go_wp2_with fail
    go_ret
    exact ⟨ret_bool HB.out.symm, rfl⟩
  · have HB : Hid (signedB S who d = b) := by show _ = b; rw [← hb, byB, decide_eq_false hm, Bool.false_or]
    have HM := Lib.hid hm
    clear hm hb hz h
    go_enter Try.func46, Try.ntmps46
    go_wp2_with fail
    refine (in_no A c n l who _ HM.out HZ.out hr hn).mono ?_
    rintro e w' ⟨rfl, rfl⟩
    go_wp2_with fail
    refine (rsigned_any g L S who d _ HR.out hS).mono ?_
    rintro e w' ⟨rfl, rfl⟩
    go_wp2_with fail
    go_ret
    exact ⟨ret_bool HB.out, rfl⟩

theorem betw_next {l : List Int} {k : Nat} {lo hi : Int} (h : k < l.length) : betwB (l.drop k) lo hi = (decide (lo ≤ l[k]?.getD 0 ∧ l[k]?.getD 0 ≤ hi) && betwB (l.drop (k + 1)) lo hi) := by
  have e : l.drop k = l[k]?.getD 0 :: l.drop (k + 1) := by rw [List.getElem?_eq_getElem h, Option.getD_some, ← List.drop_eq_getElem_cons h]
  rw [e]
  simp [betwB]
set_option maxHeartbeats 1000000 in
theorem between_is (b : Bool) (A : Option Addr) (c n : Nat) (l : List Int) (lo hi : Int) (w : World) (hb : betwB l lo hi = b) (hz : l.length = n) (hr : Rd w A (i64s l)) (hn : n ≤ 1073741824) :
    Calls Try.prog 47 #[.slice A n c, .int .i64 lo, .int .i64 hi] w fun e w' => e = .returned (.bool b) ∧ w = w' := by
  have HZ := Lib.hid hz
  have HB := Lib.hid hb
  clear hz hb
  go_enter Try.func47, Try.ntmps47
  go_wp2_with fail
  go_loop [7] (fun i => ∃ k : Nat, i = .int .i64 k ∧ k ≤ n ∧ Hid (betwB (l.drop k) lo hi = b)) (fun i => n - (intOf i).toNat)
  case atStart => exact ⟨0, rfl, by omega, by rw [List.drop_zero]; exact HB.out⟩
  case round =>
    obtain ⟨k, rfl, hk, HR⟩ := hrel
    by_cases hlt : k < n
    · obtain ⟨bl, off, rfl, hbl, hcell⟩ := hr.open_ (by rw [i64s_length, HZ.out]; omega)
      have hc1 := hcell k _ (i64s_at (by rw [HZ.out]; exact hlt))
      have hu := betw_next (lo := lo) (hi := hi) (show k < l.length by rw [HZ.out]; exact hlt)
      rw [HR.out] at hu
      clear hcell
      obtain ⟨y, hy⟩ : ∃ y, y = l[k]?.getD 0 := ⟨_, rfl⟩
      rw [← hy] at hc1 hu
      have HY := Lib.hid hu
      clear hy hu
      have i0 : (0 : Int) ≤ (k : Int) := by omega
      have i1 : (k : Int) < (n : Int) := by omega
      by_cases h1 : y < lo
      · have HN : Hid (b = false) := by show b = false; rw [HY.out, decide_eq_false (by omega), Bool.false_and]
        go_wp2_with fail
        go_ret
        exact ⟨ret_bool HN.out.symm, rfl⟩
      by_cases h2 : hi < y
      · have HN : Hid (b = false) := by show b = false; rw [HY.out, decide_eq_false (by omega), Bool.false_and]
        go_wp2_with fail
        go_ret
        exact ⟨ret_bool HN.out.symm, rfl⟩
      have HN : Hid (betwB (l.drop (k + 1)) lo hi = b) := by
        show _ = b
        have h3 := HY.out
        rw [decide_eq_true (by omega), Bool.true_and] at h3
        exact h3.symm
      go_wp2_with fail
      go_round
      case rel => exact ⟨k + 1, by go_num, by omega, HN⟩
      case measure => simp [intOf]; omega
    · have HN : Hid (b = true) := by
        show b = true
        rw [← HR.out, List.drop_eq_nil_of_le (by rw [HZ.out]; omega)]
        rfl
      have i1 : ¬ ((k : Int) < (n : Int)) := by omega
      go_wp2_with fail
      go_ret
      exact ⟨ret_bool HN.out.symm, rfl⟩

end Go.Proofs.Ytcfnomnhameleaa
