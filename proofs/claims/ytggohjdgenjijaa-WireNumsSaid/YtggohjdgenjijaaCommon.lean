/-
  What the statements on package wire share: what weighs too much is let go; two texts wake them; the number of an error.
-/
import Derived.Test.YtggohjdgenjijaaAsk
import Derived.Test.YtggohjdgenjijaaRefTexts
namespace Go.Proofs.Ytggohjdgenjijaa
open Go.RowKit

/-- how many bytes the first j texts have -/
def totT (L : List ByteArray) (j : Nat) : Nat := ((L.take j).map ByteArray.size).sum
theorem totT_zero (L : List ByteArray) : totT L 0 = 0 := by simp [totT]
theorem totT_step {L : List ByteArray} {j : Nat} {s : ByteArray} (h : L[j]? = some s) : totT L (j + 1) = totT L j + s.size := by
  unfold totT; rw [take_up h]; simp
theorem totT_le (L : List ByteArray) (j : Nat) : totT L j ≤ totT L L.length := by
  have := congrArg (fun l => (l.map ByteArray.size).sum) (List.take_append_drop j L)
  simp only [List.map_append, List.sum_append] at this
  unfold totT
  rw [List.take_of_length_le (Nat.le_refl _)]
  omega

def Weighs (n : Nat) (L : List ByteArray) (w : World) (en : Ending) (w' : World) : Prop := ∃ S : Nat, en = .returned (.int .i64 S) ∧ w = w' ∧ (S ≤ 8000 → n + totT L n ≤ 8000)

set_option maxRecDepth 100000 in
set_option maxHeartbeats 400000 in
theorem weight_any (A : Option Addr) (c n : Nat) (L : List ByteArray) (w : World) (hz : L.length = n) (hr : Rd w A (strs L)) (hs : ∀ s ∈ L, s.size ≤ 140737488351232) (hc : n ≤ c) (hm : c ≤ maxLen) :
    Calls Try.prog 33 #[.slice A n c] w (Weighs n L w) := by
  unfold maxLen at hm
  have HZ := Lib.hid hz
  have HS := Lib.hid hs
  clear hz hs
  go_enter Try.func33, Try.ntmps33
  go_wp2_with fail
  go_loop [3, 4] (fun x i => ∃ j S : Nat, i = .int .i64 j ∧ x = .int .i64 S ∧ j ≤ n ∧ S ≤ 9223372036854775807 ∧ S = n + totT L j) (fun _ i => n - (intOf i).toNat)
  case atStart => exact ⟨0, n, rfl, rfl, by omega, by omega, by rw [totT_zero]; rfl⟩
  case round =>
    obtain ⟨j, S, rfl, rfl, hj, hS, hSe⟩ := hrel
    by_cases hlt : j < n
    · have i0 : (0 : Int) ≤ (j : Int) := by omega
      have i1 : (j : Int) < (n : Int) := by omega
      obtain ⟨b, off, rfl, hbl, hcell⟩ := hr.open_ (by rw [strs_length, HZ.out]; omega)
      have hc1 := hcell j _ (strs_at (by rw [HZ.out]; exact hlt))
      obtain ⟨s, hs⟩ : ∃ s, s = L[j]?.getD ByteArray.empty := ⟨_, rfl⟩
      rw [← hs] at hc1
      have hsome : L[j]? = some s := by rw [hs]; exact getD_some (by rw [HZ.out]; exact hlt)
      have hsz := HS.out s (by rw [hs]; exact getD_mem (by rw [HZ.out]; exact hlt))
      have hst := totT_step hsome
      have hle := totT_le L (j + 1)
      rw [HZ.out] at hle
      by_cases hlt20 : S < 1048576
      · have i2 : (S : Int) < 1048576 := by omega
        have hS2 : S + s.size = n + totT L (j + 1) := by omega
        have HS2 := Lib.hid hS2
        clear hcell hst hle hSe hs hsome hS2
        go_wp2_with fail
        go_round
        case rel => exact ⟨j + 1, _, by go_num, rfl, by omega, by omega, HS2.out⟩
        case measure => simp [intOf]; omega
      · have i2 : ¬ ((S : Int) < 1048576) := by omega
        clear hcell hst hle hSe hs hsome
        go_wp2_with fail
        go_ret
        exact ⟨S, rfl, rfl, fun h => absurd h (by omega)⟩
    · obtain rfl : j = n := by omega
      have i1 : ¬ ((j : Int) < (j : Int)) := by omega
      have HSe := Lib.hid hSe
      clear hSe
      go_wp2_with fail
      go_ret
      exact ⟨S, rfl, rfl, fun h => by have := HSe.out; omega⟩

/-- what is not let go weighs little -/
def Light (q : Asked) : Prop := q.L.length + totT q.L q.L.length ≤ 8000 ∧ q.B.length ≤ 8000 ∧ q.S.length ≤ 500
def Heavy (q : Asked) (w : World) (en : Ending) (w' : World) : Prop := ∃ b : Bool, en = .returned (.bool b) ∧ Below w.heap.size w w' ∧ (b = false → Light q)

set_option maxRecDepth 100000 in
set_option maxHeartbeats 400000 in
theorem heavy_any (q : Asked) (w : World) (ok : AskOk w q) :
    Calls Try.prog 9 #[.agg #[.int .i64 q.N, .slice q.AL q.L.length q.cL, .slice q.AN q.S.length q.cN, .slice q.AB q.B.length q.cB]] w (Heavy q w) := by
  obtain ⟨N, AL, cL, L, AN, cN, S, AB, cB, B⟩ := q
  obtain ⟨_, hL, mL, rL, sL, hN, mN, _, _, hB, mB, _, _⟩ := ok
  simp only at *
  have mN' := mN
  have mB' := mB
  have mL' := mL
  unfold maxLen at mN' mB' mL'
  have HSL := Lib.hid sL
  clear sL
  obtain ⟨nL, hnL⟩ : ∃ nL, L.length = nL := ⟨_, rfl⟩
  obtain ⟨nS, hnS⟩ : ∃ nS, S.length = nS := ⟨_, rfl⟩
  obtain ⟨nB, hnB⟩ : ∃ nB, B.length = nB := ⟨_, rfl⟩
  rw [hnL] at hL ⊢
  rw [hnS] at hN ⊢
  rw [hnB] at hB ⊢
  have HL := Lib.hid hnL
  have HS := Lib.hid hnS
  have HB := Lib.hid hnB
  clear hnL hnS hnB
  have hrl := rL.alloc (.cells #[.int .i64 N, .slice AL nL cL, .slice AN nS cN, .slice AB nB cB] 28)
  go_enter Try.func9, Try.ntmps9
  go_wp2_with fail
  refine (weight_any AL cL nL L _ HL.out hrl HSL.out hL mL).mono ?_
  rintro e w' ⟨T, rfl, rfl, hT⟩
  have HT := Lib.hid hT
  clear hT
  by_cases h1 : 8000 < T
  · have j1 : (8000 : Int) < (T : Int) := by omega
    go_wp2_with fail
    go_ret
    exact ⟨true, rfl, (Below.refl _ _).alloc (Nat.le_refl _) _, fun h => by cases h⟩
  · have j1 : ¬ ((8000 : Int) < (T : Int)) := by omega
    by_cases h2 : 8000 < nB
    · have j2 : (8000 : Int) < (nB : Int) := by omega
      go_wp2_with fail
      go_ret
      exact ⟨true, rfl, (Below.refl _ _).alloc (Nat.le_refl _) _, fun h => by cases h⟩
    · have j2 : ¬ ((8000 : Int) < (nB : Int)) := by omega
      by_cases h3 : 500 < nS
      · have j3 : (500 : Int) < (nS : Int) := by omega
        go_wp2_with fail
        go_ret
        exact ⟨true, rfl, (Below.refl _ _).alloc (Nat.le_refl _) _, fun h => by cases h⟩
      · have j3 : ¬ ((500 : Int) < (nS : Int)) := by omega
        go_wp2_with fail
        go_ret
        exact ⟨false, by simp; omega, (Below.refl _ _).alloc (Nat.le_refl _) _, fun _ => ⟨by have := HT.out (by omega); rw [HL.out]; exact this, by rw [HB.out]; omega, by rw [HS.out]; omega⟩⟩

set_option maxHeartbeats 400000 in
theorem num_any (n : Int) (w : World) :
    Calls Try.prog 11 #[.int .i64 n] w fun e w' => e = .returned (.int .i64 n) ∧ w = w' := by
  go_enter Try.func11, Try.ntmps11
  go_wp2
  go_ret
  exact ⟨rfl, rfl⟩

/-- the two texts' bytes -/
theorem two_texts : putPuts (([⟨#[97]⟩, ⟨#[]⟩] : List ByteArray).map byt) = [2, 1, 97, 0] := by
  rw [putPuts_byt]
  simp [vputs, byt, vnum_lt]

theorem rd_new (w : World) (cs : List Value) (t : TypeId) : Rd (w.alloc (.cells cs.toArray t)) (some ⟨w.heap.size, 0, none⟩) cs := fun _ =>
  ⟨w.heap.size, 0, rfl, by simp, fun i v hv => by rw [Nat.zero_add, World.cell?_alloc_at _ _ _ _ rfl]; simpa using hv⟩

set_option maxRecDepth 100000 in
set_option maxHeartbeats 400000 in
theorem wakes_any (w : World) :
    Calls Try.prog 17 #[] w fun e w' => e = .returned (.bool true) ∧ Below w.heap.size w w' := by
  have H2 := Lib.hid two_texts
  have hr1 : Rd (w.alloc (.cells #[.string ⟨#[97]⟩, .string ⟨#[]⟩] 9)) (some ⟨w.heap.size, 0, none⟩) (strs [⟨#[97]⟩, ⟨#[]⟩]) := rd_new w [.string ⟨#[97]⟩, .string ⟨#[]⟩] _
  go_enter Try.func17, Try.ntmps17
  go_wp2_with fail
  refine (put_yes _ _ 2 [⟨#[97]⟩, ⟨#[]⟩] _ rfl hr1 (by omega) (by rw [H2.out]; decide)).mono ?_
  rintro e w1 ⟨v, rfl, hown, hb⟩
  rw [H2.out] at hown
  obtain ⟨A, c, rfl, hc, hm, hr, _, hl⟩ := own_val hown
  clear hl
  have hr2 := hr.alloc (.cells #[.int .u8 2, .int .u8 1, .int .u8 97, .int .u8 0] 5)
  have hr3 : Rd (w1.alloc (.cells #[.int .u8 2, .int .u8 1, .int .u8 97, .int .u8 0] 5)) (some ⟨w1.heap.size, 0, none⟩) (u8s [2, 1, 97, 0]) := rd_new w1 [.int .u8 2, .int .u8 1, .int .u8 97, .int .u8 0] _
  rw [show (u8s [2, 1, 97, 0]).length = 4 from rfl] at *
  go_wp2_with fail
  refine (num_any _ _).mono ?_
  rintro e w' ⟨rfl, rfl⟩
  go_wp2_with fail
  refine (eqBytes_same A _ c _ 4 [2, 1, 97, 0] _ rfl hr2 hr3 (by omega)).mono ?_
  rintro e w' ⟨rfl, d, rfl⟩
  go_wp2_with fail
  go_ret
  exact ⟨rfl, below_n ((((Below.refl _ _).alloc (Nat.le_refl _) _).trans (hb.mono (by simp))).alloc (by have := hb.size; simp at this; omega) _) _⟩

end Go.Proofs.Ytggohjdgenjijaa
