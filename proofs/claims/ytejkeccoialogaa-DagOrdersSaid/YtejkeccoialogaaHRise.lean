/-
  Package header's looks at a header: lists of rising numbers, which headers may be, and Check.
-/
import Derived.Test.YtejkeccoialogaaHOks
import Derived.Test.YtejkeccoialogaaHCopy
import Derived.Test.YtejkeccoialogaaEqs
import Derived.BigRegion
import Derived.Test.YtejkeccoialogaaCLists
namespace Go.Proofs.Ytejkeccoialogaa
open Go.RowKit

/-! ### rising numbers, on plain lists -/
/-- each above the one ahead of it, the first above m, none above most -/
def upB (m most : Int) : List Int → Bool
  | [] => true
  | x :: r => decide (m < x ∧ x ≤ most) && upB x most r
theorem upB_cons (m most x : Int) (r : List Int) : upB m most (x :: r) = (decide (m < x ∧ x ≤ most) && upB x most r) := rfl
theorem ris_head : ∀ {x : Int} {r : List Int}, risB (x :: r) = true → risB r = true ∧ ∀ y ∈ r, x < y
  | x, [], _ => ⟨rfl, fun y h => by simp at h⟩
  | x, z :: r, h => by
    rw [risB_cons, Bool.and_eq_true, decide_eq_true_eq] at h
    obtain ⟨h0, h1⟩ := h
    obtain ⟨_, h3⟩ := ris_head h1
    refine ⟨h1, fun y hy => ?_⟩
    rcases List.mem_cons.1 hy with rfl | hy
    · exact h0
    · have := h3 y hy; omega
theorem ris_of_head {x : Int} {r : List Int} (h : risB r = true) (h0 : ∀ y ∈ r, x < y) : risB (x :: r) = true := by
  cases r with
  | nil => rfl
  | cons z r => rw [risB_cons, Bool.and_eq_true, decide_eq_true_eq]; exact ⟨h0 z (by simp), h⟩
theorem upB_iff : ∀ {m most : Int} {l : List Int}, upB m most l = true ↔ (∀ x ∈ l, m < x ∧ x ≤ most) ∧ risB l = true
  | m, most, [] => ⟨fun _ => ⟨fun x h => by simp at h, rfl⟩, fun _ => rfl⟩
  | m, most, x :: r => by
    have ih := upB_iff (m := x) (most := most) (l := r)
    rw [upB_cons, Bool.and_eq_true, decide_eq_true_eq, ih]
    constructor
    · rintro ⟨⟨h0, h1⟩, h2, h3⟩
      refine ⟨fun y hy => ?_, ris_of_head h3 fun y hy => (h2 y hy).1⟩
      rcases List.mem_cons.1 hy with rfl | hy
      · exact ⟨h0, h1⟩
      · have := h2 y hy; omega
    · rintro ⟨h1, h2⟩
      obtain ⟨h3, h4⟩ := ris_head h2
      exact ⟨h1 x (by simp), fun y hy => ⟨h4 y hy, (h1 y (by simp [hy])).2⟩, h3⟩
theorem upB_ris {most : Int} {l : List Int} : upB 0 most l = (betB 1 most l && risB l) := by
  have h : upB 0 most l = true ↔ (betB 1 most l && risB l) = true := by
    rw [upB_iff, Bool.and_eq_true, betB_iff]
    exact ⟨fun ⟨a, b⟩ => ⟨fun x hx => by have := a x hx; omega, b⟩, fun ⟨a, b⟩ => ⟨fun x hx => by have := a x hx; omega, b⟩⟩
  cases h1 : upB 0 most l <;> cases h2 : (betB 1 most l && risB l) <;> simp_all
/-- what stands behind the last one is another list -/
theorem drop_at {l : List Int} {k : Nat} (h : k < l.length) : l.drop k = l[k]?.getD 0 :: l.drop (k + 1) := by
  rw [List.getElem?_eq_getElem h, Option.getD_some, ← List.drop_eq_getElem_cons h]

set_option maxHeartbeats 400000 in
theorem isRising_is (b : Bool) (A : Option Addr) (c n : Nat) (l : List Int) (most : Int) (w : World) (h : upB 0 most l = b) (hz : l.length = n) (hr : Rd w A (i64s l)) (hn : n ≤ 1073741824) :
    Calls Try.prog 100 #[.slice A n c, .int .i64 most] w fun e w' => e = .returned (.bool b) ∧ w = w' := by
  have HZ := Lib.hid hz
  have HU := Lib.hid h
  clear hz h
  go_enter Try.func100, Try.ntmps100
  go_wp2_with fail
  go_loop [5, 10] (fun v i => ∃ (k : Nat) (m : Int), i = .int .i64 k ∧ v = .int .i64 m ∧ k ≤ n ∧ Hid (upB m most (l.drop k) = b)) (fun _ i => n - (intOf i).toNat)
  case atStart => exact ⟨0, 0, rfl, rfl, by omega, by rw [List.drop_zero]; exact HU.out⟩
  case round =>
    obtain ⟨k, m, rfl, rfl, hk, HR⟩ := hrel
    by_cases hlt : k < n
    · obtain ⟨bl, off, rfl, hbl, hcell⟩ := hr.open_ (by rw [i64s_length, HZ.out]; omega)
      have hc1 := hcell k _ (i64s_at (by rw [HZ.out]; exact hlt))
      have hd := drop_at (l := l) (k := k) (by rw [HZ.out]; exact hlt)
      clear hcell
      obtain ⟨y, hy⟩ : ∃ y, y = l[k]?.getD 0 := ⟨_, rfl⟩
      rw [← hy] at hc1 hd
      have hu := HR.out
      rw [hd, upB_cons] at hu
      have HY := Lib.hid hu
      clear hy hd hu
      have i0 : (0 : Int) ≤ (k : Int) := by omega
      have i1 : (k : Int) < (n : Int) := by omega
      by_cases h1 : y ≤ m
      · have HB : Hid (b = false) := by
          show b = false
          rw [← HY.out, Bool.and_eq_false_iff]
          exact .inl (by simp; omega)
        go_wp2_with fail
        go_ret
        exact ⟨ret_bool HB.out.symm, rfl⟩
      · by_cases h2 : most < y
        · have HB : Hid (b = false) := by
            show b = false
            rw [← HY.out, Bool.and_eq_false_iff]
            exact .inl (by simp; omega)
          go_wp2_with fail
          go_ret
          exact ⟨ret_bool HB.out.symm, rfl⟩
        · have HN : Hid (upB y most (l.drop (k + 1)) = b) := by
            show upB y most (l.drop (k + 1)) = b
            have h3 := HY.out
            have h4 : decide (m < y ∧ y ≤ most) = true := by simp; omega
            rw [h4, Bool.true_and] at h3
            exact h3
          go_wp2_with fail
          go_round
          case rel => exact ⟨k + 1, y, by go_num, rfl, by omega, HN⟩
          case measure => simp [intOf]; omega
    · have HB : Hid (b = true) := by
        show b = true
        rw [← HR.out, List.drop_eq_nil_of_le (by rw [HZ.out]; omega)]
        rfl
      have i1 : ¬ ((k : Int) < (n : Int)) := by omega
      go_wp2_with fail
      go_ret
      exact ⟨ret_bool HB.out.symm, rfl⟩

/-! ### which headers may be -/
/-- one of n nodes', with so many parents -/
def isB (a r : Int) (B P : List Int) (n least : Int) : Bool :=
  decide ((1 ≤ a ∧ a ≤ n) ∧ (1 ≤ r ∧ r ≤ 1099511627776) ∧ ((B.length : Int) ≤ 8 ∧ upB 0 65536 B = true) ∧ (if r = 1 then P.length = 0 else least ≤ (P.length : Int) ∧ (P.length : Int) ≤ n ∧ upB 0 65536 P = true))
theorem dig_up {l : List Int} {most : Int} : digsB l most = true ↔ (l.length : Int) ≤ most ∧ upB 0 65536 l = true := by
  unfold digsB
  rw [Bool.and_eq_true, decide_eq_true_eq, upB_ris]
theorem dig_nil {l : List Int} {most : Int} (h : l.length = 0) (hm : 0 ≤ most) : digsB l most = true := by
  have : l = [] := List.eq_nil_of_length_eq_zero h
  subst this
  rw [dig_up]
  exact ⟨by simpa using hm, rfl⟩
theorem is_wide (a r : Int) (B P : List Int) : isB a r B P 16 0 = wideB a r B P := by
  unfold isB wideB
  rw [decide_eq_decide, dig_up]
  constructor
  · rintro ⟨h1, h2, h3, h4⟩
    by_cases hr : r = 1
    · rw [if_pos hr] at h4
      exact ⟨h1, h2, h3, dig_nil h4 (by omega), .inr h4⟩
    · rw [if_neg hr] at h4
      exact ⟨h1, h2, h3, dig_up.2 h4.2, .inl (by omega)⟩
  · rintro ⟨h1, h2, h3, h4, h5⟩
    refine ⟨h1, h2, h3, ?_⟩
    by_cases hr : r = 1
    · rw [if_pos hr]; rcases h5 with h5 | h5
      · omega
      · exact h5
    · rw [if_neg hr]
      exact ⟨by omega, (dig_up.1 h4).1, (dig_up.1 h4).2⟩
theorem is_hdr {a r : Int} {B P : List Int} {n : Int} (hm : mayB n = true) : isB a r B P n (quoN n) = hdrB a r B P n := by
  have hmm : 1 ≤ n ∧ n ≤ 16 ∧ n % 3 = 1 := by simpa only [mayB, decide_eq_true_eq] using hm
  unfold isB hdrB
  rw [decide_eq_decide, dig_up (l := B)]
  constructor
  · rintro ⟨h1, h2, h3, h4⟩
    by_cases hr : r = 1
    · rw [if_pos hr] at h4 ⊢
      exact ⟨hm, h1, h2, h3, dig_nil h4 (by omega), h4⟩
    · rw [if_neg hr] at h4 ⊢
      exact ⟨hm, h1, h2, h3, dig_up.2 h4.2, h4.1⟩
  · rintro ⟨_, h1, h2, h3, h4, h5⟩
    refine ⟨h1, h2, h3, ?_⟩
    by_cases hr : r = 1
    · rw [if_pos hr] at h5 ⊢; exact h5
    · rw [if_neg hr] at h5 ⊢
      exact ⟨h5, dig_up.1 h4⟩

set_option maxHeartbeats 2000000 in
theorem isHeader_of (b : Bool) (a r : Int) (AB : Option Addr) (cB nB : Nat) (B : List Int) (AP : Option Addr) (cP nP : Nat) (P : List Int) (n least : Int) (w : World) (h : isB a r B P n least = b) (hzB : B.length = nB) (hzP : P.length = nP) (hrB : Rd w AB (i64s B)) (hrP : Rd w AP (i64s P)) (hlB : nB ≤ 1073741824) (hlP : nP ≤ 1073741824) :
    Calls Try.prog 111 #[.agg #[.int .i64 a, .int .i64 r, .slice AB nB cB, .slice AP nP cP], .int .i64 n, .int .i64 least] w (Tells w.heap.size w (.bool b)) := by
  have hbel := (Below.refl w.heap.size w).alloc (Nat.le_refl _) (.cells #[.int .i64 a, .int .i64 r, .slice AB nB cB, .slice AP nP cP] 35)
  have hrB := hrB.alloc (.cells #[.int .i64 a, .int .i64 r, .slice AB nB cB, .slice AP nP cP] 35)
  have hrP := hrP.alloc (.cells #[.int .i64 a, .int .i64 r, .slice AB nB cB, .slice AP nP cP] 35)
  have HZB := Lib.hid hzB
  have HZP := Lib.hid hzP
  have HB : Hid (b = isB a r B P n least) := h.symm
  clear h hzB hzP
  by_cases h1 : a < 1
  · have HN : Hid (b = false) := HB.out.trans (by unfold isB; rw [decide_eq_false_iff_not]; omega)
    go_enter Try.func111, Try.ntmps111
    go_wp2_with fail
    go_ret
    exact ⟨ret_bool HN.out.symm, hbel⟩
  by_cases h2 : n < a
  · have HN : Hid (b = false) := HB.out.trans (by unfold isB; rw [decide_eq_false_iff_not]; omega)
    go_enter Try.func111, Try.ntmps111
    go_wp2_with fail
    go_ret
    exact ⟨ret_bool HN.out.symm, hbel⟩
  by_cases h3 : r < 1
  · have HN : Hid (b = false) := HB.out.trans (by unfold isB; rw [decide_eq_false_iff_not]; omega)
    go_enter Try.func111, Try.ntmps111
    go_wp2_with fail
    go_ret
    exact ⟨ret_bool HN.out.symm, hbel⟩
  by_cases h4 : 1099511627776 < r
  · have HN : Hid (b = false) := HB.out.trans (by unfold isB; rw [decide_eq_false_iff_not]; omega)
    go_enter Try.func111, Try.ntmps111
    go_wp2_with fail
    go_ret
    exact ⟨ret_bool HN.out.symm, hbel⟩
  by_cases h5 : 8 < (nB : Int)
  · have HN : Hid (b = false) := HB.out.trans (by unfold isB; rw [decide_eq_false_iff_not, HZB.out]; omega)
    go_enter Try.func111, Try.ntmps111
    go_wp2_with fail
    go_ret
    exact ⟨ret_bool HN.out.symm, hbel⟩
  cases hub : upB 0 65536 B with
  | false =>
    have HN : Hid (b = false) := HB.out.trans (by unfold isB; rw [decide_eq_false_iff_not, hub]; rintro ⟨_, _, ⟨_, h⟩, _⟩; cases h)
    have HUB := Lib.hid hub
    clear hub
    go_enter Try.func111, Try.ntmps111
    go_wp2_with fail
    refine (isRising_is false AB cB nB B _ _ HUB.out HZB.out hrB (by omega)).mono ?_
    rintro e w' ⟨rfl, rfl⟩
    go_wp2_with fail
    go_ret
    exact ⟨ret_bool HN.out.symm, hbel⟩
  | true =>
    have HUB := Lib.hid hub
    clear hub
    by_cases hr1 : r = 1
    · have HN : Hid (b = decide (nP = 0)) := HB.out.trans (by
        unfold isB
        rw [decide_eq_decide, if_pos hr1, HZB.out, HZP.out]
        exact ⟨fun h => h.2.2.2, fun h => ⟨by omega, by omega, ⟨by omega, HUB.out⟩, h⟩⟩)
      subst hr1
      by_cases hp : nP = 0
      · have hd : decide (nP = 0) = true := by simp [hp]
        rw [hd] at HN
        subst hp
        clear hd
        go_enter Try.func111, Try.ntmps111
        go_wp2_with fail
        refine (isRising_is true AB cB nB B _ _ HUB.out HZB.out hrB (by omega)).mono ?_
        rintro e w' ⟨rfl, rfl⟩
        go_wp2_with fail
        go_ret
        exact ⟨ret_bool HN.out.symm, hbel⟩
      · have hd : decide (nP = 0) = false := by simp [hp]
        rw [hd] at HN
        have j1 : ((nP : Int) == 0) = false := by simp; omega
        clear hd hp
        go_enter Try.func111, Try.ntmps111
        go_wp2_with fail
        refine (isRising_is true AB cB nB B _ _ HUB.out HZB.out hrB (by omega)).mono ?_
        rintro e w' ⟨rfl, rfl⟩
        go_wp2_with fail
        go_ret
        exact ⟨ret_bool HN.out.symm, hbel⟩
    · have HN : Hid (b = decide (least ≤ (nP : Int) ∧ (nP : Int) ≤ n ∧ upB 0 65536 P = true)) := HB.out.trans (by
        unfold isB
        rw [decide_eq_decide, if_neg hr1, HZB.out, HZP.out]
        exact ⟨fun h => h.2.2.2, fun h => ⟨by omega, by omega, ⟨by omega, HUB.out⟩, h⟩⟩)
      have j1 : (r == 1) = false := by simp [hr1]
      clear hr1
      by_cases h6 : least ≤ (nP : Int)
      · by_cases h7 : (nP : Int) ≤ n
        · have HNN : Hid (b = upB 0 65536 P) := HN.out.trans (by cases upB 0 65536 P <;> simp [h6, h7])
          go_enter Try.func111, Try.ntmps111
          go_wp2_with fail
          refine (isRising_is true AB cB nB B _ _ HUB.out HZB.out hrB (by omega)).mono ?_
          rintro e w' ⟨rfl, rfl⟩
          go_wp2_with fail
          refine (isRising_is b AP cP nP P _ _ HNN.out.symm HZP.out hrP (by omega)).mono ?_
          rintro e w' ⟨rfl, rfl⟩
          go_wp2_with fail
          go_ret
          exact ⟨rfl, hbel⟩
        · have HNN : Hid (b = false) := HN.out.trans (by simp [h7])
          go_enter Try.func111, Try.ntmps111
          go_wp2_with fail
          refine (isRising_is true AB cB nB B _ _ HUB.out HZB.out hrB (by omega)).mono ?_
          rintro e w' ⟨rfl, rfl⟩
          go_wp2_with fail
          go_ret
          exact ⟨ret_bool HNN.out.symm, hbel⟩
      · have HNN : Hid (b = false) := HN.out.trans (by simp [h6])
        go_enter Try.func111, Try.ntmps111
        go_wp2_with fail
        refine (isRising_is true AB cB nB B _ _ HUB.out HZB.out hrB (by omega)).mono ?_
        rintro e w' ⟨rfl, rfl⟩
        go_wp2_with fail
        go_ret
        exact ⟨ret_bool HNN.out.symm, hbel⟩

theorem isHeader_is (b : Bool) (a r : Int) (AB : Option Addr) (cB nB : Nat) (B : List Int) (AP : Option Addr) (cP nP : Nat) (P : List Int) (n least : Int) (w : World) (h : isB a r B P n least = b) (hi : HdrIn w AB cB nB B AP cP nP P) :
    Calls Try.prog 111 #[.agg #[.int .i64 a, .int .i64 r, .slice AB nB cB, .slice AP nP cP], .int .i64 n, .int .i64 least] w (Tells w.heap.size w (.bool b)) :=
  isHeader_of b a r AB cB nB B AP cP nP P n least w h hi.hB.hz hi.hP.hz hi.hB.hr hi.hP.hr (by have := hi.lB; omega) (by have := hi.lP; omega)

/-! ### Check -/
def okV (b : Bool) : Int := if b then 0 else 1
theorem may_mayB (n : Int) : may n = mayB n := by unfold may mayB; first | rfl | simp
theorem hcheck_in {a r : Int} {B P : List Int} {n : Int} (h : hdrB a r B P n = true) : mayB n = true := by
  obtain ⟨h1, _⟩ : mayB n = true ∧ _ := by simpa only [hdrB, decide_eq_true_eq] using h
  exact h1
set_option maxHeartbeats 1000000 in
theorem hcheck_is (b : Bool) (a r : Int) (AB : Option Addr) (cB nB : Nat) (B : List Int) (AP : Option Addr) (cP nP : Nat) (P : List Int) (n : Int) (w : World) (h : hdrB a r B P n = b) (hi : HdrIn w AB cB nB B AP cP nP P) :
    Calls Try.prog 99 #[.agg #[.int .i64 a, .int .i64 r, .slice AB nB cB, .slice AP nP cP], .int .i64 n] w (Tells w.heap.size w (.int .i64 (okV b))) := by
  obtain ⟨w1, hw1⟩ : ∃ w1, w1 = w.alloc (.cells #[.int .i64 a, .int .i64 r, .slice AB nB cB, .slice AP nP cP] 35) := ⟨_, rfl⟩
  have hb1 : Below w.heap.size w w1 := by rw [hw1]; exact (Below.refl _ _).alloc (Nat.le_refl _) _
  have hbox := hbox_new hw1
  have hi1 := hi.below hb1
  have HW := Lib.hid hw1
  have HBX := Lib.hid hbox
  clear hw1 hbox
  cases hm : mayB n with
  | false =>
    have HM : Hid (may n = false) := (may_mayB n).trans hm
    have HN : Hid (b = false) := by
      show b = false
      rw [← h]
      cases h5 : hdrB a r B P n with
      | false => rfl
      | true => rw [hcheck_in h5] at hm; cases hm
    clear hm h
    go_enter Try.func99, Try.ntmps99
    go_wp2_with fail
    rw [← HW.out]
    refine (quorum_no n HM.out _).mono ?_
    rintro e w' ⟨rfl, rfl⟩
    go_wp2_with fail
    go_ret
    exact ⟨by rw [HN.out]; rfl, hb1⟩
  | true =>
    have HM : Hid (may n = true) := (may_mayB n).trans hm
    have HI : Hid (isB a r B P n (2 * (n / 3) + 1) = b) := (is_hdr hm).trans h
    clear hm h
    go_enter Try.func99, Try.ntmps99
    go_wp2_with fail
    rw [← HW.out]
    refine (quorum_yes n HM.out _).mono ?_
    rintro e w' ⟨rfl, rfl⟩
    obtain ⟨c0, c1, c2, c3⟩ := HBX.out _ (Below.refl _ _)
    go_wp2_with fail
    refine (isHeader_is b a r AB cB nB B AP cP nP P n _ _ HI.out hi1).mono ?_
    rintro e w2 ⟨rfl, hb2⟩
    have hb3 := hb1.trans (hb2.mono hb1.size)
    clear c0 c1 c2 c3
    cases b with
    | true =>
      go_wp2_with fail
      go_ret
      exact ⟨rfl, hb3⟩
    | false =>
      go_wp2_with fail
      go_ret
      exact ⟨rfl, hb3⟩
theorem hcheck_yes (a r : Int) (AB : Option Addr) (cB nB : Nat) (B : List Int) (AP : Option Addr) (cP nP : Nat) (P : List Int) (n : Int) (w : World) (h : hdrB a r B P n = true) (hi : HdrIn w AB cB nB B AP cP nP P) :
    Calls Try.prog 99 #[.agg #[.int .i64 a, .int .i64 r, .slice AB nB cB, .slice AP nP cP], .int .i64 n] w (Tells w.heap.size w (.int .i64 0)) := hcheck_is true a r AB cB nB B AP cP nP P n w h hi
theorem hcheck_no (a r : Int) (AB : Option Addr) (cB nB : Nat) (B : List Int) (AP : Option Addr) (cP nP : Nat) (P : List Int) (n : Int) (w : World) (h : hdrB a r B P n = false) (hi : HdrIn w AB cB nB B AP cP nP P) :
    Calls Try.prog 99 #[.agg #[.int .i64 a, .int .i64 r, .slice AB nB cB, .slice AP nP cP], .int .i64 n] w (Tells w.heap.size w (.int .i64 1)) := hcheck_is false a r AB cB nB B AP cP nP P n w h hi

end Go.Proofs.Ytejkeccoialogaa
