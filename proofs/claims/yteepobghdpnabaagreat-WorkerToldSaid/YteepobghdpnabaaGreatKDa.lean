/-
 Headers and certificates on plain lists: which may be, a header's bytes, what bytes are read as, and that the two are inverse to each other. Of no program.
-/
import Derived.Test.YteepobghdpnabaaGreatKBe
namespace Go.Proofs.YteepobghdpnabaaGreat
open Go.RowKit

/-! ### which may be -/
def digsB (l : List Int) (most : Int) : Bool := decide ((l.length : Int) ≤ most) && (betB 1 65536 l && risB l)
def quoN (n : Int) : Int := 2 * (n / 3) + 1
def hdrB (a r : Int) (B P : List Int) (n : Int) : Bool := decide (mayB n = true ∧ (1 ≤ a ∧ a ≤ n) ∧ (1 ≤ r ∧ r ≤ 1099511627776) ∧ digsB B 8 = true ∧ digsB P n = true ∧ (if r = 1 then P.length = 0 else quoN n ≤ (P.length : Int)))
def certB (a r : Int) (B P : List Int) (d : Int) (S : List Int) (n : Int) : Bool := decide (hdrB a r B P n = true ∧ (1 ≤ d ∧ d ≤ 65536) ∧ risB S = true ∧ betB 1 n S = true ∧ quoN n ≤ (S.length : Int))

/-! ### numbers as one text -/
/-! ### a header as texts, and as bytes -/
section
variable {a r a' r' : Int} {B P B' P' : List Int}
end

end Go.Proofs.YteepobghdpnabaaGreat
namespace Go.Proofs.YteepobghdpnabaaGreat
open Go.RowKit

theorem faults_no (n : Int) (h : may n = false) (w : World) : Calls Tryz.prog 159 #[.int .i64 n] w fun e w' => e = .returned (.tuple #[.int .i64 0, .int .i64 1]) ∧ w = w' := by
 have HM := Lib.hid h
 clear h
 go_enter Tryz.func159, Tryz.ntmps159
 go_wp2_with (go_at_call 76; refine (check_no _ HM.out _).mono ?_; rintro e w' ⟨rfl, rfl⟩)
 go_ret2
 exact ⟨rfl, rfl⟩

theorem quorum_no (n : Int) (h : may n = false) (w : World) : Calls Tryz.prog 146 #[.int .i64 n] w fun e w' => e = .returned (.tuple #[.int .i64 0, .int .i64 1]) ∧ w = w' := by
 have HM := Lib.hid h
 clear h
 go_enter Tryz.func146, Tryz.ntmps146
 go_wp2_with (go_at_call 159; refine (faults_no _ HM.out _).mono ?_; rintro e w' ⟨rfl, rfl⟩)
 go_ret2
 exact ⟨rfl, rfl⟩
theorem rquorum_yes (n : Int) (h : may n = true) (w : World) : Calls Tryz.prog 119 #[.int .i64 n] w fun e w' => e = .returned (.int .i64 (2 * (n / 3) + 1)) ∧ w = w' := by
 obtain ⟨h1, h2, h3⟩ := may_yes h
 have i1 : 0 ≤ n / 3 := by omega
 have i2 : n / 3 ≤ 5 := by omega
 clear h h3
 go_enter Tryz.func119, Tryz.ntmps119
 go_wp2
 go_ret
 exact ⟨rfl, rfl⟩
end Go.Proofs.YteepobghdpnabaaGreat
namespace Go.Proofs.YteepobghdpnabaaGreat
open Go.RowKit

theorem rquo_is (n q : Int) (h : mayB n = true) (hq : quoN n = q) (w : World) : Calls Tryz.prog 119 #[.int .i64 n] w fun e w' => e = .returned (.int .i64 q) ∧ w = w' :=
 hq ▸ rquorum_yes n h w
theorem quiet_leftH {P : Program} {f : FuncId} {args : Array Value} {w : World} {n : Nat} {v : Value}
  (h : Calls P f args (w.drewN n) fun e w' => e = .returned v ∧ w.drewN n = w') : Calls P f args (w.drewN n) fun e w'' => e = .returned v ∧ ∃ m, w'' = w.drewN m :=
 h.mono fun _ _ ⟨he, hm⟩ => ⟨he, n, hm.symm⟩

set_option maxHeartbeats 400000 in
theorem rdigs_is (b : Bool) (A : Option Addr) (c n : Nat) (zs : List Int) (most : Int) (w : World) (hb : digsB zs most = b) (hz : zs.length = n) (hr : Rd w A (i64s zs)) (hn : n ≤ 1073741824) :
  Calls Tryz.prog 135 #[.slice A n c, .int .i64 most] w fun e w' => e = .returned (.bool b) ∧ ∃ d, w' = w.drewN d := by
 subst hb
 have HZ := Lib.hid hz
 by_cases h1 : (n : Int) ≤ most
 ·cases h2 : betB 1 65536 zs with
  | true =>
   have HD : Hid (digsB zs most = risB zs) := by show digsB zs most = risB zs; rw [digsB, hz, decide_eq_true h1, h2]; simp
   have H2 := Lib.hid h2
   clear h2 hz
   go_enter Tryz.func135, Tryz.ntmps135
   go_wp2_with fail
   refine (rdigests0_is true A c n zs _ H2.out HZ.out hr hn).mono ?_
   rintro e w' ⟨rfl, rfl⟩
   go_wp2_with fail
   refine (rrising_is (risB zs) A c n zs _ rfl HZ.out hr hn).mono ?_
   rintro e w' ⟨rfl, d, rfl⟩
   go_wp2_with fail
   go_ret
   exact ⟨ret_boolH (by rw [HD.out]), d, rfl⟩
  | false =>
   have HD : Hid (digsB zs most = false) := by show digsB zs most = false; rw [digsB, h2]; simp
   have H2 := Lib.hid h2
   clear h2 hz
   go_enter Tryz.func135, Tryz.ntmps135
   go_wp2_with fail
   refine (rdigests0_is false A c n zs _ H2.out HZ.out hr hn).mono ?_
   rintro e w' ⟨rfl, rfl⟩
   go_wp2_with fail
   go_ret
   exact ⟨ret_boolH (by rw [HD.out]), 0, rfl⟩
 ·have HD : Hid (digsB zs most = false) := by show digsB zs most = false; rw [digsB, hz, decide_eq_false h1]; simp
  clear hz
  go_enter Tryz.func135, Tryz.ntmps135
  go_wp2_with fail
  go_ret
  exact ⟨ret_boolH (by rw [HD.out]), 0, rfl⟩

set_option maxRecDepth 10000 in
set_option maxHeartbeats 4000000 in
theorem rhdr_is (b : Bool) (a r : Int) (AB : Option Addr) (cB nB : Nat) (B : List Int) (AP : Option Addr) (cP nP : Nat) (P : List Int) (n : Int) (w : World) (h : hdrB a r B P n = b) (hzB : B.length = nB) (hrB : Rd w AB (i64s B)) (hnB : nB ≤ 1073741824) (hzP : P.length = nP) (hrP : Rd w AP (i64s P)) (hnP : nP ≤ 1073741824) :
  Calls Tryz.prog 133 #[.agg #[.int .i64 a, .int .i64 r, .slice AB nB cB, .slice AP nP cP], .int .i64 n] w (Tells w.heap.size w (.bool b)) := by
 subst h
 have hbel := (Below.refl w.heap.size w).alloc (Nat.le_refl _) (.cells #[.int .i64 a, .int .i64 r, .slice AB nB cB, .slice AP nP cP] 44)
 have hrB1 := hrB.alloc (.cells #[.int .i64 a, .int .i64 r, .slice AB nB cB, .slice AP nP cP] 44)
 have hrP1 := hrP.alloc (.cells #[.int .i64 a, .int .i64 r, .slice AB nB cB, .slice AP nP cP] 44)
 have HZB := Lib.hid hzB
 have HZP := Lib.hid hzP
 cases hM : mayB n with
 | false =>
  have HV : Hid (hdrB a r B P n = false) := by show hdrB a r B P n = false; unfold hdrB; simp only [decide_eq_false_iff_not]; rintro ⟨q0, ⟨q1, q2⟩, ⟨q3, q4⟩, q5, q6, q7⟩; rw [hM] at q0; cases q0
  have HM := Lib.hid hM
  clear hM hzB hzP
  go_enter Tryz.func133, Tryz.ntmps133
  go_wp2_with fail
  refine (rmay_is false n HM.out _).mono ?_
  rintro e w' ⟨rfl, rfl⟩
  go_wp2_with fail
  go_ret
  exact ⟨ret_boolH (by rw [HV.out]; first | done | rfl | simp), hbel⟩
 | true =>
  by_cases g1 : a < 1
  ·have HV : Hid (hdrB a r B P n = false) := by show hdrB a r B P n = false; unfold hdrB; simp only [decide_eq_false_iff_not]; rintro ⟨q0, ⟨q1, q2⟩, ⟨q3, q4⟩, q5, q6, q7⟩; omega
   have HM := Lib.hid hM
   clear hM hzB hzP
   go_enter Tryz.func133, Tryz.ntmps133
   go_wp2_with fail
   refine (rmay_is true n HM.out _).mono ?_
   rintro e w' ⟨rfl, rfl⟩
   go_wp2_with fail
   go_ret
   exact ⟨ret_boolH (by rw [HV.out]; first | done | rfl | simp), hbel⟩
  by_cases g2 : n < a
  ·have HV : Hid (hdrB a r B P n = false) := by show hdrB a r B P n = false; unfold hdrB; simp only [decide_eq_false_iff_not]; rintro ⟨q0, ⟨q1, q2⟩, ⟨q3, q4⟩, q5, q6, q7⟩; omega
   have HM := Lib.hid hM
   clear hM hzB hzP
   go_enter Tryz.func133, Tryz.ntmps133
   go_wp2_with fail
   refine (rmay_is true n HM.out _).mono ?_
   rintro e w' ⟨rfl, rfl⟩
   go_wp2_with fail
   go_ret
   exact ⟨ret_boolH (by rw [HV.out]; first | done | rfl | simp), hbel⟩
  by_cases g3 : r < 1
  ·have HV : Hid (hdrB a r B P n = false) := by show hdrB a r B P n = false; unfold hdrB; simp only [decide_eq_false_iff_not]; rintro ⟨q0, ⟨q1, q2⟩, ⟨q3, q4⟩, q5, q6, q7⟩; omega
   have HM := Lib.hid hM
   clear hM hzB hzP
   go_enter Tryz.func133, Tryz.ntmps133
   go_wp2_with fail
   refine (rmay_is true n HM.out _).mono ?_
   rintro e w' ⟨rfl, rfl⟩
   go_wp2_with fail
   go_ret
   exact ⟨ret_boolH (by rw [HV.out]; first | done | rfl | simp), hbel⟩
  by_cases g4 : 1099511627776 < r
  ·have HV : Hid (hdrB a r B P n = false) := by show hdrB a r B P n = false; unfold hdrB; simp only [decide_eq_false_iff_not]; rintro ⟨q0, ⟨q1, q2⟩, ⟨q3, q4⟩, q5, q6, q7⟩; omega
   have HM := Lib.hid hM
   clear hM hzB hzP
   go_enter Tryz.func133, Tryz.ntmps133
   go_wp2_with fail
   refine (rmay_is true n HM.out _).mono ?_
   rintro e w' ⟨rfl, rfl⟩
   go_wp2_with fail
   go_ret
   exact ⟨ret_boolH (by rw [HV.out]; first | done | rfl | simp), hbel⟩
  cases hB : digsB B 8 with
  | false =>
   have HV : Hid (hdrB a r B P n = false) := by show hdrB a r B P n = false; unfold hdrB; simp only [decide_eq_false_iff_not]; rintro ⟨q0, ⟨q1, q2⟩, ⟨q3, q4⟩, q5, q6, q7⟩; rw [hB] at q5; cases q5
   have HM := Lib.hid hM
   have HB := Lib.hid hB
   clear hB hM hzB hzP
   go_enter Tryz.func133, Tryz.ntmps133
   go_wp2_with fail
   refine (rmay_is true n HM.out _).mono ?_
   rintro e w' ⟨rfl, rfl⟩
   go_wp2_with fail
   refine (rdigs_is false AB cB nB B 8 _ HB.out HZB.out hrB1 hnB).mono ?_
   rintro e wB ⟨rfl, dB, rfl⟩
   go_wp2_with fail
   go_ret
   exact ⟨ret_boolH (by rw [HV.out]; first | done | rfl | simp), below_n hbel _⟩
  | true =>
   cases hP : digsB P n with
   | false =>
    have HV : Hid (hdrB a r B P n = false) := by show hdrB a r B P n = false; unfold hdrB; simp only [decide_eq_false_iff_not]; rintro ⟨q0, ⟨q1, q2⟩, ⟨q3, q4⟩, q5, q6, q7⟩; rw [hP] at q6; cases q6
    have HM := Lib.hid hM
    have HB := Lib.hid hB
    have HP := Lib.hid hP
    clear hB hP hM hzB hzP
    go_enter Tryz.func133, Tryz.ntmps133
    go_wp2_with fail
    refine (rmay_is true n HM.out _).mono ?_
    rintro e w' ⟨rfl, rfl⟩
    go_wp2_with fail
    refine (rdigs_is true AB cB nB B 8 _ HB.out HZB.out hrB1 hnB).mono ?_
    rintro e wB ⟨rfl, dB, rfl⟩
    go_wp2_with fail
    refine (rdigs_is false AP cP nP P n _ HP.out HZP.out ((hrP1).drewN _) hnP).mono ?_
    rintro e wP ⟨rfl, dP, rfl⟩
    go_wp2_with fail
    go_ret
    exact ⟨ret_boolH (by rw [HV.out]; first | done | rfl | simp), (by first | exact below_n hbel _ | exact below_n (below_n hbel _) _)⟩
   | true =>
    by_cases g5 : r = 1
    ·have g6 : (r == 1) = true := by simp [g5]
     by_cases g7 : nP = 0
     ·have HV : Hid (hdrB a r B P n = true) := by show hdrB a r B P n = true; unfold hdrB; simp only [decide_eq_true_eq]; exact ⟨hM, ⟨by omega, by omega⟩, ⟨by omega, by omega⟩, hB, hP, by rw [if_pos g5, hzP]; exact g7⟩
      have HM := Lib.hid hM
      have HB := Lib.hid hB
      have HP := Lib.hid hP
      have g8 : ((nP : Int) == 0) = true := by simp [g7]
      clear hB hP hM hzB hzP g5 g7
      go_enter Tryz.func133, Tryz.ntmps133
      go_wp2_with fail
      refine (rmay_is true n HM.out _).mono ?_
      rintro e w' ⟨rfl, rfl⟩
      go_wp2_with fail
      refine (rdigs_is true AB cB nB B 8 _ HB.out HZB.out hrB1 hnB).mono ?_
      rintro e wB ⟨rfl, dB, rfl⟩
      go_wp2_with fail
      refine (rdigs_is true AP cP nP P n _ HP.out HZP.out ((hrP1).drewN _) hnP).mono ?_
      rintro e wP ⟨rfl, dP, rfl⟩
      go_wp2_with fail
      go_ret
      exact ⟨ret_boolH (by rw [HV.out]; first | done | rfl | simp only [g8] | (simp only [g8]; rfl)), (by first | exact below_n hbel _ | exact below_n (below_n hbel _) _)⟩
     ·have HV : Hid (hdrB a r B P n = false) := by show hdrB a r B P n = false; unfold hdrB; simp only [decide_eq_false_iff_not]; rintro ⟨q0, ⟨q1, q2⟩, ⟨q3, q4⟩, q5, q6, q7⟩; rw [if_pos g5, hzP] at q7; exact g7 q7
      have HM := Lib.hid hM
      have HB := Lib.hid hB
      have HP := Lib.hid hP
      have g8 : ((nP : Int) == 0) = false := by simp; omega
      clear hB hP hM hzB hzP g5 g7
      go_enter Tryz.func133, Tryz.ntmps133
      go_wp2_with fail
      refine (rmay_is true n HM.out _).mono ?_
      rintro e w' ⟨rfl, rfl⟩
      go_wp2_with fail
      refine (rdigs_is true AB cB nB B 8 _ HB.out HZB.out hrB1 hnB).mono ?_
      rintro e wB ⟨rfl, dB, rfl⟩
      go_wp2_with fail
      refine (rdigs_is true AP cP nP P n _ HP.out HZP.out ((hrP1).drewN _) hnP).mono ?_
      rintro e wP ⟨rfl, dP, rfl⟩
      go_wp2_with fail
      go_ret
      exact ⟨ret_boolH (by rw [HV.out]; first | done | rfl | simp only [g8] | (simp only [g8]; rfl)), (by first | exact below_n hbel _ | exact below_n (below_n hbel _) _)⟩
    ·have g6 : (r == 1) = false := by simp [g5]
     obtain ⟨q, hq⟩ : ∃ q, quoN n = q := ⟨_, rfl⟩
     have HQ := Lib.hid hq
     by_cases g7 : q ≤ (nP : Int)
     ·have HV : Hid (hdrB a r B P n = true) := by show hdrB a r B P n = true; unfold hdrB; simp only [decide_eq_true_eq]; exact ⟨hM, ⟨by omega, by omega⟩, ⟨by omega, by omega⟩, hB, hP, by rw [if_neg g5, hzP, hq]; exact g7⟩
      have HM := Lib.hid hM
      have HB := Lib.hid hB
      have HP := Lib.hid hP
      clear hB hP hM hzB hzP g5 hq
      go_enter Tryz.func133, Tryz.ntmps133
      go_wp2_with fail
      refine (rmay_is true n HM.out _).mono ?_
      rintro e w' ⟨rfl, rfl⟩
      go_wp2_with fail
      refine (rdigs_is true AB cB nB B 8 _ HB.out HZB.out hrB1 hnB).mono ?_
      rintro e wB ⟨rfl, dB, rfl⟩
      go_wp2_with fail
      refine (rdigs_is true AP cP nP P n _ HP.out HZP.out ((hrP1).drewN _) hnP).mono ?_
      rintro e wP ⟨rfl, dP, rfl⟩
      obtain ⟨wD, hwD⟩ : ∃ wD, wD = ((w.alloc (.cells #[.int .i64 a, .int .i64 r, .slice AB nB cB, .slice AP nP cP] 44)).drewN dB).drewN dP := ⟨_, rfl⟩
      have hbD : Below w.heap.size w wD := by rw [hwD]; exact below_n (below_n hbel _) _
      have k1 : wD.cell? ⟨w.heap.size, 1, none⟩ = some (.int .i64 r) := by rw [hwD]; show (w.alloc (.cells #[.int .i64 a, .int .i64 r, .slice AB nB cB, .slice AP nP cP] 44)).cell? _ = _; rw [World.cell?_alloc_at _ _ _ _ rfl]; rfl
      have k3 : wD.cell? ⟨w.heap.size, 3, none⟩ = some (.slice AP nP cP) := by rw [hwD]; show (w.alloc (.cells #[.int .i64 a, .int .i64 r, .slice AB nB cB, .slice AP nP cP] 44)).cell? _ = _; rw [World.cell?_alloc_at _ _ _ _ rfl]; rfl
      rw [← hwD]
      clear hwD
      go_wp2_with fail
      go_quiet ((go_at_call 119; exact quiet_leftH (rquo_is n q HM.out HQ.out _)))
      go_wp2_with fail
      go_ret
      exact ⟨ret_boolH (by rw [HV.out]; first | done | rfl | simp [g7]), (by first | exact below_n hbD _ | exact hbD)⟩
     ·have HV : Hid (hdrB a r B P n = false) := by show hdrB a r B P n = false; unfold hdrB; simp only [decide_eq_false_iff_not]; rintro ⟨q0, ⟨q1, q2⟩, ⟨q3, q4⟩, q5, q6, q7⟩; rw [if_neg g5, hzP, hq] at q7; exact g7 q7
      have HM := Lib.hid hM
      have HB := Lib.hid hB
      have HP := Lib.hid hP
      clear hB hP hM hzB hzP g5 hq
      go_enter Tryz.func133, Tryz.ntmps133
      go_wp2_with fail
      refine (rmay_is true n HM.out _).mono ?_
      rintro e w' ⟨rfl, rfl⟩
      go_wp2_with fail
      refine (rdigs_is true AB cB nB B 8 _ HB.out HZB.out hrB1 hnB).mono ?_
      rintro e wB ⟨rfl, dB, rfl⟩
      go_wp2_with fail
      refine (rdigs_is true AP cP nP P n _ HP.out HZP.out ((hrP1).drewN _) hnP).mono ?_
      rintro e wP ⟨rfl, dP, rfl⟩
      obtain ⟨wD, hwD⟩ : ∃ wD, wD = ((w.alloc (.cells #[.int .i64 a, .int .i64 r, .slice AB nB cB, .slice AP nP cP] 44)).drewN dB).drewN dP := ⟨_, rfl⟩
      have hbD : Below w.heap.size w wD := by rw [hwD]; exact below_n (below_n hbel _) _
      have k1 : wD.cell? ⟨w.heap.size, 1, none⟩ = some (.int .i64 r) := by rw [hwD]; show (w.alloc (.cells #[.int .i64 a, .int .i64 r, .slice AB nB cB, .slice AP nP cP] 44)).cell? _ = _; rw [World.cell?_alloc_at _ _ _ _ rfl]; rfl
      have k3 : wD.cell? ⟨w.heap.size, 3, none⟩ = some (.slice AP nP cP) := by rw [hwD]; show (w.alloc (.cells #[.int .i64 a, .int .i64 r, .slice AB nB cB, .slice AP nP cP] 44)).cell? _ = _; rw [World.cell?_alloc_at _ _ _ _ rfl]; rfl
      rw [← hwD]
      clear hwD
      go_wp2_with fail
      go_quiet ((go_at_call 119; exact quiet_leftH (rquo_is n q HM.out HQ.out _)))
      go_wp2_with fail
      go_ret
      exact ⟨ret_boolH (by rw [HV.out]; first | done | rfl | simp [g7]), (by first | exact below_n hbD _ | exact hbD)⟩

end Go.Proofs.YteepobghdpnabaaGreat
namespace Go.Proofs.YteepobghdpnabaaGreat
open Go.RowKit

def HBox (w : World) (g : Nat) (a r : Int) (vB vP : Value) : Prop :=
 w.cell? ⟨g, 0, none⟩ = some (.int .i64 a) ∧ w.cell? ⟨g, 1, none⟩ = some (.int .i64 r) ∧ w.cell? ⟨g, 2, none⟩ = some vB ∧ w.cell? ⟨g, 3, none⟩ = some vP
theorem hbox_new {w w1 : World} {a r : Int} {vB vP : Value} (h : w1 = w.alloc (.cells #[.int .i64 a, .int .i64 r, vB, vP] 44)) : ∀ wX, Below w1.heap.size w1 wX → HBox wX w.heap.size a r vB vP := by
 subst h
 intro wX hb
 have hs : w.heap.size < (w.alloc (.cells #[.int .i64 a, .int .i64 r, vB, vP] 44)).heap.size := by simp
 refine ⟨(hb.cell (p := ⟨w.heap.size, 0, none⟩) hs).trans ?_, (hb.cell (p := ⟨w.heap.size, 1, none⟩) hs).trans ?_, (hb.cell (p := ⟨w.heap.size, 2, none⟩) hs).trans ?_, (hb.cell (p := ⟨w.heap.size, 3, none⟩) hs).trans ?_⟩
 all_goals
  rw [World.cell?_alloc_at _ _ _ _ rfl]
  rfl

end Go.Proofs.YteepobghdpnabaaGreat
namespace Go.Proofs.YteepobghdpnabaaGreat
open Go.RowKit

/-! ### which may be -/
def idsB (m : MsgD) (n : Int) : Bool := decide (mayB n = true ∧ (1 ≤ m.f ∧ m.f ≤ n) ∧ (1 ≤ m.t ∧ m.t ≤ n) ∧ m.f ≠ m.t)
def formB (m : MsgD) (n : Int) : Bool :=
 if m.k = 1 ∨ m.k = 3 then digB m.d && (batB m.ba m.bn m.L && decide (m.ba ≤ n))
 else if m.k = 2 ∨ m.k = 5 then digB m.d
 else if m.k = 4 then digB m.d && (hdrB m.ha m.hr m.hB m.hP n && decide (m.ha = m.f))
 else if m.k = 6 then certB m.ca m.cr m.cB m.cP m.cd m.cS n
 else if m.k = 7 ∨ m.k = 8 then decide (1 ≤ m.D.length) && digsB m.D 16
 else false
def onlyM (m : MsgD) : MsgD :=
 if m.k = 1 ∨ m.k = 3 then { zeroM with k := m.k, f := m.f, t := m.t, d := m.d, ba := m.ba, bn := m.bn, L := m.L }
 else if m.k = 2 ∨ m.k = 5 then { zeroM with k := m.k, f := m.f, t := m.t, d := m.d }
 else if m.k = 4 then { zeroM with k := m.k, f := m.f, t := m.t, d := m.d, ha := m.ha, hr := m.hr, hB := m.hB, hP := m.hP }
 else if m.k = 6 then { zeroM with k := m.k, f := m.f, t := m.t, ca := m.ca, cr := m.cr, cB := m.cB, cP := m.cP, cd := m.cd, cS := m.cS }
 else if m.k = 7 ∨ m.k = 8 then { zeroM with k := m.k, f := m.f, t := m.t, D := m.D }
 else { zeroM with k := m.k, f := m.f, t := m.t }
def messB (m : MsgD) (n : Int) : Bool := idsB m n && (formB m n && decide (onlyM m = m))

/-! ### comparisons, part by part -/
/-! ### a message's block -/
end Go.Proofs.YteepobghdpnabaaGreat
namespace Go.Proofs.YteepobghdpnabaaGreat
open Go.RowKit

/-! ### where a number stands in a rising list -/
/-! ### a worker that may be -/
/-! ### what is done -/
def takeE (P : WkD) (m : MsgD) : Int := if messB m P.N = true ∧ m.t = P.i then (if m.k = 1 ∨ m.k = 2 ∨ m.k = 3 ∨ m.k = 7 then 0 else 10) else 1
def giveW (P : WkD) (D : List Int) (f : Int) : List OtD := D.flatMap fun d => match lookH P.H d with
 | some x => [⟨3, P.i, f, d, x.a, x.n, x.L⟩]
 | none => []
def takeO (P : WkD) (m : MsgD) : List OtD :=
 if m.k = 1 then (if m.d ∈ (holdW P m.d m.ba m.bn m.L).hs then [⟨2, P.i, m.f, m.d, 0, 0, []⟩] else [])
 else if m.k = 7 then giveW P m.D m.f else []
end Go.Proofs.YteepobghdpnabaaGreat
namespace Go.Proofs.YteepobghdpnabaaGreat
open Go.RowKit

section
variable {P : Program} {w : World}
theorem wp_load_box {op : Oper} {a : Act} {K : Act → World → Prop} {Q : Exit → Act → World → Prop} (ty : TypeId) (x : Operand) (ho : op.op = .load ty x)
  (g : Nat) (hx : a.eval x = .pointer (some ⟨g, 0, none⟩)) (cs : List Value) (hb : Box w g cs) (d : TypeDesc) (hu : P.underlying ty = some d) (hd : d.isRow = true) (hi : (P.info? ty).map (·.size) = some cs.length)
  (h : K (a.put op.dst (.agg cs.toArray)) w) : op.wp P a w K Q :=
 wp_load_mid ty x ho g 0 hx cs d (fun j v hv => by rw [Nat.zero_add]; exact (hb.2 j v hv).1) hu hd hi h
theorem wpList_load_boxG {ops : Array Oper} {rest : List Oper} {op : Oper} {a : Act} {Q : Exit → Act → World → Prop} (ty : TypeId) (x : Operand) (ho : op.op = .load ty x)
  (g : Nat) (hx : a.eval x = .pointer (some ⟨g, 0, none⟩)) (hw : Region.wanted op (yielded ops a.tmps) = true) (cs : List Value) (hb : Box w g cs) (d : TypeDesc) (hu : P.underlying ty = some d) (hd : d.isRow = true) (hi : (P.info? ty).map (·.size) = some cs.length)
  (h : wpList P ops Q rest (a.put op.dst (.agg cs.toArray)) w) : wpList P ops Q (op :: rest) a w := by
 rw [wpList, if_pos hw]
 exact .inl (wp_load_box ty x ho g hx cs hb d hu hd hi h)
theorem box_set_one {g j : Nat} {u : Value} {vs us : List Value} (hb : Box w g vs) (hj : j < vs.length) (hus : us = vs.set j u) : Box (w.setCell ⟨g, j, none⟩ u) g us := by rw [hus]; exact hb.set hj
end

end Go.Proofs.YteepobghdpnabaaGreat
namespace Go.Proofs.YteepobghdpnabaaGreat
open Go.RowKit

/-! ### comparisons -/
/-! ### copies -/
set_option maxHeartbeats 4000000 in
theorem rcopyHdr_any (a r : Int) (AB : Option Addr) (cB nB : Nat) (B : List Int) (AP : Option Addr) (cP nP : Nat) (P : List Int) (w : World) (hzB : B.length = nB) (hrB : Rd w AB (i64s B)) (hnB : nB ≤ 1073741824) (hzP : P.length = nP) (hrP : Rd w AP (i64s P)) (hnP : nP ≤ 1073741824) (hcB : nB ≤ cB) (hcP : nP ≤ cP) :
  Calls Tryz.prog 99 #[.agg #[.int .i64 a, .int .i64 r, .slice AB nB cB, .slice AP nP cP]] w fun e w' => ∃ AB' cB' AP' cP', e = .returned (.agg #[.int .i64 a, .int .i64 r, .slice AB' nB cB', .slice AP' nP cP']) ∧
   w'.ownsRow w.heap.size 3 1 (.slice AB' nB cB') nB (i64s B) ∧ w'.ownsRow w.heap.size 3 1 (.slice AP' nP cP') nP (i64s P) ∧ Below w.heap.size w w' := by
 have HZB := Lib.hid hzB
 have HZP := Lib.hid hzP
 clear hzB hzP
 go_enter Tryz.func99, Tryz.ntmps99
 go_wp2_with fail
 refine (copyNumbers_any AB cB nB B _ HZB.out (((hrB.alloc _).alloc _).alloc _) hcB hnB).mono ?_
 rintro e w1 ⟨v, rfl, ho, hb⟩
 have hob := own_cast ho ((i64s_length _).trans HZB.out)
 obtain ⟨AB', cB', rfl, _, _, _, _, _⟩ := own_val hob
 obtain ⟨hcc, hff⟩ := bcellH hb
 have hz : w.heap.size + 1 + 1 < w1.heap.size := by have := hb.size; simp at this; omega
 have hz1 : w.heap.size + 1 < w1.heap.size := by omega
 have hz0 : w.heap.size < w1.heap.size := by omega
 have hb3 : Below w.heap.size w w1 := ((((Below.refl _ _).alloc (Nat.le_refl _) _).alloc (by simp) _).alloc (by simp; omega) _).trans (hb.mono (by simp; omega))
 have hb4 : Below w.heap.size w (w1.setCell ⟨w.heap.size + 1 + 1, 2, none⟩ (.slice AB' nB cB')) := hb3.setCell (by show w.heap.size ≤ w.heap.size + 1 + 1; omega) _
 go_wp2_with fail
 refine (copyNumbers_any AP cP nP P _ HZP.out (hrP.below hb4) hcP hnP).mono ?_
 rintro e w5 ⟨v5, rfl, ho5, hb5⟩
 have hop := own_cast ho5 ((i64s_length _).trans HZP.out)
 obtain ⟨AP', cP', rfl, _, _, _, _, _⟩ := own_val hop
 obtain ⟨hcc5, hff5⟩ := bcellH hb5
 have hz5 : w.heap.size + 1 + 1 < w5.heap.size := by have := hb5.size; simp at this; omega
 go_wp2_with fail
 refine bodyPost_ret (v := .agg #[.int .i64 a, .int .i64 r, .slice AB' nB cB', .slice AP' nP cP']) (by simp [results, Tryz.results99, go_sem, hcc, hcc5, hz1]) rfl ⟨AB', cB', AP', cP', rfl, ?_, ?_, ?_⟩
 ·have h1 := own_below (ownsRow_setCell_below hob (by simp) (.slice AB' nB cB')) hb5
  exact ownS_more (ownsRow_setCell_below (ownsRow_setCell_below (ownsRow_setCell_below (ownsRow_setCell_below (ownsRow_setCell_below h1 (by simp) _) (by simp) _) (by simp) _) (by simp) _) (by simp) _) (by simp; omega)
 ·exact ownS_more (ownsRow_setCell_below (ownsRow_setCell_below (ownsRow_setCell_below (ownsRow_setCell_below (ownsRow_setCell_below hop (by simp; omega) _) (by simp; omega) _) (by simp; omega) _) (by simp; omega) _) (by simp; omega) _) hb4.size
 ·have hb6 := hb4.trans (hb5.mono hb4.size)
  exact ((((hb6.setCell (by show w.heap.size ≤ w.heap.size + 1 + 1; omega) _).setCell (by simp) _).setCell (by simp) _).setCell (by simp) _).setCell (by simp) _

set_option maxHeartbeats 4000000 in
theorem rcopyCert_any (a r : Int) (AB : Option Addr) (cB nB : Nat) (B : List Int) (AP : Option Addr) (cP nP : Nat) (P : List Int) (d : Int) (AS : Option Addr) (cS nS : Nat) (S : List Int) (w : World) (hzB : B.length = nB) (hrB : Rd w AB (i64s B)) (hnB : nB ≤ 1073741824) (hzP : P.length = nP) (hrP : Rd w AP (i64s P)) (hnP : nP ≤ 1073741824) (hzS : S.length = nS) (hrS : Rd w AS (i64s S)) (hnS : nS ≤ 1073741824) (hcB : nB ≤ cB) (hcP : nP ≤ cP) (hcS : nS ≤ cS) :
  Calls Tryz.prog 100 #[.agg #[.int .i64 a, .int .i64 r, .slice AB nB cB, .slice AP nP cP, .int .i64 d, .slice AS nS cS]] w fun e w' => ∃ AB' cB' AP' cP' AS' cS', e = .returned (.agg #[.int .i64 a, .int .i64 r, .slice AB' nB cB', .slice AP' nP cP', .int .i64 d, .slice AS' nS cS']) ∧
   w'.ownsRow w.heap.size 3 1 (.slice AB' nB cB') nB (i64s B) ∧ w'.ownsRow w.heap.size 3 1 (.slice AP' nP cP') nP (i64s P) ∧ w'.ownsRow w.heap.size 3 1 (.slice AS' nS cS') nS (i64s S) ∧ Below w.heap.size w w' := by
 have HZB := Lib.hid hzB
 have HZP := Lib.hid hzP
 have HZS := Lib.hid hzS
 clear hzB hzP hzS
 go_enter Tryz.func100, Tryz.ntmps100
 go_wp2_with fail
 refine (rcopyHdr_any a r AB cB nB B AP cP nP P _ HZB.out (((hrB.alloc _).alloc _).alloc _) hnB HZP.out (((hrP.alloc _).alloc _).alloc _) hnP hcB hcP).mono ?_
 rintro e w1 ⟨AB', cB', AP', cP', rfl, hob, hop, hb⟩
 obtain ⟨hcc, hff⟩ := bcellH hb
 have hz : w.heap.size + 1 + 1 < w1.heap.size := by have := hb.size; simp at this; omega
 have hz1 : w.heap.size + 1 < w1.heap.size := by omega
 have hb3 : Below w.heap.size w w1 := ((((Below.refl _ _).alloc (Nat.le_refl _) _).alloc (by simp) _).alloc (by simp; omega) _).trans (hb.mono (by simp; omega))
 have hb4 : Below w.heap.size w ((((w1.setCell ⟨w.heap.size + 1 + 1, 0, none⟩ (.int .i64 a)).setCell ⟨w.heap.size + 1 + 1, 1, none⟩ (.int .i64 r)).setCell ⟨w.heap.size + 1 + 1, 2, none⟩ (.slice AB' nB cB')).setCell ⟨w.heap.size + 1 + 1, 3, none⟩ (.slice AP' nP cP')) :=
  (((hb3.setCell (by show w.heap.size ≤ w.heap.size + 1 + 1; omega) _).setCell (by show w.heap.size ≤ w.heap.size + 1 + 1; omega) _).setCell (by show w.heap.size ≤ w.heap.size + 1 + 1; omega) _).setCell (by show w.heap.size ≤ w.heap.size + 1 + 1; omega) _
 go_wp2_with fail
 refine (copyNumbers_any AS cS nS S _ HZS.out (hrS.below hb4) hcS hnS).mono ?_
 rintro e w5 ⟨v5, rfl, ho5, hb5⟩
 have hos := own_cast ho5 ((i64s_length _).trans HZS.out)
 obtain ⟨AS', cS', rfl, _, _, _, _, _⟩ := own_val hos
 obtain ⟨hcc5, hff5⟩ := bcellH hb5
 go_wp2_with fail
 refine bodyPost_ret (v := .agg #[.int .i64 a, .int .i64 r, .slice AB' nB cB', .slice AP' nP cP', .int .i64 d, .slice AS' nS cS']) (by simp [results, Tryz.results100, go_sem, hcc, hcc5, hz1]) rfl ⟨AB', cB', AP', cP', AS', cS', rfl, ?_, ?_, ?_, ?_⟩
 ·have h1 := own_below (ownsRow_setCell_below (ownsRow_setCell_below (ownsRow_setCell_below (ownsRow_setCell_below hob (by simp) (.int .i64 a)) (by simp) (.int .i64 r)) (by simp) (.slice AB' nB cB')) (by simp) (.slice AP' nP cP')) hb5
  exact ownS_more (ownsRow_setCell_below (ownsRow_setCell_below (ownsRow_setCell_below (ownsRow_setCell_below (ownsRow_setCell_below (ownsRow_setCell_below (ownsRow_setCell_below h1 (by simp) _) (by simp) _) (by simp) _) (by simp) _) (by simp) _) (by simp) _) (by simp) _) (by simp; omega)
 ·have h1 := own_below (ownsRow_setCell_below (ownsRow_setCell_below (ownsRow_setCell_below (ownsRow_setCell_below hop (by simp) (.int .i64 a)) (by simp) (.int .i64 r)) (by simp) (.slice AB' nB cB')) (by simp) (.slice AP' nP cP')) hb5
  exact ownS_more (ownsRow_setCell_below (ownsRow_setCell_below (ownsRow_setCell_below (ownsRow_setCell_below (ownsRow_setCell_below (ownsRow_setCell_below (ownsRow_setCell_below h1 (by simp) _) (by simp) _) (by simp) _) (by simp) _) (by simp) _) (by simp) _) (by simp) _) (by simp; omega)
 ·exact ownS_more (ownsRow_setCell_below (ownsRow_setCell_below (ownsRow_setCell_below (ownsRow_setCell_below (ownsRow_setCell_below (ownsRow_setCell_below (ownsRow_setCell_below hos (by simp; omega) _) (by simp; omega) _) (by simp; omega) _) (by simp; omega) _) (by simp; omega) _) (by simp; omega) _) (by simp; omega) _) hb4.size
 ·have hb6 := hb4.trans (hb5.mono hb4.size)
  exact ((((((hb6.setCell (by show w.heap.size ≤ w.heap.size + 1 + 1; omega) _).setCell (by simp) _).setCell (by simp) _).setCell (by simp) _).setCell (by simp) _).setCell (by simp) _).setCell (by simp) _

/-! ### written over -/
/-! ### weights -/
end Go.Proofs.YteepobghdpnabaaGreat
