/-
  The page's own walk on certificates: which may be.
-/
import Derived.Test.YtejkeccoialogaaHCopy
import Derived.Test.YtejkeccoialogaaHOks
import Derived.BigRegion
import Derived.Test.YtejkeccoialogaaCalm
namespace Go.Proofs.Ytejkeccoialogaa
open Go.RowKit

set_option maxRecDepth 100000 in
set_option maxHeartbeats 8000000 in
theorem rcert_is (b : Bool) (a r : Int) (AB : Option Addr) (cB nB : Nat) (B : List Int) (AP : Option Addr) (cP nP : Nat) (P : List Int) (d : Int) (AS : Option Addr) (cS nS : Nat) (S : List Int) (n : Int) (w : World) (h : certB a r B P d S n = b) (hzB : B.length = nB) (hrB : Rd w AB (i64s B)) (hnB : nB ≤ 1073741824) (hzP : P.length = nP) (hrP : Rd w AP (i64s P)) (hnP : nP ≤ 1073741824) (hzS : S.length = nS) (hrS : Rd w AS (i64s S)) (hnS : nS ≤ 1073741824) :
    Calls Try.prog 44 #[.agg #[.int .i64 a, .int .i64 r, .slice AB nB cB, .slice AP nP cP, .int .i64 d, .slice AS nS cS], .int .i64 n] w (Tells w.heap.size w (.bool b)) := by
  subst h
  obtain ⟨w1, hw1⟩ : ∃ w1, w1 = w.alloc (.cells #[.int .i64 a, .int .i64 r, .slice AB nB cB, .slice AP nP cP, .int .i64 d, .slice AS nS cS] 37) := ⟨_, rfl⟩
  have hb1 : Below w.heap.size w w1 := by rw [hw1]; exact (Below.refl _ _).alloc (Nat.le_refl _) _
  have HC := Lib.hid (cbox_new hw1)
  have HW := Lib.hid hw1
  have HZB := Lib.hid hzB
  have HZP := Lib.hid hzP
  have HZS := Lib.hid hzS
  have hrB1 := hrB.below hb1
  have hrP1 := hrP.below hb1
  have HRS : Hid (∀ wX, Below w1.heap.size w1 wX → Rd wX AS (i64s S)) := fun wX hx => (hrS.below hb1).below hx
  have c0 : ∀ x : Calm w1, x.val.cell? ⟨w.heap.size, 0, none⟩ = some (.int .i64 a) := fun x => (HC.out _ x.ok).1
  have c1 : ∀ x : Calm w1, x.val.cell? ⟨w.heap.size, 1, none⟩ = some (.int .i64 r) := fun x => (HC.out _ x.ok).2.1
  have c2 : ∀ x : Calm w1, x.val.cell? ⟨w.heap.size, 2, none⟩ = some (.slice AB nB cB) := fun x => (HC.out _ x.ok).2.2.1
  have c3 : ∀ x : Calm w1, x.val.cell? ⟨w.heap.size, 3, none⟩ = some (.slice AP nP cP) := fun x => (HC.out _ x.ok).2.2.2.1
  have c4 : ∀ x : Calm w1, x.val.cell? ⟨w.heap.size, 4, none⟩ = some (.int .i64 d) := fun x => (HC.out _ x.ok).2.2.2.2.1
  have c5 : ∀ x : Calm w1, x.val.cell? ⟨w.heap.size, 5, none⟩ = some (.slice AS nS cS) := fun x => (HC.out _ x.ok).2.2.2.2.2
  clear hw1 hrB hrP hrS
  cases hH : hdrB a r B P n with
  | false =>
    have HV : Hid (certB a r B P d S n = false) := by show certB a r B P d S n = false; unfold certB; simp only [decide_eq_false_iff_not]; rintro ⟨q1, q2, q3, q4, q5⟩; rw [hH] at q1; cases q1
    have HH := Lib.hid hH
    clear hH
    clear hzB hzP hzS
    go_enter Try.func44, Try.ntmps44
    go_wp2_with fail
    rw [← HW.out]
    refine wp_region_calm (by kernel_rfl) (by kernel_rfl) ?_
    repeat (go_big_quiet_step (first
        | (go_at_call 75; exact calm_tells (rhdr_is false a r AB cB nB B AP cP nP P n _ HH.out HZB.out (hrB1.below (Calm.ok _)) hnB HZP.out (hrP1.below (Calm.ok _)) hnP))))
    refine wpQuiet_nil ?_
    rintro _ ⟨x, rfl⟩
    go_wp2_with fail
    go_ret
    exact ⟨ret_boolH (by rw [HV.out]; first | done | rfl | (simp; done) | (simp [g]; done) | (simp; omega)), hb1.trans (x.ok.mono hb1.size)⟩
  | true =>
    cases hD : decide (1 ≤ d ∧ d ≤ 65536) with
    | false =>
      have HV : Hid (certB a r B P d S n = false) := by show certB a r B P d S n = false; unfold certB; simp only [decide_eq_false_iff_not]; rintro ⟨q1, q2, q3, q4, q5⟩; rw [decide_eq_true q2] at hD; cases hD
      have HH := Lib.hid hH
      have HD := Lib.hid hD
      clear hH hD
      clear hzB hzP hzS
      go_enter Try.func44, Try.ntmps44
      go_wp2_with fail
      rw [← HW.out]
      refine wp_region_calm (by kernel_rfl) (by kernel_rfl) ?_
      repeat (go_big_quiet_step (first
          | (go_at_call 75; exact calm_tells (rhdr_is true a r AB cB nB B AP cP nP P n _ HH.out HZB.out (hrB1.below (Calm.ok _)) hnB HZP.out (hrP1.below (Calm.ok _)) hnP))
          | (go_at_call 76; exact calm_same (rdigest_is false d HD.out _))))
      refine wpQuiet_nil ?_
      rintro _ ⟨x, rfl⟩
      go_wp2_with fail
      go_ret
      exact ⟨ret_boolH (by rw [HV.out]; first | done | rfl | (simp; done) | (simp [g]; done) | (simp; omega)), hb1.trans (x.ok.mono hb1.size)⟩
    | true =>
      cases hR : risB S with
      | false =>
        have HV : Hid (certB a r B P d S n = false) := by show certB a r B P d S n = false; unfold certB; simp only [decide_eq_false_iff_not]; rintro ⟨q1, q2, q3, q4, q5⟩; rw [hR] at q3; cases q3
        have HH := Lib.hid hH
        have HD := Lib.hid hD
        have HR := Lib.hid hR
        clear hH hD hR
        clear hzB hzP hzS
        go_enter Try.func44, Try.ntmps44
        go_wp2_with fail
        rw [← HW.out]
        refine wp_region_calm (by kernel_rfl) (by kernel_rfl) ?_
        repeat (go_big_quiet_step (first
            | (go_at_call 75; exact calm_tells (rhdr_is true a r AB cB nB B AP cP nP P n _ HH.out HZB.out (hrB1.below (Calm.ok _)) hnB HZP.out (hrP1.below (Calm.ok _)) hnP))
            | (go_at_call 76; exact calm_same (rdigest_is true d HD.out _))
            | (go_at_call 77; exact calm_drew (rrising_is false AS cS nS S _ HR.out HZS.out (HRS.out _ (Calm.ok _)) hnS))))
        refine wpQuiet_nil ?_
        rintro _ ⟨x, rfl⟩
        go_wp2_with fail
        go_ret
        exact ⟨ret_boolH (by rw [HV.out]; first | done | rfl | (simp; done) | (simp [g]; done) | (simp; omega)), hb1.trans (x.ok.mono hb1.size)⟩
      | true =>
        cases hE : betB 1 n S with
        | false =>
          have HV : Hid (certB a r B P d S n = false) := by show certB a r B P d S n = false; unfold certB; simp only [decide_eq_false_iff_not]; rintro ⟨q1, q2, q3, q4, q5⟩; rw [hE] at q4; cases q4
          have HH := Lib.hid hH
          have HD := Lib.hid hD
          have HR := Lib.hid hR
          have HE := Lib.hid hE
          clear hH hD hR hE
          clear hzB hzP hzS
          go_enter Try.func44, Try.ntmps44
          go_wp2_with fail
          rw [← HW.out]
          refine wp_region_calm (by kernel_rfl) (by kernel_rfl) ?_
          repeat (go_big_quiet_step (first
              | (go_at_call 75; exact calm_tells (rhdr_is true a r AB cB nB B AP cP nP P n _ HH.out HZB.out (hrB1.below (Calm.ok _)) hnB HZP.out (hrP1.below (Calm.ok _)) hnP))
              | (go_at_call 76; exact calm_same (rdigest_is true d HD.out _))
              | (go_at_call 77; exact calm_drew (rrising_is true AS cS nS S _ HR.out HZS.out (HRS.out _ (Calm.ok _)) hnS))
              | (go_at_call 78; exact calm_same (rbetween_is false AS cS nS S 1 n _ HE.out HZS.out (HRS.out _ (Calm.ok _)) hnS))))
          refine wpQuiet_nil ?_
          rintro _ ⟨x, rfl⟩
          go_wp2_with fail
          go_ret
          exact ⟨ret_boolH (by rw [HV.out]; first | done | rfl | (simp; done) | (simp [g]; done) | (simp; omega)), hb1.trans (x.ok.mono hb1.size)⟩
        | true =>
          obtain ⟨q, hq⟩ : ∃ q, quoN n = q := ⟨_, rfl⟩
          have HQ := Lib.hid hq
          have hM : mayB n = true := by
            have h1 : mayB n = true ∧ (1 ≤ a ∧ a ≤ n) ∧ (1 ≤ r ∧ r ≤ 1099511627776) ∧ digsB B 8 = true ∧ digsB P n = true ∧ (if r = 1 then P.length = 0 else quoN n ≤ (P.length : Int)) := by simpa only [hdrB, decide_eq_true_eq] using hH
            exact h1.1
          have HM := Lib.hid hM
          by_cases g : q ≤ (nS : Int)
          · have HV : Hid (certB a r B P d S n = true) := by show certB a r B P d S n = true; unfold certB; simp only [decide_eq_true_eq]; exact ⟨hH, of_decide_eq_true hD, hR, hE, by rw [hzS, hq]; exact g⟩
            have HH := Lib.hid hH
            have HD := Lib.hid hD
            have HR := Lib.hid hR
            have HE := Lib.hid hE
            clear hH hD hR hE hM hq
            clear hzB hzP hzS
            go_enter Try.func44, Try.ntmps44
            go_wp2_with fail
            rw [← HW.out]
            refine wp_region_calm (by kernel_rfl) (by kernel_rfl) ?_
            repeat (go_big_quiet_step (first
                | (go_at_call 75; exact calm_tells (rhdr_is true a r AB cB nB B AP cP nP P n _ HH.out HZB.out (hrB1.below (Calm.ok _)) hnB HZP.out (hrP1.below (Calm.ok _)) hnP))
                | (go_at_call 76; exact calm_same (rdigest_is true d HD.out _))
                | (go_at_call 77; exact calm_drew (rrising_is true AS cS nS S _ HR.out HZS.out (HRS.out _ (Calm.ok _)) hnS))
                | (go_at_call 78; exact calm_same (rbetween_is true AS cS nS S 1 n _ HE.out HZS.out (HRS.out _ (Calm.ok _)) hnS))
                | (go_at_call 79; exact calm_same (rquo_is n q HM.out HQ.out _))))
            refine wpQuiet_nil ?_
            rintro _ ⟨x, rfl⟩
            go_wp2_with fail
            go_ret
            exact ⟨ret_boolH (by rw [HV.out]; first | done | rfl | (simp; done) | (simp [g]; done) | (simp; omega)), hb1.trans (x.ok.mono hb1.size)⟩
          · have HV : Hid (certB a r B P d S n = false) := by show certB a r B P d S n = false; unfold certB; simp only [decide_eq_false_iff_not]; rintro ⟨q1, q2, q3, q4, q5⟩; rw [hzS, hq] at q5; exact g q5
            have HH := Lib.hid hH
            have HD := Lib.hid hD
            have HR := Lib.hid hR
            have HE := Lib.hid hE
            clear hH hD hR hE hM hq
            clear hzB hzP hzS
            go_enter Try.func44, Try.ntmps44
            go_wp2_with fail
            rw [← HW.out]
            refine wp_region_calm (by kernel_rfl) (by kernel_rfl) ?_
            repeat (go_big_quiet_step (first
                | (go_at_call 75; exact calm_tells (rhdr_is true a r AB cB nB B AP cP nP P n _ HH.out HZB.out (hrB1.below (Calm.ok _)) hnB HZP.out (hrP1.below (Calm.ok _)) hnP))
                | (go_at_call 76; exact calm_same (rdigest_is true d HD.out _))
                | (go_at_call 77; exact calm_drew (rrising_is true AS cS nS S _ HR.out HZS.out (HRS.out _ (Calm.ok _)) hnS))
                | (go_at_call 78; exact calm_same (rbetween_is true AS cS nS S 1 n _ HE.out HZS.out (HRS.out _ (Calm.ok _)) hnS))
                | (go_at_call 79; exact calm_same (rquo_is n q HM.out HQ.out _))))
            refine wpQuiet_nil ?_
            rintro _ ⟨x, rfl⟩
            go_wp2_with fail
            go_ret
            exact ⟨ret_boolH (by rw [HV.out]; first | done | rfl | (simp; done) | (simp [g]; done) | (simp; omega)), hb1.trans (x.ok.mono hb1.size)⟩

end Go.Proofs.Ytejkeccoialogaa
