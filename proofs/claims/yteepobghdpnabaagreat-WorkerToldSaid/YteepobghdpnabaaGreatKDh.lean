/-
 The page's own walk on certificates: which may be.
-/
import Derived.Test.YteepobghdpnabaaGreatKDa
import Derived.Test.YteepobghdpnabaaGreatKBj
namespace Go.Proofs.YteepobghdpnabaaGreat
open Go.RowKit

set_option maxRecDepth 100000 in
set_option maxHeartbeats 8000000 in
theorem rcert_is (b : Bool) (a r : Int) (AB : Option Addr) (cB nB : Nat) (B : List Int) (AP : Option Addr) (cP nP : Nat) (P : List Int) (d : Int) (AS : Option Addr) (cS nS : Nat) (S : List Int) (n : Int) (w : World) (h : certB a r B P d S n = b) (hzB : B.length = nB) (hrB : Rd w AB (i64s B)) (hnB : nB ≤ 1073741824) (hzP : P.length = nP) (hrP : Rd w AP (i64s P)) (hnP : nP ≤ 1073741824) (hzS : S.length = nS) (hrS : Rd w AS (i64s S)) (hnS : nS ≤ 1073741824) :
  Calls Tryz.prog 134 #[.agg #[.int .i64 a, .int .i64 r, .slice AB nB cB, .slice AP nP cP, .int .i64 d, .slice AS nS cS], .int .i64 n] w (Tells w.heap.size w (.bool b)) := by
 subst h
 obtain ⟨w1, hw1⟩ : ∃ w1, w1 = w.alloc (.cells #[.int .i64 a, .int .i64 r, .slice AB nB cB, .slice AP nP cP, .int .i64 d, .slice AS nS cS] 46) := ⟨_, rfl⟩
 have hb1 : Below w.heap.size w w1 := by rw [hw1]; exact (Below.refl _ _).alloc (Nat.le_refl _) _
 have HC := Lib.hid (cbox_new hw1)
 have HW := Lib.hid hw1
 have HZB := Lib.hid hzB
 have HZP := Lib.hid hzP
 have HZS := Lib.hid hzS
 have hrB1 := hrB.below hb1
 have hrP1 := hrP.below hb1
 have HRS : Hid (∀ wX, Below w1.heap.size w1 wX → Rd wX AS (i64s S)) := fun wX hx => (hrS.below hb1).below hx
 have c0 : ∀ x : Calm w1, x.val.cell? ⟨w.heap.size, 0, none⟩ = some (.int .i64 a) := fun x => (HC.out _ x.ok).1
 have c1 : ∀ x : Calm w1, x.val.cell? ⟨w.heap.size, 1, none⟩ = some (.int .i64 r) := fun x => (HC.out _ x.ok).2.1
 have c2 : ∀ x : Calm w1, x.val.cell? ⟨w.heap.size, 2, none⟩ = some (.slice AB nB cB) := fun x => (HC.out _ x.ok).2.2.1
 have c3 : ∀ x : Calm w1, x.val.cell? ⟨w.heap.size, 3, none⟩ = some (.slice AP nP cP) := fun x => (HC.out _ x.ok).2.2.2.1
 have c4 : ∀ x : Calm w1, x.val.cell? ⟨w.heap.size, 4, none⟩ = some (.int .i64 d) := fun x => (HC.out _ x.ok).2.2.2.2.1
 have c5 : ∀ x : Calm w1, x.val.cell? ⟨w.heap.size, 5, none⟩ = some (.slice AS nS cS) := fun x => (HC.out _ x.ok).2.2.2.2.2
 clear hw1 hrB hrP hrS
 cases hH : hdrB a r B P n with
 | false =>
  have HV : Hid (certB a r B P d S n = false) := by show certB a r B P d S n = false; unfold certB; simp only [decide_eq_false_iff_not]; rintro ⟨q1, q2, q3, q4, q5⟩; rw [hH] at q1; cases q1
  have HH := Lib.hid hH
  clear hH
  clear hzB hzP hzS
  go_enter Tryz.func134, Tryz.ntmps134
  go_wp2_with fail
  rw [← HW.out]
  refine wp_region_calm (by kernel_rfl) (by kernel_rfl) ?_
  repeat (go_big_quiet_step (first
    | (go_at_call 133; exact calm_tells (rhdr_is false a r AB cB nB B AP cP nP P n _ HH.out HZB.out (hrB1.below (Calm.ok _)) hnB HZP.out (hrP1.below (Calm.ok _)) hnP))))
  refine wpQuiet_nil ?_
  rintro _ ⟨x, rfl⟩
  go_wp2_with fail
  go_ret
  exact ⟨ret_boolH (by rw [HV.out]; first | done | rfl | (simp; done) | (simp [g]; done) | (simp; omega)), hb1.trans (x.ok.mono hb1.size)⟩
 | true =>
  cases hD : decide (1 ≤ d ∧ d ≤ 65536) with
  | false =>
   have HV : Hid (certB a r B P d S n = false) := by show certB a r B P d S n = false; unfold certB; simp only [decide_eq_false_iff_not]; rintro ⟨q1, q2, q3, q4, q5⟩; rw [decide_eq_true q2] at hD; cases hD
   have HH := Lib.hid hH
   have HD := Lib.hid hD
   clear hH hD
   clear hzB hzP hzS
   go_enter Tryz.func134, Tryz.ntmps134
   go_wp2_with fail
   rw [← HW.out]
   refine wp_region_calm (by kernel_rfl) (by kernel_rfl) ?_
   repeat (go_big_quiet_step (first
     | (go_at_call 133; exact calm_tells (rhdr_is true a r AB cB nB B AP cP nP P n _ HH.out HZB.out (hrB1.below (Calm.ok _)) hnB HZP.out (hrP1.below (Calm.ok _)) hnP))
     | (go_at_call 36; exact calm_same (rdigest_is false d HD.out _))))
   refine wpQuiet_nil ?_
   rintro _ ⟨x, rfl⟩
   go_wp2_with fail
   go_ret
   exact ⟨ret_boolH (by rw [HV.out]; first | done | rfl | (simp; done) | (simp [g]; done) | (simp; omega)), hb1.trans (x.ok.mono hb1.size)⟩
  | true =>
   cases hR : risB S with
   | false =>
    have HV : Hid (certB a r B P d S n = false) := by show certB a r B P d S n = false; unfold certB; simp only [decide_eq_false_iff_not]; rintro ⟨q1, q2, q3, q4, q5⟩; rw [hR] at q3; cases q3
    have HH := Lib.hid hH
    have HD := Lib.hid hD
    have HR := Lib.hid hR
    clear hH hD hR
    clear hzB hzP hzS
    go_enter Tryz.func134, Tryz.ntmps134
    go_wp2_with fail
    rw [← HW.out]
    refine wp_region_calm (by kernel_rfl) (by kernel_rfl) ?_
    repeat (go_big_quiet_step (first
      | (go_at_call 133; exact calm_tells (rhdr_is true a r AB cB nB B AP cP nP P n _ HH.out HZB.out (hrB1.below (Calm.ok _)) hnB HZP.out (hrP1.below (Calm.ok _)) hnP))
      | (go_at_call 36; exact calm_same (rdigest_is true d HD.out _))
      | (go_at_call 37; exact calm_drew (rrising_is false AS cS nS S _ HR.out HZS.out (HRS.out _ (Calm.ok _)) hnS))))
    refine wpQuiet_nil ?_
    rintro _ ⟨x, rfl⟩
    go_wp2_with fail
    go_ret
    exact ⟨ret_boolH (by rw [HV.out]; first | done | rfl | (simp; done) | (simp [g]; done) | (simp; omega)), hb1.trans (x.ok.mono hb1.size)⟩
   | true =>
    cases hE : betB 1 n S with
    | false =>
     have HV : Hid (certB a r B P d S n = false) := by show certB a r B P d S n = false; unfold certB; simp only [decide_eq_false_iff_not]; rintro ⟨q1, q2, q3, q4, q5⟩; rw [hE] at q4; cases q4
     have HH := Lib.hid hH
     have HD := Lib.hid hD
     have HR := Lib.hid hR
     have HE := Lib.hid hE
     clear hH hD hR hE
     clear hzB hzP hzS
     go_enter Tryz.func134, Tryz.ntmps134
     go_wp2_with fail
     rw [← HW.out]
     refine wp_region_calm (by kernel_rfl) (by kernel_rfl) ?_
     repeat (go_big_quiet_step (first
       | (go_at_call 133; exact calm_tells (rhdr_is true a r AB cB nB B AP cP nP P n _ HH.out HZB.out (hrB1.below (Calm.ok _)) hnB HZP.out (hrP1.below (Calm.ok _)) hnP))
       | (go_at_call 36; exact calm_same (rdigest_is true d HD.out _))
       | (go_at_call 37; exact calm_drew (rrising_is true AS cS nS S _ HR.out HZS.out (HRS.out _ (Calm.ok _)) hnS))
       | (go_at_call 38; exact calm_same (rbetween_is false AS cS nS S 1 n _ HE.out HZS.out (HRS.out _ (Calm.ok _)) hnS))))
     refine wpQuiet_nil ?_
     rintro _ ⟨x, rfl⟩
     go_wp2_with fail
     go_ret
     exact ⟨ret_boolH (by rw [HV.out]; first | done | rfl | (simp; done) | (simp [g]; done) | (simp; omega)), hb1.trans (x.ok.mono hb1.size)⟩
    | true =>
     obtain ⟨q, hq⟩ : ∃ q, quoN n = q := ⟨_, rfl⟩
     have HQ := Lib.hid hq
     have hM : mayB n = true := by
      have h1 : mayB n = true ∧ (1 ≤ a ∧ a ≤ n) ∧ (1 ≤ r ∧ r ≤ 1099511627776) ∧ digsB B 8 = true ∧ digsB P n = true ∧ (if r = 1 then P.length = 0 else quoN n ≤ (P.length : Int)) := by simpa only [hdrB, decide_eq_true_eq] using hH
      exact h1.1
     have HM := Lib.hid hM
     by_cases g : q ≤ (nS : Int)
     ·have HV : Hid (certB a r B P d S n = true) := by show certB a r B P d S n = true; unfold certB; simp only [decide_eq_true_eq]; exact ⟨hH, of_decide_eq_true hD, hR, hE, by rw [hzS, hq]; exact g⟩
      have HH := Lib.hid hH
      have HD := Lib.hid hD
      have HR := Lib.hid hR
      have HE := Lib.hid hE
      clear hH hD hR hE hM hq
      clear hzB hzP hzS
      go_enter Tryz.func134, Tryz.ntmps134
      go_wp2_with fail
      rw [← HW.out]
      refine wp_region_calm (by kernel_rfl) (by kernel_rfl) ?_
      repeat (go_big_quiet_step (first
        | (go_at_call 133; exact calm_tells (rhdr_is true a r AB cB nB B AP cP nP P n _ HH.out HZB.out (hrB1.below (Calm.ok _)) hnB HZP.out (hrP1.below (Calm.ok _)) hnP))
        | (go_at_call 36; exact calm_same (rdigest_is true d HD.out _))
        | (go_at_call 37; exact calm_drew (rrising_is true AS cS nS S _ HR.out HZS.out (HRS.out _ (Calm.ok _)) hnS))
        | (go_at_call 38; exact calm_same (rbetween_is true AS cS nS S 1 n _ HE.out HZS.out (HRS.out _ (Calm.ok _)) hnS))
        | (go_at_call 119; exact calm_same (rquo_is n q HM.out HQ.out _))))
      refine wpQuiet_nil ?_
      rintro _ ⟨x, rfl⟩
      go_wp2_with fail
      go_ret
      exact ⟨ret_boolH (by rw [HV.out]; first | done | rfl | (simp; done) | (simp [g]; done) | (simp; omega)), hb1.trans (x.ok.mono hb1.size)⟩
     ·have HV : Hid (certB a r B P d S n = false) := by show certB a r B P d S n = false; unfold certB; simp only [decide_eq_false_iff_not]; rintro ⟨q1, q2, q3, q4, q5⟩; rw [hzS, hq] at q5; exact g q5
      have HH := Lib.hid hH
      have HD := Lib.hid hD
      have HR := Lib.hid hR
      have HE := Lib.hid hE
      clear hH hD hR hE hM hq
      clear hzB hzP hzS
      go_enter Tryz.func134, Tryz.ntmps134
      go_wp2_with fail
      rw [← HW.out]
      refine wp_region_calm (by kernel_rfl) (by kernel_rfl) ?_
      repeat (go_big_quiet_step (first
        | (go_at_call 133; exact calm_tells (rhdr_is true a r AB cB nB B AP cP nP P n _ HH.out HZB.out (hrB1.below (Calm.ok _)) hnB HZP.out (hrP1.below (Calm.ok _)) hnP))
        | (go_at_call 36; exact calm_same (rdigest_is true d HD.out _))
        | (go_at_call 37; exact calm_drew (rrising_is true AS cS nS S _ HR.out HZS.out (HRS.out _ (Calm.ok _)) hnS))
        | (go_at_call 38; exact calm_same (rbetween_is true AS cS nS S 1 n _ HE.out HZS.out (HRS.out _ (Calm.ok _)) hnS))
        | (go_at_call 119; exact calm_same (rquo_is n q HM.out HQ.out _))))
      refine wpQuiet_nil ?_
      rintro _ ⟨x, rfl⟩
      go_wp2_with fail
      go_ret
      exact ⟨ret_boolH (by rw [HV.out]; first | done | rfl | (simp; done) | (simp [g]; done) | (simp; omega)), hb1.trans (x.ok.mono hb1.size)⟩

end Go.Proofs.YteepobghdpnabaaGreat
namespace Go.Proofs.YteepobghdpnabaaGreat
open Go.RowKit

theorem Touch.onM {F : Nat → Prop} {w w' w'' : World} (h : Touch F w w') (k : Touch F w' w'') : Touch F w w'' := h.trans k fun _ h => .inl h
set_option maxRecDepth 100000 in
set_option maxHeartbeats 16000000 in
theorem rmsg_is (b : Bool) (m : MsgD) (a : MsgA) (n : Int) (w : World) (h : messB m n = b) (hi : MsgIn w m a) (hf : MsgFew 1000000 a) :
  Calls Tryz.prog 97 #[msgV m a, .int .i64 n] w (Tells w.heap.size w (.bool b)) := by
 obtain ⟨w1, hw1⟩ : ∃ w1, w1 = w.alloc (.cells #[.int .i64 m.k, .int .i64 m.f, .int .i64 m.t, .int .i64 m.d, .int .i64 m.ba, .int .i64 m.bn, .slice a.AL a.nL a.cL, .int .i64 m.ha, .int .i64 m.hr, .slice a.AhB a.nhB a.chB, .slice a.AhP a.nhP a.chP, .int .i64 m.ca, .int .i64 m.cr, .slice a.AcB a.ncB a.ccB, .slice a.AcP a.ncP a.ccP, .int .i64 m.cd, .slice a.AcS a.ncS a.ccS, .slice a.AD a.nD a.cD] 48) := ⟨_, rfl⟩
 have hb1 : Below w.heap.size w w1 := by rw [hw1]; exact (Below.refl _ _).alloc (Nat.le_refl _) _
 have hs1 : w1.heap.size = w.heap.size + 1 := by rw [hw1]; simp
 have bx1 : Box w1 w.heap.size (msgC m a) := by
  rw [hw1]
  exact box_new w (msgC m a) 48
 have HW := Lib.hid hw1
 have HS1 := Lib.hid hs1
 have BX1 := Lib.hid bx1
 have BZ1 := Lib.hid (box_new w1 [.int .i64 0, .int .i64 0, .int .i64 0, .int .i64 0, .int .i64 0, .int .i64 0, .slice none 0 0, .int .i64 0, .int .i64 0, .slice none 0 0, .slice none 0 0, .int .i64 0, .int .i64 0, .slice none 0 0, .slice none 0 0, .int .i64 0, .slice none 0 0, .slice none 0 0] 48)
 have HI : Hid (∀ wX, Below w.heap.size w wX → MsgIn wX m a) := fun wX h => hi.below h
 have HZ := Lib.hid hi
 have HF := Lib.hid hf
 have HB1 := Lib.hid hb1
 have HE : Hid (messB m n = b) := h
 have xq0 := (bx1.2 0 _ rfl).1
 have xq1 := (bx1.2 1 _ rfl).1
 have xq2 := (bx1.2 2 _ rfl).1
 clear hw1 bx1 hi hf h hb1 hs1
 unfold msgV
 go_enter Tryz.func97, Tryz.ntmps97
 go_upto_region 1 with fail
 rw [← HW.out]
 go_wp2_with (first
  | (refine wpList_store_box rfl 48 _ _ rfl w1.heap.size 0 [.int .i64 m.k, .int .i64 m.f, .int .i64 m.t, .int .i64 0, .int .i64 0, .int .i64 0, .slice none 0 0, .int .i64 0, .int .i64 0, .slice none 0 0, .slice none 0 0, .int .i64 0, .int .i64 0, .slice none 0 0, .slice none 0 0, .int .i64 0, .slice none 0 0, .slice none 0 0] [.int .i64 0, .int .i64 0, .int .i64 0, .int .i64 0, .int .i64 0, .int .i64 0, .slice none 0 0, .int .i64 0, .int .i64 0, .slice none 0 0, .slice none 0 0, .int .i64 0, .int .i64 0, .slice none 0 0, .slice none 0 0, .int .i64 0, .slice none 0 0, .slice none 0 0] [.int .i64 m.k, .int .i64 m.f, .int .i64 m.t, .int .i64 0, .int .i64 0, .int .i64 0, .slice none 0 0, .int .i64 0, .int .i64 0, .slice none 0 0, .slice none 0 0, .int .i64 0, .int .i64 0, .slice none 0 0, .slice none 0 0, .int .i64 0, .slice none 0 0, .slice none 0 0] rfl rfl BZ1.out (by simp) rfl (by kernel_rfl) rfl ?_)
  | (refine wpList_run_to rfl 48 rfl (.pointer (some ⟨w1.heap.size, 0, none⟩)) (w1.alloc (.cells #[.int .i64 0, .int .i64 0, .int .i64 0, .int .i64 0, .int .i64 0, .int .i64 0, .slice none 0 0, .int .i64 0, .int .i64 0, .slice none 0 0, .slice none 0 0, .int .i64 0, .int .i64 0, .slice none 0 0, .slice none 0 0, .int .i64 0, .slice none 0 0, .slice none 0 0] 48)) (by unfold execOp; go_simp; done) ?_))
 intro w2 by_ T2
 obtain ⟨F, hF⟩ : ∃ F : Nat → Prop, F = fun k => k = w1.heap.size := ⟨_, rfl⟩
 have t12 : Touch F w1 w2 := ((Touch.refl F w1).alloc _).onM (T2 F (by rw [hF]))
 have hx12 : Below w1.heap.size w1 w2 := t12.below (fun k hk => by rw [hF] at hk; omega) (Nat.le_refl _)
 have bx := BX1.out.below hx12 BX1.out.1
 have HS2 : Hid (w1.heap.size < w2.heap.size) := by_.1
 have hb2 : Below w.heap.size w w2 := HB1.out.trans (hx12.mono HB1.out.size)
 have HX : Hid (∀ wX, Below w1.heap.size w2 wX → Box wX w.heap.size (msgC m a)) := fun wX h => bx.below h (by have := HS1.out; omega)
 have HY := Lib.hid by_
 have HB2 : Hid (∀ wX, Below w1.heap.size w2 wX → Below w.heap.size w wX) := fun wX h => hb2.trans (h.mono (by have := HS1.out; omega))
 have hx1 := (bx.2 1 _ rfl).1
 have hx2 := (bx.2 2 _ rfl).1
 clear by_ T2 hF t12 hx12 bx xq0 xq1 xq2
 go_wp2_with fail
 refine (rmay_is (mayB n) n rfl _).mono ?_
 rintro e w' ⟨rfl, rfl⟩
 cases hm : mayB n with
 | false =>
  have HV : Hid (b = false) := by show b = false; rw [← HE.out, messB, idsB, hm]; simp
  clear hm
  go_wp2_with fail
  go_ret
  exact ⟨ret_bool HV.out.symm, hb2⟩
 | true =>
  have HM := Lib.hid hm
  clear hm
  by_cases g1 : m.f < 1
  ·have HV : Hid (b = false) := by show b = false; rw [← HE.out, messB, show idsB m n = false from by (unfold idsB; rw [decide_eq_false_iff_not]; rintro ⟨_, ⟨_, _⟩, ⟨_, _⟩, _⟩; omega), Bool.false_and]
   go_wp2_with fail
   go_ret
   exact ⟨ret_bool HV.out.symm, hb2⟩
  by_cases g2 : n < m.f
  ·have HV : Hid (b = false) := by show b = false; rw [← HE.out, messB, show idsB m n = false from by (unfold idsB; rw [decide_eq_false_iff_not]; rintro ⟨_, ⟨_, _⟩, ⟨_, _⟩, _⟩; omega), Bool.false_and]
   go_wp2_with fail
   go_ret
   exact ⟨ret_bool HV.out.symm, hb2⟩
  by_cases g3 : m.t < 1
  ·have HV : Hid (b = false) := by show b = false; rw [← HE.out, messB, show idsB m n = false from by (unfold idsB; rw [decide_eq_false_iff_not]; rintro ⟨_, ⟨_, _⟩, ⟨_, _⟩, _⟩; omega), Bool.false_and]
   go_wp2_with fail
   go_ret
   exact ⟨ret_bool HV.out.symm, hb2⟩
  by_cases g4 : n < m.t
  ·have HV : Hid (b = false) := by show b = false; rw [← HE.out, messB, show idsB m n = false from by (unfold idsB; rw [decide_eq_false_iff_not]; rintro ⟨_, ⟨_, _⟩, ⟨_, _⟩, _⟩; omega), Bool.false_and]
   go_wp2_with fail
   go_ret
   exact ⟨ret_bool HV.out.symm, hb2⟩
  by_cases g5 : m.f = m.t
  ·have HV : Hid (b = false) := by show b = false; rw [← HE.out, messB, show idsB m n = false from by (unfold idsB; rw [decide_eq_false_iff_not]; rintro ⟨_, ⟨_, _⟩, ⟨_, _⟩, _⟩; omega), Bool.false_and]
   have j5 : (m.f == m.t) = true := by simp [g5]
   clear g5
   go_wp2_with fail
   go_ret
   exact ⟨ret_bool HV.out.symm, hb2⟩
  have j5 : (m.f == m.t) = false := by simp [g5]
  have HID : Hid (idsB m n = true) := by show idsB m n = true; unfold idsB; rw [decide_eq_true_eq]; exact ⟨HM.out, by omega, by omega, g5⟩
  clear g5
  have xa0 := ((HX.out _ (Below.refl _ _)).2 0 _ rfl).1
  go_upto_region 6 with fail
  clear xa0 hx1 hx2 j5 g1 g2 g3 g4
  by_cases hk : m.k = 1
  ·have e1 : (m.k == 1) = true := by simp [hk]
   have e3 : (m.k == 3) = false := by simp [hk]
   have e2 : (m.k == 2) = false := by simp [hk]
   have e5 : (m.k == 5) = false := by simp [hk]
   have e4 : (m.k == 4) = false := by simp [hk]
   have e6 : (m.k == 6) = false := by simp [hk]
   have e7 : (m.k == 7) = false := by simp [hk]
   have e8 : (m.k == 8) = false := by simp [hk]
   have HFO : Hid (formB m n = (digB m.d && (batB m.ba m.bn m.L && decide (m.ba ≤ n)))) := by show formB m n = _; unfold formB; simp [hk]
   have HON : Hid (onlyM m = ⟨m.k, m.f, m.t, m.d, m.ba, m.bn, m.L, 0, 0, [], [], 0, 0, [], [], 0, [], []⟩) := by show onlyM m = _; unfold onlyM zeroM; simp [hk]
   clear hk
   obtain ⟨w5, hw5⟩ : ∃ w5, w5 = ((((w2).setCell ⟨w1.heap.size, 3, none⟩ (.int .i64 m.d)).setCell ⟨w1.heap.size, 4, none⟩ (.int .i64 m.ba)).setCell ⟨w1.heap.size, 5, none⟩ (.int .i64 m.bn)).setCell ⟨w1.heap.size, 6, none⟩ (.slice a.AL a.nL a.cL) := ⟨_, rfl⟩
   have by5 : Box w5 (w1.heap.size) [.int .i64 m.k, .int .i64 m.f, .int .i64 m.t, .int .i64 m.d, .int .i64 m.ba, .int .i64 m.bn, .slice a.AL a.nL a.cL, .int .i64 0, .int .i64 0, .slice none 0 0, .slice none 0 0, .int .i64 0, .int .i64 0, .slice none 0 0, .slice none 0 0, .int .i64 0, .slice none 0 0, .slice none 0 0] := by rw [hw5]; exact ((((HY.out).set (by simp)).set (by simp)).set (by simp)).set (by simp)
   have hb5 : Below (w1.heap.size) w2 w5 := by rw [hw5]; exact ((((Below.refl (w1.heap.size) w2).setCell (by simp) _).setCell (by simp) _).setCell (by simp) _).setCell (by simp) _
   have xa3 := ((HX.out _ (Below.refl _ _)).2 3 _ rfl).1
   have ya3 := (HY.out.2 3 _ rfl).1
   have yf3 := (HY.out.2 3 _ rfl).2
   have xa4 := ((HX.out _ (Below.refl _ _)).2 4 _ rfl).1
   have ya4 := (HY.out.2 4 _ rfl).1
   have yf4 := (HY.out.2 4 _ rfl).2
   have xa5 := ((HX.out _ (Below.refl _ _)).2 5 _ rfl).1
   have ya5 := (HY.out.2 5 _ rfl).1
   have yf5 := (HY.out.2 5 _ rfl).2
   have xa6 := ((HX.out _ (Below.refl _ _)).2 6 _ rfl).1
   have ya6 := (HY.out.2 6 _ rfl).1
   have yf6 := (HY.out.2 6 _ rfl).2
   go_upto_region 8 with fail
   go_region
   go_upto_region 9 with fail
   rw [← hw5]
   clear hw5 xa3 ya3 yf3 xa4 ya4 yf4 xa5 ya5 yf5 xa6 ya6 yf6 e1 e3 e2 e5 e4 e6 e7 e8
   have hb5 : Below (w1.heap.size) w2 w5.drew := hb5.drew
   have by5 : Box w5.drew (w1.heap.size) [.int .i64 m.k, .int .i64 m.f, .int .i64 m.t, .int .i64 m.d, .int .i64 m.ba, .int .i64 m.bn, .slice a.AL a.nL a.cL, .int .i64 0, .int .i64 0, .slice none 0 0, .slice none 0 0, .int .i64 0, .int .i64 0, .slice none 0 0, .slice none 0 0, .int .i64 0, .slice none 0 0, .slice none 0 0] := by5
   obtain ⟨w4, hw4⟩ : ∃ w4, w4 = w5.drew := ⟨_, rfl⟩
   rw [← hw4] at hb5 by5
   rw [← hw4]
   clear hw4
   have hx5 := HX.out _ hb5
   have HI5 := HI.out _ (HB2.out _ hb5)
   have hs5 := hb5.size
   have hs2 := HS2.out
   have xb3 := (hx5.2 3 _ rfl).1
   have xb4 := (hx5.2 4 _ rfl).1
   have xb5 := (hx5.2 5 _ rfl).1
   have xb6 := (hx5.2 6 _ rfl).1
   go_wp2_with fail
   refine (rdigest_is (digB m.d) m.d rfl _).mono ?_
   rintro e w' ⟨rfl, rfl⟩
   cases hd : digB m.d with
   | false =>
    have HV : Hid (b = false) := by show b = false; rw [← HE.out, messB, HFO.out, hd]; simp
    clear hd
    go_wp2_with fail
    go_ret
    exact ⟨ret_bool HV.out.symm, HB2.out _ (hb5)⟩
   | true =>
    go_wp2_with fail
    refine (rbatch_is (batB m.ba m.bn m.L) m.ba m.bn a.AL a.cL a.nL m.L _ rfl HZ.out.zL HI5.rL).mono ?_
    rintro e w6 ⟨rfl, hb6⟩
    have hb7 : Below (w1.heap.size) w2 w6 := hb5.trans (hb6.mono (by omega))
    clear xb3 xb4 xb5 xb6
    cases hg : batB m.ba m.bn m.L with
    | false =>
     have HV : Hid (b = false) := by show b = false; rw [← HE.out, messB, HFO.out, hd, hg]; simp
     clear hd hg
     go_wp2_with fail
     go_ret
     exact ⟨ret_bool HV.out.symm, HB2.out _ (hb7)⟩
    | true =>
     by_cases hn : m.ba ≤ n
     ·have HVE : Hid (decide (⟨m.k, m.f, m.t, m.d, m.ba, m.bn, m.L, 0, 0, [], [], 0, 0, [], [], 0, [], []⟩ = m) = b) := by show decide _ = b; rw [← HE.out, messB, HID.out, HFO.out, HON.out, hd, hg, decide_eq_true hn]; simp
      clear hd hg
      have hx6 := HX.out _ hb7
      have hy6 := by5.below hb6 by5.1
      have mb4 := (hx6.2 4 _ rfl).1
      go_wp2_with (first
       | (refine wpList_load_boxG 48 _ rfl w1.heap.size rfl rfl [.int .i64 m.k, .int .i64 m.f, .int .i64 m.t, .int .i64 m.d, .int .i64 m.ba, .int .i64 m.bn, .slice a.AL a.nL a.cL, .int .i64 0, .int .i64 0, .slice none 0 0, .slice none 0 0, .int .i64 0, .int .i64 0, .slice none 0 0, .slice none 0 0, .int .i64 0, .slice none 0 0, .slice none 0 0] hy6 _ Tryz.underlying48 rfl (by kernel_rfl) ?_)
       | (refine wpList_load_boxG 48 _ rfl w.heap.size rfl rfl (msgC m a) hx6 _ Tryz.underlying48 rfl (by kernel_rfl) ?_))
      refine (reqMsg_is b ⟨m.k, m.f, m.t, m.d, m.ba, m.bn, m.L, 0, 0, [], [], 0, 0, [], [], 0, [], []⟩ m ⟨a.AL, a.nL, a.cL, none, 0, 0, none, 0, 0, none, 0, 0, none, 0, 0, none, 0, 0, none, 0, 0⟩ a _ HVE.out ⟨(HI.out _ (HB2.out _ hb7)).zL, (HI.out _ (HB2.out _ hb7)).rL, (HI.out _ (HB2.out _ hb7)).kL, (HI.out _ (HB2.out _ hb7)).xL, rfl, Rd.nil _ _, Nat.le_refl _, by simp [maxLen], rfl, Rd.nil _ _, Nat.le_refl _, by simp [maxLen], rfl, Rd.nil _ _, Nat.le_refl _, by simp [maxLen], rfl, Rd.nil _ _, Nat.le_refl _, by simp [maxLen], rfl, Rd.nil _ _, Nat.le_refl _, by simp [maxLen], rfl, Rd.nil _ _, Nat.le_refl _, by simp [maxLen]⟩ (HI.out _ (HB2.out _ hb7)) ⟨HF.out.sL, Nat.zero_le _, Nat.zero_le _, Nat.zero_le _, Nat.zero_le _, Nat.zero_le _, Nat.zero_le _⟩ HF.out).mono ?_
      rintro e w9 ⟨rfl, hb9⟩
      go_wp2_with fail
      go_ret
      exact ⟨rfl, (HB2.out _ hb7).trans (hb9.mono (HB2.out _ hb7).size)⟩
     ·have HV : Hid (b = false) := by show b = false; rw [← HE.out, messB, HFO.out, hd, hg, decide_eq_false hn]; simp
      clear hd hg
      have hx6 := HX.out _ hb7
      have mb4 := (hx6.2 4 _ rfl).1
      go_wp2_with fail
      go_ret
      exact ⟨ret_bool HV.out.symm, HB2.out _ (hb7)⟩
  have hk1 := hk
  clear hk
  by_cases hk : m.k = 3
  ·have e1 : (m.k == 1) = false := by simp [hk]
   have e3 : (m.k == 3) = true := by simp [hk]
   have e2 : (m.k == 2) = false := by simp [hk]
   have e5 : (m.k == 5) = false := by simp [hk]
   have e4 : (m.k == 4) = false := by simp [hk]
   have e6 : (m.k == 6) = false := by simp [hk]
   have e7 : (m.k == 7) = false := by simp [hk]
   have e8 : (m.k == 8) = false := by simp [hk]
   have HFO : Hid (formB m n = (digB m.d && (batB m.ba m.bn m.L && decide (m.ba ≤ n)))) := by show formB m n = _; unfold formB; simp [hk]
   have HON : Hid (onlyM m = ⟨m.k, m.f, m.t, m.d, m.ba, m.bn, m.L, 0, 0, [], [], 0, 0, [], [], 0, [], []⟩) := by show onlyM m = _; unfold onlyM zeroM; simp [hk]
   clear hk
   obtain ⟨w5, hw5⟩ : ∃ w5, w5 = ((((w2).setCell ⟨w1.heap.size, 3, none⟩ (.int .i64 m.d)).setCell ⟨w1.heap.size, 4, none⟩ (.int .i64 m.ba)).setCell ⟨w1.heap.size, 5, none⟩ (.int .i64 m.bn)).setCell ⟨w1.heap.size, 6, none⟩ (.slice a.AL a.nL a.cL) := ⟨_, rfl⟩
   have by5 : Box w5 (w1.heap.size) [.int .i64 m.k, .int .i64 m.f, .int .i64 m.t, .int .i64 m.d, .int .i64 m.ba, .int .i64 m.bn, .slice a.AL a.nL a.cL, .int .i64 0, .int .i64 0, .slice none 0 0, .slice none 0 0, .int .i64 0, .int .i64 0, .slice none 0 0, .slice none 0 0, .int .i64 0, .slice none 0 0, .slice none 0 0] := by rw [hw5]; exact ((((HY.out).set (by simp)).set (by simp)).set (by simp)).set (by simp)
   have hb5 : Below (w1.heap.size) w2 w5 := by rw [hw5]; exact ((((Below.refl (w1.heap.size) w2).setCell (by simp) _).setCell (by simp) _).setCell (by simp) _).setCell (by simp) _
   have xa3 := ((HX.out _ (Below.refl _ _)).2 3 _ rfl).1
   have ya3 := (HY.out.2 3 _ rfl).1
   have yf3 := (HY.out.2 3 _ rfl).2
   have xa4 := ((HX.out _ (Below.refl _ _)).2 4 _ rfl).1
   have ya4 := (HY.out.2 4 _ rfl).1
   have yf4 := (HY.out.2 4 _ rfl).2
   have xa5 := ((HX.out _ (Below.refl _ _)).2 5 _ rfl).1
   have ya5 := (HY.out.2 5 _ rfl).1
   have yf5 := (HY.out.2 5 _ rfl).2
   have xa6 := ((HX.out _ (Below.refl _ _)).2 6 _ rfl).1
   have ya6 := (HY.out.2 6 _ rfl).1
   have yf6 := (HY.out.2 6 _ rfl).2
   go_upto_region 8 with fail
   go_region
   go_upto_region 9 with fail
   rw [← hw5]
   clear hw5 xa3 ya3 yf3 xa4 ya4 yf4 xa5 ya5 yf5 xa6 ya6 yf6 e1 e3 e2 e5 e4 e6 e7 e8
   have hb5 : Below (w1.heap.size) w2 w5.drew := hb5.drew
   have by5 : Box w5.drew (w1.heap.size) [.int .i64 m.k, .int .i64 m.f, .int .i64 m.t, .int .i64 m.d, .int .i64 m.ba, .int .i64 m.bn, .slice a.AL a.nL a.cL, .int .i64 0, .int .i64 0, .slice none 0 0, .slice none 0 0, .int .i64 0, .int .i64 0, .slice none 0 0, .slice none 0 0, .int .i64 0, .slice none 0 0, .slice none 0 0] := by5
   obtain ⟨w4, hw4⟩ : ∃ w4, w4 = w5.drew := ⟨_, rfl⟩
   rw [← hw4] at hb5 by5
   rw [← hw4]
   clear hw4
   have hx5 := HX.out _ hb5
   have HI5 := HI.out _ (HB2.out _ hb5)
   have hs5 := hb5.size
   have hs2 := HS2.out
   have xb3 := (hx5.2 3 _ rfl).1
   have xb4 := (hx5.2 4 _ rfl).1
   have xb5 := (hx5.2 5 _ rfl).1
   have xb6 := (hx5.2 6 _ rfl).1
   go_wp2_with fail
   refine (rdigest_is (digB m.d) m.d rfl _).mono ?_
   rintro e w' ⟨rfl, rfl⟩
   cases hd : digB m.d with
   | false =>
    have HV : Hid (b = false) := by show b = false; rw [← HE.out, messB, HFO.out, hd]; simp
    clear hd
    go_wp2_with fail
    go_ret
    exact ⟨ret_bool HV.out.symm, HB2.out _ (hb5)⟩
   | true =>
    go_wp2_with fail
    refine (rbatch_is (batB m.ba m.bn m.L) m.ba m.bn a.AL a.cL a.nL m.L _ rfl HZ.out.zL HI5.rL).mono ?_
    rintro e w6 ⟨rfl, hb6⟩
    have hb7 : Below (w1.heap.size) w2 w6 := hb5.trans (hb6.mono (by omega))
    clear xb3 xb4 xb5 xb6
    cases hg : batB m.ba m.bn m.L with
    | false =>
     have HV : Hid (b = false) := by show b = false; rw [← HE.out, messB, HFO.out, hd, hg]; simp
     clear hd hg
     go_wp2_with fail
     go_ret
     exact ⟨ret_bool HV.out.symm, HB2.out _ (hb7)⟩
    | true =>
     by_cases hn : m.ba ≤ n
     ·have HVE : Hid (decide (⟨m.k, m.f, m.t, m.d, m.ba, m.bn, m.L, 0, 0, [], [], 0, 0, [], [], 0, [], []⟩ = m) = b) := by show decide _ = b; rw [← HE.out, messB, HID.out, HFO.out, HON.out, hd, hg, decide_eq_true hn]; simp
      clear hd hg
      have hx6 := HX.out _ hb7
      have hy6 := by5.below hb6 by5.1
      have mb4 := (hx6.2 4 _ rfl).1
      go_wp2_with (first
       | (refine wpList_load_boxG 48 _ rfl w1.heap.size rfl rfl [.int .i64 m.k, .int .i64 m.f, .int .i64 m.t, .int .i64 m.d, .int .i64 m.ba, .int .i64 m.bn, .slice a.AL a.nL a.cL, .int .i64 0, .int .i64 0, .slice none 0 0, .slice none 0 0, .int .i64 0, .int .i64 0, .slice none 0 0, .slice none 0 0, .int .i64 0, .slice none 0 0, .slice none 0 0] hy6 _ Tryz.underlying48 rfl (by kernel_rfl) ?_)
       | (refine wpList_load_boxG 48 _ rfl w.heap.size rfl rfl (msgC m a) hx6 _ Tryz.underlying48 rfl (by kernel_rfl) ?_))
      refine (reqMsg_is b ⟨m.k, m.f, m.t, m.d, m.ba, m.bn, m.L, 0, 0, [], [], 0, 0, [], [], 0, [], []⟩ m ⟨a.AL, a.nL, a.cL, none, 0, 0, none, 0, 0, none, 0, 0, none, 0, 0, none, 0, 0, none, 0, 0⟩ a _ HVE.out ⟨(HI.out _ (HB2.out _ hb7)).zL, (HI.out _ (HB2.out _ hb7)).rL, (HI.out _ (HB2.out _ hb7)).kL, (HI.out _ (HB2.out _ hb7)).xL, rfl, Rd.nil _ _, Nat.le_refl _, by simp [maxLen], rfl, Rd.nil _ _, Nat.le_refl _, by simp [maxLen], rfl, Rd.nil _ _, Nat.le_refl _, by simp [maxLen], rfl, Rd.nil _ _, Nat.le_refl _, by simp [maxLen], rfl, Rd.nil _ _, Nat.le_refl _, by simp [maxLen], rfl, Rd.nil _ _, Nat.le_refl _, by simp [maxLen]⟩ (HI.out _ (HB2.out _ hb7)) ⟨HF.out.sL, Nat.zero_le _, Nat.zero_le _, Nat.zero_le _, Nat.zero_le _, Nat.zero_le _, Nat.zero_le _⟩ HF.out).mono ?_
      rintro e w9 ⟨rfl, hb9⟩
      go_wp2_with fail
      go_ret
      exact ⟨rfl, (HB2.out _ hb7).trans (hb9.mono (HB2.out _ hb7).size)⟩
     ·have HV : Hid (b = false) := by show b = false; rw [← HE.out, messB, HFO.out, hd, hg, decide_eq_false hn]; simp
      clear hd hg
      have hx6 := HX.out _ hb7
      have mb4 := (hx6.2 4 _ rfl).1
      go_wp2_with fail
      go_ret
      exact ⟨ret_bool HV.out.symm, HB2.out _ (hb7)⟩
  have hk3 := hk
  clear hk
  by_cases hk : m.k = 2
  ·have e1 : (m.k == 1) = false := by simp [hk]
   have e3 : (m.k == 3) = false := by simp [hk]
   have e2 : (m.k == 2) = true := by simp [hk]
   have e5 : (m.k == 5) = false := by simp [hk]
   have e4 : (m.k == 4) = false := by simp [hk]
   have e6 : (m.k == 6) = false := by simp [hk]
   have e7 : (m.k == 7) = false := by simp [hk]
   have e8 : (m.k == 8) = false := by simp [hk]
   have HFO : Hid (formB m n = (digB m.d)) := by show formB m n = _; unfold formB; simp [hk]
   have HON : Hid (onlyM m = ⟨m.k, m.f, m.t, m.d, 0, 0, [], 0, 0, [], [], 0, 0, [], [], 0, [], []⟩) := by show onlyM m = _; unfold onlyM zeroM; simp [hk]
   clear hk
   obtain ⟨w5, hw5⟩ : ∃ w5, w5 = (w2).setCell ⟨w1.heap.size, 3, none⟩ (.int .i64 m.d) := ⟨_, rfl⟩
   have by5 : Box w5 (w1.heap.size) [.int .i64 m.k, .int .i64 m.f, .int .i64 m.t, .int .i64 m.d, .int .i64 0, .int .i64 0, .slice none 0 0, .int .i64 0, .int .i64 0, .slice none 0 0, .slice none 0 0, .int .i64 0, .int .i64 0, .slice none 0 0, .slice none 0 0, .int .i64 0, .slice none 0 0, .slice none 0 0] := by rw [hw5]; exact (HY.out).set (by simp)
   have hb5 : Below (w1.heap.size) w2 w5 := by rw [hw5]; exact (Below.refl (w1.heap.size) w2).setCell (by simp) _
   have xa3 := ((HX.out _ (Below.refl _ _)).2 3 _ rfl).1
   have ya3 := (HY.out.2 3 _ rfl).1
   have yf3 := (HY.out.2 3 _ rfl).2
   go_upto_region 13 with fail
   rw [← hw5]
   clear hw5 xa3 ya3 yf3 e1 e3 e2 e5 e4 e6 e7 e8
   have hx5 := HX.out _ hb5
   have HI5 := HI.out _ (HB2.out _ hb5)
   have hs5 := hb5.size
   have hs2 := HS2.out
   have xb3 := (hx5.2 3 _ rfl).1
   go_wp2_with fail
   refine (rdigest_is (digB m.d) m.d rfl _).mono ?_
   rintro e w' ⟨rfl, rfl⟩
   cases hd : digB m.d with
   | false =>
    have HV : Hid (b = false) := by show b = false; rw [← HE.out, messB, HFO.out, hd]; simp
    clear hd
    go_wp2_with fail
    go_ret
    exact ⟨ret_bool HV.out.symm, HB2.out _ (hb5)⟩
   | true =>
    have HVE : Hid (decide (⟨m.k, m.f, m.t, m.d, 0, 0, [], 0, 0, [], [], 0, 0, [], [], 0, [], []⟩ = m) = b) := by show decide _ = b; rw [← HE.out, messB, HID.out, HFO.out, HON.out, hd]; simp
    clear hd
    have hx6 := hx5
    have hy6 := by5
    clear xb3
    go_wp2_with (first
     | (refine wpList_load_boxG 48 _ rfl w1.heap.size rfl rfl [.int .i64 m.k, .int .i64 m.f, .int .i64 m.t, .int .i64 m.d, .int .i64 0, .int .i64 0, .slice none 0 0, .int .i64 0, .int .i64 0, .slice none 0 0, .slice none 0 0, .int .i64 0, .int .i64 0, .slice none 0 0, .slice none 0 0, .int .i64 0, .slice none 0 0, .slice none 0 0] hy6 _ Tryz.underlying48 rfl (by kernel_rfl) ?_)
     | (refine wpList_load_boxG 48 _ rfl w.heap.size rfl rfl (msgC m a) hx6 _ Tryz.underlying48 rfl (by kernel_rfl) ?_))
    refine (reqMsg_is b ⟨m.k, m.f, m.t, m.d, 0, 0, [], 0, 0, [], [], 0, 0, [], [], 0, [], []⟩ m ⟨none, 0, 0, none, 0, 0, none, 0, 0, none, 0, 0, none, 0, 0, none, 0, 0, none, 0, 0⟩ a _ HVE.out ⟨rfl, Rd.nil _ _, Nat.le_refl _, by simp [maxLen], rfl, Rd.nil _ _, Nat.le_refl _, by simp [maxLen], rfl, Rd.nil _ _, Nat.le_refl _, by simp [maxLen], rfl, Rd.nil _ _, Nat.le_refl _, by simp [maxLen], rfl, Rd.nil _ _, Nat.le_refl _, by simp [maxLen], rfl, Rd.nil _ _, Nat.le_refl _, by simp [maxLen], rfl, Rd.nil _ _, Nat.le_refl _, by simp [maxLen]⟩ (HI.out _ (HB2.out _ hb5)) ⟨Nat.zero_le _, Nat.zero_le _, Nat.zero_le _, Nat.zero_le _, Nat.zero_le _, Nat.zero_le _, Nat.zero_le _⟩ HF.out).mono ?_
    rintro e w9 ⟨rfl, hb9⟩
    go_wp2_with fail
    go_ret
    exact ⟨rfl, (HB2.out _ hb5).trans (hb9.mono (HB2.out _ hb5).size)⟩
  have hk2 := hk
  clear hk
  by_cases hk : m.k = 5
  ·have e1 : (m.k == 1) = false := by simp [hk]
   have e3 : (m.k == 3) = false := by simp [hk]
   have e2 : (m.k == 2) = false := by simp [hk]
   have e5 : (m.k == 5) = true := by simp [hk]
   have e4 : (m.k == 4) = false := by simp [hk]
   have e6 : (m.k == 6) = false := by simp [hk]
   have e7 : (m.k == 7) = false := by simp [hk]
   have e8 : (m.k == 8) = false := by simp [hk]
   have HFO : Hid (formB m n = (digB m.d)) := by show formB m n = _; unfold formB; simp [hk]
   have HON : Hid (onlyM m = ⟨m.k, m.f, m.t, m.d, 0, 0, [], 0, 0, [], [], 0, 0, [], [], 0, [], []⟩) := by show onlyM m = _; unfold onlyM zeroM; simp [hk]
   clear hk
   obtain ⟨w5, hw5⟩ : ∃ w5, w5 = (w2).setCell ⟨w1.heap.size, 3, none⟩ (.int .i64 m.d) := ⟨_, rfl⟩
   have by5 : Box w5 (w1.heap.size) [.int .i64 m.k, .int .i64 m.f, .int .i64 m.t, .int .i64 m.d, .int .i64 0, .int .i64 0, .slice none 0 0, .int .i64 0, .int .i64 0, .slice none 0 0, .slice none 0 0, .int .i64 0, .int .i64 0, .slice none 0 0, .slice none 0 0, .int .i64 0, .slice none 0 0, .slice none 0 0] := by rw [hw5]; exact (HY.out).set (by simp)
   have hb5 : Below (w1.heap.size) w2 w5 := by rw [hw5]; exact (Below.refl (w1.heap.size) w2).setCell (by simp) _
   have xa3 := ((HX.out _ (Below.refl _ _)).2 3 _ rfl).1
   have ya3 := (HY.out.2 3 _ rfl).1
   have yf3 := (HY.out.2 3 _ rfl).2
   go_upto_region 13 with fail
   rw [← hw5]
   clear hw5 xa3 ya3 yf3 e1 e3 e2 e5 e4 e6 e7 e8
   have hx5 := HX.out _ hb5
   have HI5 := HI.out _ (HB2.out _ hb5)
   have hs5 := hb5.size
   have hs2 := HS2.out
   have xb3 := (hx5.2 3 _ rfl).1
   go_wp2_with fail
   refine (rdigest_is (digB m.d) m.d rfl _).mono ?_
   rintro e w' ⟨rfl, rfl⟩
   cases hd : digB m.d with
   | false =>
    have HV : Hid (b = false) := by show b = false; rw [← HE.out, messB, HFO.out, hd]; simp
    clear hd
    go_wp2_with fail
    go_ret
    exact ⟨ret_bool HV.out.symm, HB2.out _ (hb5)⟩
   | true =>
    have HVE : Hid (decide (⟨m.k, m.f, m.t, m.d, 0, 0, [], 0, 0, [], [], 0, 0, [], [], 0, [], []⟩ = m) = b) := by show decide _ = b; rw [← HE.out, messB, HID.out, HFO.out, HON.out, hd]; simp
    clear hd
    have hx6 := hx5
    have hy6 := by5
    clear xb3
    go_wp2_with (first
     | (refine wpList_load_boxG 48 _ rfl w1.heap.size rfl rfl [.int .i64 m.k, .int .i64 m.f, .int .i64 m.t, .int .i64 m.d, .int .i64 0, .int .i64 0, .slice none 0 0, .int .i64 0, .int .i64 0, .slice none 0 0, .slice none 0 0, .int .i64 0, .int .i64 0, .slice none 0 0, .slice none 0 0, .int .i64 0, .slice none 0 0, .slice none 0 0] hy6 _ Tryz.underlying48 rfl (by kernel_rfl) ?_)
     | (refine wpList_load_boxG 48 _ rfl w.heap.size rfl rfl (msgC m a) hx6 _ Tryz.underlying48 rfl (by kernel_rfl) ?_))
    refine (reqMsg_is b ⟨m.k, m.f, m.t, m.d, 0, 0, [], 0, 0, [], [], 0, 0, [], [], 0, [], []⟩ m ⟨none, 0, 0, none, 0, 0, none, 0, 0, none, 0, 0, none, 0, 0, none, 0, 0, none, 0, 0⟩ a _ HVE.out ⟨rfl, Rd.nil _ _, Nat.le_refl _, by simp [maxLen], rfl, Rd.nil _ _, Nat.le_refl _, by simp [maxLen], rfl, Rd.nil _ _, Nat.le_refl _, by simp [maxLen], rfl, Rd.nil _ _, Nat.le_refl _, by simp [maxLen], rfl, Rd.nil _ _, Nat.le_refl _, by simp [maxLen], rfl, Rd.nil _ _, Nat.le_refl _, by simp [maxLen], rfl, Rd.nil _ _, Nat.le_refl _, by simp [maxLen]⟩ (HI.out _ (HB2.out _ hb5)) ⟨Nat.zero_le _, Nat.zero_le _, Nat.zero_le _, Nat.zero_le _, Nat.zero_le _, Nat.zero_le _, Nat.zero_le _⟩ HF.out).mono ?_
    rintro e w9 ⟨rfl, hb9⟩
    go_wp2_with fail
    go_ret
    exact ⟨rfl, (HB2.out _ hb5).trans (hb9.mono (HB2.out _ hb5).size)⟩
  have hk5 := hk
  clear hk
  by_cases hk : m.k = 4
  ·have e1 : (m.k == 1) = false := by simp [hk]
   have e3 : (m.k == 3) = false := by simp [hk]
   have e2 : (m.k == 2) = false := by simp [hk]
   have e5 : (m.k == 5) = false := by simp [hk]
   have e4 : (m.k == 4) = true := by simp [hk]
   have e6 : (m.k == 6) = false := by simp [hk]
   have e7 : (m.k == 7) = false := by simp [hk]
   have e8 : (m.k == 8) = false := by simp [hk]
   have HFO : Hid (formB m n = (digB m.d && (hdrB m.ha m.hr m.hB m.hP n && decide (m.ha = m.f)))) := by show formB m n = _; unfold formB; simp [hk]
   have HON : Hid (onlyM m = ⟨m.k, m.f, m.t, m.d, 0, 0, [], m.ha, m.hr, m.hB, m.hP, 0, 0, [], [], 0, [], []⟩) := by show onlyM m = _; unfold onlyM zeroM; simp [hk]
   clear hk
   obtain ⟨w5, hw5⟩ : ∃ w5, w5 = (((((w2).setCell ⟨w1.heap.size, 3, none⟩ (.int .i64 m.d)).setCell ⟨w1.heap.size, 7, none⟩ (.int .i64 m.ha)).setCell ⟨w1.heap.size, 8, none⟩ (.int .i64 m.hr)).setCell ⟨w1.heap.size, 9, none⟩ (.slice a.AhB a.nhB a.chB)).setCell ⟨w1.heap.size, 10, none⟩ (.slice a.AhP a.nhP a.chP) := ⟨_, rfl⟩
   have by5 : Box w5 (w1.heap.size) [.int .i64 m.k, .int .i64 m.f, .int .i64 m.t, .int .i64 m.d, .int .i64 0, .int .i64 0, .slice none 0 0, .int .i64 m.ha, .int .i64 m.hr, .slice a.AhB a.nhB a.chB, .slice a.AhP a.nhP a.chP, .int .i64 0, .int .i64 0, .slice none 0 0, .slice none 0 0, .int .i64 0, .slice none 0 0, .slice none 0 0] := by rw [hw5]; exact (((((HY.out).set (by simp)).set (by simp)).set (by simp)).set (by simp)).set (by simp)
   have hb5 : Below (w1.heap.size) w2 w5 := by rw [hw5]; exact (((((Below.refl (w1.heap.size) w2).setCell (by simp) _).setCell (by simp) _).setCell (by simp) _).setCell (by simp) _).setCell (by simp) _
   have xa3 := ((HX.out _ (Below.refl _ _)).2 3 _ rfl).1
   have ya3 := (HY.out.2 3 _ rfl).1
   have yf3 := (HY.out.2 3 _ rfl).2
   have xa7 := ((HX.out _ (Below.refl _ _)).2 7 _ rfl).1
   have ya7 := (HY.out.2 7 _ rfl).1
   have yf7 := (HY.out.2 7 _ rfl).2
   have xa8 := ((HX.out _ (Below.refl _ _)).2 8 _ rfl).1
   have ya8 := (HY.out.2 8 _ rfl).1
   have yf8 := (HY.out.2 8 _ rfl).2
   have xa9 := ((HX.out _ (Below.refl _ _)).2 9 _ rfl).1
   have ya9 := (HY.out.2 9 _ rfl).1
   have yf9 := (HY.out.2 9 _ rfl).2
   have xa10 := ((HX.out _ (Below.refl _ _)).2 10 _ rfl).1
   have ya10 := (HY.out.2 10 _ rfl).1
   have yf10 := (HY.out.2 10 _ rfl).2
   go_upto_region 15 with fail
   go_region
   go_upto_region 16 with fail
   rw [← hw5]
   clear hw5 xa3 ya3 yf3 xa7 ya7 yf7 xa8 ya8 yf8 xa9 ya9 yf9 xa10 ya10 yf10 e1 e3 e2 e5 e4 e6 e7 e8
   have hb5 : Below (w1.heap.size) w2 w5.drew := hb5.drew
   have by5 : Box w5.drew (w1.heap.size) [.int .i64 m.k, .int .i64 m.f, .int .i64 m.t, .int .i64 m.d, .int .i64 0, .int .i64 0, .slice none 0 0, .int .i64 m.ha, .int .i64 m.hr, .slice a.AhB a.nhB a.chB, .slice a.AhP a.nhP a.chP, .int .i64 0, .int .i64 0, .slice none 0 0, .slice none 0 0, .int .i64 0, .slice none 0 0, .slice none 0 0] := by5
   obtain ⟨w4, hw4⟩ : ∃ w4, w4 = w5.drew := ⟨_, rfl⟩
   rw [← hw4] at hb5 by5
   rw [← hw4]
   clear hw4
   have hx5 := HX.out _ hb5
   have HI5 := HI.out _ (HB2.out _ hb5)
   have hs5 := hb5.size
   have hs2 := HS2.out
   have xb3 := (hx5.2 3 _ rfl).1
   have xb7 := (hx5.2 7 _ rfl).1
   have xb8 := (hx5.2 8 _ rfl).1
   have xb9 := (hx5.2 9 _ rfl).1
   have xb10 := (hx5.2 10 _ rfl).1
   go_wp2_with fail
   refine (rdigest_is (digB m.d) m.d rfl _).mono ?_
   rintro e w' ⟨rfl, rfl⟩
   cases hd : digB m.d with
   | false =>
    have HV : Hid (b = false) := by show b = false; rw [← HE.out, messB, HFO.out, hd]; simp
    clear hd
    go_wp2_with fail
    go_ret
    exact ⟨ret_bool HV.out.symm, HB2.out _ (hb5)⟩
   | true =>
    go_wp2_with fail
    refine (rhdr_is (hdrB m.ha m.hr m.hB m.hP n) m.ha m.hr a.AhB a.chB a.nhB m.hB a.AhP a.chP a.nhP m.hP n _ rfl HZ.out.zhB HI5.rhB (by have := HF.out.shB; omega) HZ.out.zhP HI5.rhP (by have := HF.out.shP; omega)).mono ?_
    rintro e w6 ⟨rfl, hb6⟩
    have hb7 : Below (w1.heap.size) w2 w6 := hb5.trans (hb6.mono (by omega))
    clear xb3 xb7 xb8 xb9 xb10
    cases hg : hdrB m.ha m.hr m.hB m.hP n with
    | false =>
     have HV : Hid (b = false) := by show b = false; rw [← HE.out, messB, HFO.out, hd, hg]; simp
     clear hd hg
     go_wp2_with fail
     go_ret
     exact ⟨ret_bool HV.out.symm, HB2.out _ (hb7)⟩
    | true =>
     by_cases hn : m.ha = m.f
     ·have HVE : Hid (decide (⟨m.k, m.f, m.t, m.d, 0, 0, [], m.ha, m.hr, m.hB, m.hP, 0, 0, [], [], 0, [], []⟩ = m) = b) := by show decide _ = b; rw [← HE.out, messB, HID.out, HFO.out, HON.out, hd, hg, decide_eq_true hn]; simp
      have jn : (m.ha == m.f) = true := by simp [hn]
      clear hd hg hn
      have hx6 := HX.out _ hb7
      have hy6 := by5.below hb6 by5.1
      have mb7 := (hx6.2 7 _ rfl).1
      have mb1 := (hx6.2 1 _ rfl).1
      go_wp2_with (first
       | (refine wpList_load_boxG 48 _ rfl w1.heap.size rfl rfl [.int .i64 m.k, .int .i64 m.f, .int .i64 m.t, .int .i64 m.d, .int .i64 0, .int .i64 0, .slice none 0 0, .int .i64 m.ha, .int .i64 m.hr, .slice a.AhB a.nhB a.chB, .slice a.AhP a.nhP a.chP, .int .i64 0, .int .i64 0, .slice none 0 0, .slice none 0 0, .int .i64 0, .slice none 0 0, .slice none 0 0] hy6 _ Tryz.underlying48 rfl (by kernel_rfl) ?_)
       | (refine wpList_load_boxG 48 _ rfl w.heap.size rfl rfl (msgC m a) hx6 _ Tryz.underlying48 rfl (by kernel_rfl) ?_))
      refine (reqMsg_is b ⟨m.k, m.f, m.t, m.d, 0, 0, [], m.ha, m.hr, m.hB, m.hP, 0, 0, [], [], 0, [], []⟩ m ⟨none, 0, 0, a.AhB, a.nhB, a.chB, a.AhP, a.nhP, a.chP, none, 0, 0, none, 0, 0, none, 0, 0, none, 0, 0⟩ a _ HVE.out ⟨rfl, Rd.nil _ _, Nat.le_refl _, by simp [maxLen], (HI.out _ (HB2.out _ hb7)).zhB, (HI.out _ (HB2.out _ hb7)).rhB, (HI.out _ (HB2.out _ hb7)).khB, (HI.out _ (HB2.out _ hb7)).xhB, (HI.out _ (HB2.out _ hb7)).zhP, (HI.out _ (HB2.out _ hb7)).rhP, (HI.out _ (HB2.out _ hb7)).khP, (HI.out _ (HB2.out _ hb7)).xhP, rfl, Rd.nil _ _, Nat.le_refl _, by simp [maxLen], rfl, Rd.nil _ _, Nat.le_refl _, by simp [maxLen], rfl, Rd.nil _ _, Nat.le_refl _, by simp [maxLen], rfl, Rd.nil _ _, Nat.le_refl _, by simp [maxLen]⟩ (HI.out _ (HB2.out _ hb7)) ⟨Nat.zero_le _, HF.out.shB, HF.out.shP, Nat.zero_le _, Nat.zero_le _, Nat.zero_le _, Nat.zero_le _⟩ HF.out).mono ?_
      rintro e w9 ⟨rfl, hb9⟩
      go_wp2_with fail
      go_ret
      exact ⟨rfl, (HB2.out _ hb7).trans (hb9.mono (HB2.out _ hb7).size)⟩
     ·have HV : Hid (b = false) := by show b = false; rw [← HE.out, messB, HFO.out, hd, hg, decide_eq_false hn]; simp
      have jn : (m.ha == m.f) = false := by simp [hn]
      clear hd hg hn
      have hx6 := HX.out _ hb7
      have mb7 := (hx6.2 7 _ rfl).1
      have mb1 := (hx6.2 1 _ rfl).1
      go_wp2_with fail
      go_ret
      exact ⟨ret_bool HV.out.symm, HB2.out _ (hb7)⟩
  have hk4 := hk
  clear hk
  by_cases hk : m.k = 6
  ·have e1 : (m.k == 1) = false := by simp [hk]
   have e3 : (m.k == 3) = false := by simp [hk]
   have e2 : (m.k == 2) = false := by simp [hk]
   have e5 : (m.k == 5) = false := by simp [hk]
   have e4 : (m.k == 4) = false := by simp [hk]
   have e6 : (m.k == 6) = true := by simp [hk]
   have e7 : (m.k == 7) = false := by simp [hk]
   have e8 : (m.k == 8) = false := by simp [hk]
   have HFO : Hid (formB m n = (certB m.ca m.cr m.cB m.cP m.cd m.cS n)) := by show formB m n = _; unfold formB; simp [hk]
   have HON : Hid (onlyM m = ⟨m.k, m.f, m.t, 0, 0, 0, [], 0, 0, [], [], m.ca, m.cr, m.cB, m.cP, m.cd, m.cS, []⟩) := by show onlyM m = _; unfold onlyM zeroM; simp [hk]
   clear hk
   obtain ⟨w5, hw5⟩ : ∃ w5, w5 = ((((((w2).setCell ⟨w1.heap.size, 11, none⟩ (.int .i64 m.ca)).setCell ⟨w1.heap.size, 12, none⟩ (.int .i64 m.cr)).setCell ⟨w1.heap.size, 13, none⟩ (.slice a.AcB a.ncB a.ccB)).setCell ⟨w1.heap.size, 14, none⟩ (.slice a.AcP a.ncP a.ccP)).setCell ⟨w1.heap.size, 15, none⟩ (.int .i64 m.cd)).setCell ⟨w1.heap.size, 16, none⟩ (.slice a.AcS a.ncS a.ccS) := ⟨_, rfl⟩
   have by5 : Box w5 (w1.heap.size) [.int .i64 m.k, .int .i64 m.f, .int .i64 m.t, .int .i64 0, .int .i64 0, .int .i64 0, .slice none 0 0, .int .i64 0, .int .i64 0, .slice none 0 0, .slice none 0 0, .int .i64 m.ca, .int .i64 m.cr, .slice a.AcB a.ncB a.ccB, .slice a.AcP a.ncP a.ccP, .int .i64 m.cd, .slice a.AcS a.ncS a.ccS, .slice none 0 0] := by rw [hw5]; exact ((((((HY.out).set (by simp)).set (by simp)).set (by simp)).set (by simp)).set (by simp)).set (by simp)
   have hb5 : Below (w1.heap.size) w2 w5 := by rw [hw5]; exact ((((((Below.refl (w1.heap.size) w2).setCell (by simp) _).setCell (by simp) _).setCell (by simp) _).setCell (by simp) _).setCell (by simp) _).setCell (by simp) _
   have xa11 := ((HX.out _ (Below.refl _ _)).2 11 _ rfl).1
   have ya11 := (HY.out.2 11 _ rfl).1
   have yf11 := (HY.out.2 11 _ rfl).2
   have xa12 := ((HX.out _ (Below.refl _ _)).2 12 _ rfl).1
   have ya12 := (HY.out.2 12 _ rfl).1
   have yf12 := (HY.out.2 12 _ rfl).2
   have xa13 := ((HX.out _ (Below.refl _ _)).2 13 _ rfl).1
   have ya13 := (HY.out.2 13 _ rfl).1
   have yf13 := (HY.out.2 13 _ rfl).2
   have xa14 := ((HX.out _ (Below.refl _ _)).2 14 _ rfl).1
   have ya14 := (HY.out.2 14 _ rfl).1
   have yf14 := (HY.out.2 14 _ rfl).2
   have xa15 := ((HX.out _ (Below.refl _ _)).2 15 _ rfl).1
   have ya15 := (HY.out.2 15 _ rfl).1
   have yf15 := (HY.out.2 15 _ rfl).2
   have xa16 := ((HX.out _ (Below.refl _ _)).2 16 _ rfl).1
   have ya16 := (HY.out.2 16 _ rfl).1
   have yf16 := (HY.out.2 16 _ rfl).2
   go_upto_region 19 with fail
   rw [← hw5]
   clear hw5 xa11 ya11 yf11 xa12 ya12 yf12 xa13 ya13 yf13 xa14 ya14 yf14 xa15 ya15 yf15 xa16 ya16 yf16 e1 e3 e2 e5 e4 e6 e7 e8
   have hx5 := HX.out _ hb5
   have HI5 := HI.out _ (HB2.out _ hb5)
   have hs5 := hb5.size
   have hs2 := HS2.out
   have xb11 := (hx5.2 11 _ rfl).1
   have xb12 := (hx5.2 12 _ rfl).1
   have xb13 := (hx5.2 13 _ rfl).1
   have xb14 := (hx5.2 14 _ rfl).1
   have xb15 := (hx5.2 15 _ rfl).1
   have xb16 := (hx5.2 16 _ rfl).1
   go_wp2_with fail
   refine (rcert_is (certB m.ca m.cr m.cB m.cP m.cd m.cS n) m.ca m.cr a.AcB a.ccB a.ncB m.cB a.AcP a.ccP a.ncP m.cP m.cd a.AcS a.ccS a.ncS m.cS n _ rfl HZ.out.zcB HI5.rcB (by have := HF.out.scB; omega) HZ.out.zcP HI5.rcP (by have := HF.out.scP; omega) HZ.out.zcS HI5.rcS (by have := HF.out.scS; omega)).mono ?_
   rintro e w6 ⟨rfl, hb6⟩
   have hb7 : Below (w1.heap.size) w2 w6 := hb5.trans (hb6.mono (by omega))
   clear xb11 xb12 xb13 xb14 xb15 xb16
   cases hg : certB m.ca m.cr m.cB m.cP m.cd m.cS n with
   | false =>
    have HV : Hid (b = false) := by show b = false; rw [← HE.out, messB, HFO.out, hg]; simp
    clear hg
    go_wp2_with fail
    go_ret
    exact ⟨ret_bool HV.out.symm, HB2.out _ (hb7)⟩
   | true =>
    have HVE : Hid (decide (⟨m.k, m.f, m.t, 0, 0, 0, [], 0, 0, [], [], m.ca, m.cr, m.cB, m.cP, m.cd, m.cS, []⟩ = m) = b) := by show decide _ = b; rw [← HE.out, messB, HID.out, HFO.out, HON.out, hg]; simp
    clear hg
    have hx6 := HX.out _ hb7
    have hy6 := by5.below hb6 by5.1
    go_wp2_with (first
     | (refine wpList_load_boxG 48 _ rfl w1.heap.size rfl rfl [.int .i64 m.k, .int .i64 m.f, .int .i64 m.t, .int .i64 0, .int .i64 0, .int .i64 0, .slice none 0 0, .int .i64 0, .int .i64 0, .slice none 0 0, .slice none 0 0, .int .i64 m.ca, .int .i64 m.cr, .slice a.AcB a.ncB a.ccB, .slice a.AcP a.ncP a.ccP, .int .i64 m.cd, .slice a.AcS a.ncS a.ccS, .slice none 0 0] hy6 _ Tryz.underlying48 rfl (by kernel_rfl) ?_)
     | (refine wpList_load_boxG 48 _ rfl w.heap.size rfl rfl (msgC m a) hx6 _ Tryz.underlying48 rfl (by kernel_rfl) ?_))
    refine (reqMsg_is b ⟨m.k, m.f, m.t, 0, 0, 0, [], 0, 0, [], [], m.ca, m.cr, m.cB, m.cP, m.cd, m.cS, []⟩ m ⟨none, 0, 0, none, 0, 0, none, 0, 0, a.AcB, a.ncB, a.ccB, a.AcP, a.ncP, a.ccP, a.AcS, a.ncS, a.ccS, none, 0, 0⟩ a _ HVE.out ⟨rfl, Rd.nil _ _, Nat.le_refl _, by simp [maxLen], rfl, Rd.nil _ _, Nat.le_refl _, by simp [maxLen], rfl, Rd.nil _ _, Nat.le_refl _, by simp [maxLen], (HI.out _ (HB2.out _ hb7)).zcB, (HI.out _ (HB2.out _ hb7)).rcB, (HI.out _ (HB2.out _ hb7)).kcB, (HI.out _ (HB2.out _ hb7)).xcB, (HI.out _ (HB2.out _ hb7)).zcP, (HI.out _ (HB2.out _ hb7)).rcP, (HI.out _ (HB2.out _ hb7)).kcP, (HI.out _ (HB2.out _ hb7)).xcP, (HI.out _ (HB2.out _ hb7)).zcS, (HI.out _ (HB2.out _ hb7)).rcS, (HI.out _ (HB2.out _ hb7)).kcS, (HI.out _ (HB2.out _ hb7)).xcS, rfl, Rd.nil _ _, Nat.le_refl _, by simp [maxLen]⟩ (HI.out _ (HB2.out _ hb7)) ⟨Nat.zero_le _, Nat.zero_le _, Nat.zero_le _, HF.out.scB, HF.out.scP, HF.out.scS, Nat.zero_le _⟩ HF.out).mono ?_
    rintro e w9 ⟨rfl, hb9⟩
    go_wp2_with fail
    go_ret
    exact ⟨rfl, (HB2.out _ hb7).trans (hb9.mono (HB2.out _ hb7).size)⟩
  have hk6 := hk
  clear hk
  by_cases hk : m.k = 7
  ·have e1 : (m.k == 1) = false := by simp [hk]
   have e3 : (m.k == 3) = false := by simp [hk]
   have e2 : (m.k == 2) = false := by simp [hk]
   have e5 : (m.k == 5) = false := by simp [hk]
   have e4 : (m.k == 4) = false := by simp [hk]
   have e6 : (m.k == 6) = false := by simp [hk]
   have e7 : (m.k == 7) = true := by simp [hk]
   have e8 : (m.k == 8) = false := by simp [hk]
   have HFO : Hid (formB m n = (decide (1 ≤ m.D.length) && digsB m.D 16)) := by show formB m n = _; unfold formB; simp [hk]
   have HON : Hid (onlyM m = ⟨m.k, m.f, m.t, 0, 0, 0, [], 0, 0, [], [], 0, 0, [], [], 0, [], m.D⟩) := by show onlyM m = _; unfold onlyM zeroM; simp [hk]
   clear hk
   obtain ⟨w5, hw5⟩ : ∃ w5, w5 = (w2).setCell ⟨w1.heap.size, 17, none⟩ (.slice a.AD a.nD a.cD) := ⟨_, rfl⟩
   have by5 : Box w5 (w1.heap.size) [.int .i64 m.k, .int .i64 m.f, .int .i64 m.t, .int .i64 0, .int .i64 0, .int .i64 0, .slice none 0 0, .int .i64 0, .int .i64 0, .slice none 0 0, .slice none 0 0, .int .i64 0, .int .i64 0, .slice none 0 0, .slice none 0 0, .int .i64 0, .slice none 0 0, .slice a.AD a.nD a.cD] := by rw [hw5]; exact (HY.out).set (by simp)
   have hb5 : Below (w1.heap.size) w2 w5 := by rw [hw5]; exact (Below.refl (w1.heap.size) w2).setCell (by simp) _
   have xa17 := ((HX.out _ (Below.refl _ _)).2 17 _ rfl).1
   have ya17 := (HY.out.2 17 _ rfl).1
   have yf17 := (HY.out.2 17 _ rfl).2
   go_upto_region 23 with fail
   rw [← hw5]
   clear hw5 xa17 ya17 yf17 e1 e3 e2 e5 e4 e6 e7 e8
   have hx5 := HX.out _ hb5
   have HI5 := HI.out _ (HB2.out _ hb5)
   have hs5 := hb5.size
   have hs2 := HS2.out
   have xb17 := (hx5.2 17 _ rfl).1
   cases hl : decide (1 ≤ m.D.length) with
   | false =>
    have HV : Hid (b = false) := by show b = false; rw [← HE.out, messB, HFO.out, hl]; simp
    have i1 : ¬ (1 ≤ (a.nD : Int)) := by have := of_decide_eq_false hl; have := HZ.out.zD; omega
    clear hl
    go_wp2_with fail
    go_ret
    exact ⟨ret_bool HV.out.symm, HB2.out _ (hb5)⟩
   | true =>
    have i1 : 1 ≤ (a.nD : Int) := by have := of_decide_eq_true hl; have := HZ.out.zD; omega
    go_wp2_with fail
    refine (rdigs_is (digsB m.D 16) a.AD a.cD a.nD m.D 16 _ rfl HZ.out.zD HI5.rD (by have := HF.out.sD; omega)).mono ?_
    rintro e w6 ⟨rfl, dd, rfl⟩
    cases hg : digsB m.D 16 with
    | false =>
     have HV : Hid (b = false) := by show b = false; rw [← HE.out, messB, HFO.out, hl, hg]; simp
     clear hl hg
     go_wp2_with fail
     go_ret
     exact ⟨ret_bool HV.out.symm, below_n (HB2.out _ hb5) _⟩
    | true =>
     have HVE : Hid (decide (⟨m.k, m.f, m.t, 0, 0, 0, [], 0, 0, [], [], 0, 0, [], [], 0, [], m.D⟩ = m) = b) := by show decide _ = b; rw [← HE.out, messB, HID.out, HFO.out, HON.out, hl, hg]; simp
     clear hl hg
     have hb6 : Below (w1.heap.size) w2 (w5.drewN dd) := below_n hb5 dd
     have hx6 := HX.out _ hb6
     have hy6 : Box (w5.drewN dd) (w1.heap.size) [.int .i64 m.k, .int .i64 m.f, .int .i64 m.t, .int .i64 0, .int .i64 0, .int .i64 0, .slice none 0 0, .int .i64 0, .int .i64 0, .slice none 0 0, .slice none 0 0, .int .i64 0, .int .i64 0, .slice none 0 0, .slice none 0 0, .int .i64 0, .slice none 0 0, .slice a.AD a.nD a.cD] := by5
     clear xb17
     go_wp2_with (first
      | (refine wpList_load_boxG 48 _ rfl w1.heap.size rfl rfl [.int .i64 m.k, .int .i64 m.f, .int .i64 m.t, .int .i64 0, .int .i64 0, .int .i64 0, .slice none 0 0, .int .i64 0, .int .i64 0, .slice none 0 0, .slice none 0 0, .int .i64 0, .int .i64 0, .slice none 0 0, .slice none 0 0, .int .i64 0, .slice none 0 0, .slice a.AD a.nD a.cD] hy6 _ Tryz.underlying48 rfl (by kernel_rfl) ?_)
      | (refine wpList_load_boxG 48 _ rfl w.heap.size rfl rfl (msgC m a) hx6 _ Tryz.underlying48 rfl (by kernel_rfl) ?_))
     refine (reqMsg_is b ⟨m.k, m.f, m.t, 0, 0, 0, [], 0, 0, [], [], 0, 0, [], [], 0, [], m.D⟩ m ⟨none, 0, 0, none, 0, 0, none, 0, 0, none, 0, 0, none, 0, 0, none, 0, 0, a.AD, a.nD, a.cD⟩ a _ HVE.out ⟨rfl, Rd.nil _ _, Nat.le_refl _, by simp [maxLen], rfl, Rd.nil _ _, Nat.le_refl _, by simp [maxLen], rfl, Rd.nil _ _, Nat.le_refl _, by simp [maxLen], rfl, Rd.nil _ _, Nat.le_refl _, by simp [maxLen], rfl, Rd.nil _ _, Nat.le_refl _, by simp [maxLen], rfl, Rd.nil _ _, Nat.le_refl _, by simp [maxLen], (HI.out _ (HB2.out _ hb6)).zD, (HI.out _ (HB2.out _ hb6)).rD, (HI.out _ (HB2.out _ hb6)).kD, (HI.out _ (HB2.out _ hb6)).xD⟩ (HI.out _ (HB2.out _ hb6)) ⟨Nat.zero_le _, Nat.zero_le _, Nat.zero_le _, Nat.zero_le _, Nat.zero_le _, Nat.zero_le _, HF.out.sD⟩ HF.out).mono ?_
     rintro e w9 ⟨rfl, hb9⟩
     go_wp2_with fail
     go_ret
     exact ⟨rfl, (HB2.out _ hb6).trans (hb9.mono (HB2.out _ hb6).size)⟩
  have hk7 := hk
  clear hk
  by_cases hk : m.k = 8
  ·have e1 : (m.k == 1) = false := by simp [hk]
   have e3 : (m.k == 3) = false := by simp [hk]
   have e2 : (m.k == 2) = false := by simp [hk]
   have e5 : (m.k == 5) = false := by simp [hk]
   have e4 : (m.k == 4) = false := by simp [hk]
   have e6 : (m.k == 6) = false := by simp [hk]
   have e7 : (m.k == 7) = false := by simp [hk]
   have e8 : (m.k == 8) = true := by simp [hk]
   have HFO : Hid (formB m n = (decide (1 ≤ m.D.length) && digsB m.D 16)) := by show formB m n = _; unfold formB; simp [hk]
   have HON : Hid (onlyM m = ⟨m.k, m.f, m.t, 0, 0, 0, [], 0, 0, [], [], 0, 0, [], [], 0, [], m.D⟩) := by show onlyM m = _; unfold onlyM zeroM; simp [hk]
   clear hk
   obtain ⟨w5, hw5⟩ : ∃ w5, w5 = (w2).setCell ⟨w1.heap.size, 17, none⟩ (.slice a.AD a.nD a.cD) := ⟨_, rfl⟩
   have by5 : Box w5 (w1.heap.size) [.int .i64 m.k, .int .i64 m.f, .int .i64 m.t, .int .i64 0, .int .i64 0, .int .i64 0, .slice none 0 0, .int .i64 0, .int .i64 0, .slice none 0 0, .slice none 0 0, .int .i64 0, .int .i64 0, .slice none 0 0, .slice none 0 0, .int .i64 0, .slice none 0 0, .slice a.AD a.nD a.cD] := by rw [hw5]; exact (HY.out).set (by simp)
   have hb5 : Below (w1.heap.size) w2 w5 := by rw [hw5]; exact (Below.refl (w1.heap.size) w2).setCell (by simp) _
   have xa17 := ((HX.out _ (Below.refl _ _)).2 17 _ rfl).1
   have ya17 := (HY.out.2 17 _ rfl).1
   have yf17 := (HY.out.2 17 _ rfl).2
   go_upto_region 23 with fail
   rw [← hw5]
   clear hw5 xa17 ya17 yf17 e1 e3 e2 e5 e4 e6 e7 e8
   have hx5 := HX.out _ hb5
   have HI5 := HI.out _ (HB2.out _ hb5)
   have hs5 := hb5.size
   have hs2 := HS2.out
   have xb17 := (hx5.2 17 _ rfl).1
   cases hl : decide (1 ≤ m.D.length) with
   | false =>
    have HV : Hid (b = false) := by show b = false; rw [← HE.out, messB, HFO.out, hl]; simp
    have i1 : ¬ (1 ≤ (a.nD : Int)) := by have := of_decide_eq_false hl; have := HZ.out.zD; omega
    clear hl
    go_wp2_with fail
    go_ret
    exact ⟨ret_bool HV.out.symm, HB2.out _ (hb5)⟩
   | true =>
    have i1 : 1 ≤ (a.nD : Int) := by have := of_decide_eq_true hl; have := HZ.out.zD; omega
    go_wp2_with fail
    refine (rdigs_is (digsB m.D 16) a.AD a.cD a.nD m.D 16 _ rfl HZ.out.zD HI5.rD (by have := HF.out.sD; omega)).mono ?_
    rintro e w6 ⟨rfl, dd, rfl⟩
    cases hg : digsB m.D 16 with
    | false =>
     have HV : Hid (b = false) := by show b = false; rw [← HE.out, messB, HFO.out, hl, hg]; simp
     clear hl hg
     go_wp2_with fail
     go_ret
     exact ⟨ret_bool HV.out.symm, below_n (HB2.out _ hb5) _⟩
    | true =>
     have HVE : Hid (decide (⟨m.k, m.f, m.t, 0, 0, 0, [], 0, 0, [], [], 0, 0, [], [], 0, [], m.D⟩ = m) = b) := by show decide _ = b; rw [← HE.out, messB, HID.out, HFO.out, HON.out, hl, hg]; simp
     clear hl hg
     have hb6 : Below (w1.heap.size) w2 (w5.drewN dd) := below_n hb5 dd
     have hx6 := HX.out _ hb6
     have hy6 : Box (w5.drewN dd) (w1.heap.size) [.int .i64 m.k, .int .i64 m.f, .int .i64 m.t, .int .i64 0, .int .i64 0, .int .i64 0, .slice none 0 0, .int .i64 0, .int .i64 0, .slice none 0 0, .slice none 0 0, .int .i64 0, .int .i64 0, .slice none 0 0, .slice none 0 0, .int .i64 0, .slice none 0 0, .slice a.AD a.nD a.cD] := by5
     clear xb17
     go_wp2_with (first
      | (refine wpList_load_boxG 48 _ rfl w1.heap.size rfl rfl [.int .i64 m.k, .int .i64 m.f, .int .i64 m.t, .int .i64 0, .int .i64 0, .int .i64 0, .slice none 0 0, .int .i64 0, .int .i64 0, .slice none 0 0, .slice none 0 0, .int .i64 0, .int .i64 0, .slice none 0 0, .slice none 0 0, .int .i64 0, .slice none 0 0, .slice a.AD a.nD a.cD] hy6 _ Tryz.underlying48 rfl (by kernel_rfl) ?_)
      | (refine wpList_load_boxG 48 _ rfl w.heap.size rfl rfl (msgC m a) hx6 _ Tryz.underlying48 rfl (by kernel_rfl) ?_))
     refine (reqMsg_is b ⟨m.k, m.f, m.t, 0, 0, 0, [], 0, 0, [], [], 0, 0, [], [], 0, [], m.D⟩ m ⟨none, 0, 0, none, 0, 0, none, 0, 0, none, 0, 0, none, 0, 0, none, 0, 0, a.AD, a.nD, a.cD⟩ a _ HVE.out ⟨rfl, Rd.nil _ _, Nat.le_refl _, by simp [maxLen], rfl, Rd.nil _ _, Nat.le_refl _, by simp [maxLen], rfl, Rd.nil _ _, Nat.le_refl _, by simp [maxLen], rfl, Rd.nil _ _, Nat.le_refl _, by simp [maxLen], rfl, Rd.nil _ _, Nat.le_refl _, by simp [maxLen], rfl, Rd.nil _ _, Nat.le_refl _, by simp [maxLen], (HI.out _ (HB2.out _ hb6)).zD, (HI.out _ (HB2.out _ hb6)).rD, (HI.out _ (HB2.out _ hb6)).kD, (HI.out _ (HB2.out _ hb6)).xD⟩ (HI.out _ (HB2.out _ hb6)) ⟨Nat.zero_le _, Nat.zero_le _, Nat.zero_le _, Nat.zero_le _, Nat.zero_le _, Nat.zero_le _, HF.out.sD⟩ HF.out).mono ?_
     rintro e w9 ⟨rfl, hb9⟩
     go_wp2_with fail
     go_ret
     exact ⟨rfl, (HB2.out _ hb6).trans (hb9.mono (HB2.out _ hb6).size)⟩
  have hk8 := hk
  clear hk
  have e1 : (m.k == 1) = false := by simp [hk1]
  have e3 : (m.k == 3) = false := by simp [hk3]
  have e2 : (m.k == 2) = false := by simp [hk2]
  have e5 : (m.k == 5) = false := by simp [hk5]
  have e4 : (m.k == 4) = false := by simp [hk4]
  have e6 : (m.k == 6) = false := by simp [hk6]
  have e7 : (m.k == 7) = false := by simp [hk7]
  have e8 : (m.k == 8) = false := by simp [hk8]
  have HV : Hid (b = false) := by show b = false; rw [← HE.out, messB, show formB m n = false from by (unfold formB; simp [hk1, hk2, hk3, hk4, hk5, hk6, hk7, hk8])]; simp
  clear hk1 hk3 hk2 hk5 hk4 hk6 hk7 hk8
  go_wp2_with fail
  go_ret
  exact ⟨ret_bool HV.out.symm, hb2⟩

end Go.Proofs.YteepobghdpnabaaGreat
