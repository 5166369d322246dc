/-
 Which workers may be, by the page.
-/
import Derived.Test.YteepobghdpnabaaGreatKBg
import Derived.Test.YteepobghdpnabaaGreatKBs
namespace Go.Proofs.YteepobghdpnabaaGreat
open Go.RowKit

theorem rnum0_is (b : Bool) (d : Int) (h : decide (0 ≤ d ∧ d ≤ 1099511627776) = b) (w : World) : Calls Tryz.prog 32 #[.int .i64 d] w fun e w' => e = .returned (.bool b) ∧ w = w' := by
 have HB := Lib.hid h
 by_cases h1 : 0 ≤ d
 ·by_cases h2 : d ≤ 1099511627776
  ·have HN : Hid (b = true) := by show b = true; rw [← HB.out]; exact decide_eq_true ⟨h1, h2⟩
   clear h
   go_enter Tryz.func32, Tryz.ntmps32
   go_wp2_with fail
   go_ret
   exact ⟨ret_bool (by rw [HN.out]; first | done | rfl | (simp; omega)), rfl⟩
  ·have HN : Hid (b = false) := by show b = false; rw [← HB.out]; exact decide_eq_false fun h => h2 h.2
   clear h
   go_enter Tryz.func32, Tryz.ntmps32
   go_wp2_with fail
   go_ret
   exact ⟨ret_bool (by rw [HN.out]; first | done | rfl | (simp; omega)), rfl⟩
 ·have HN : Hid (b = false) := by show b = false; rw [← HB.out]; exact decide_eq_false fun h => h1 h.1
  clear h
  go_enter Tryz.func32, Tryz.ntmps32
  go_wp2_with fail
  go_ret
  exact ⟨ret_bool (by rw [HN.out]; first | done | rfl | (simp; omega)), rfl⟩

def NumsOk (P : WkD) : Prop := (mayB P.N = true) ∧ (1 ≤ P.i) ∧ (P.i ≤ P.N) ∧ (1 ≤ P.x) ∧ (P.x ≤ 1099511627776) ∧ (P.O.length ≤ 64) ∧ (P.O.all txB = true) ∧ (0 ≤ P.g ∧ P.g ≤ 1099511627776) ∧ (0 ≤ P.c ∧ P.c ≤ 1099511627776) ∧ (P.H.length ≤ 1024) ∧ (HeldOk P.H) ∧ (betB 1 65536 P.R = true) ∧ (OnceOk P.R)
set_option maxRecDepth 100000 in
set_option maxHeartbeats 16000000 in
theorem rmayW_no (b : Bool) (P : WkD) (a : WkA) (w : World) (hb : mayW P = b) (h : WIn w P a) (hf : WFew P 1000000) (hng : ¬ NumsOk P) : Calls Tryz.prog 16 #[wkV P a] w (Tells w.heap.size w (.bool b)) := by
 obtain ⟨w0, hw0⟩ : ∃ w0, w0 = w.alloc (.cells #[.int .i64 P.i, .int .i64 P.N, .int .i64 P.x, .slice a.O.A a.O.n a.O.c, .int .i64 P.g, .int .i64 P.c, .slice a.W.A a.W.n a.W.c, .slice a.H.A a.H.n a.H.c, .slice a.R.A a.R.n a.R.c] 27) := ⟨_, rfl⟩
 have hb0 : Below w.heap.size w w0 := by rw [hw0]; exact (Below.refl _ _).alloc (Nat.le_refl _) _
 have bx0 : Box w0 w.heap.size (wkC P a) := by rw [hw0]; exact box_new w (wkC P a) 27
 obtain ⟨g, hg⟩ : ∃ g, g = w.heap.size := ⟨_, rfl⟩
 rw [← hg] at bx0 hb0 ⊢
 have HB : Hid (b = true ↔ MayW P) := by show _ ↔ _; rw [← hb]; exact mayW_iff
 have HNO : Hid (¬ MayW P → b = false) := by show _ → _; intro hn; rw [← hb]; exact mayW_no hn
 have hIN0 : WIn w0 P a := by rw [hg] at hb0; exact h.below hb0
 have HIN : Hid (∀ wX, Below w0.heap.size w0 wX → WIn wX P a) := by show ∀ wX, _; exact fun wX hX => hIN0.below hX
 have HX : Hid (∀ wX, Below w0.heap.size w0 wX → Box wX g (wkC P a)) := by show ∀ wX, _; exact fun wX hX => bx0.below hX bx0.1
 have HW0 := Lib.hid hw0
 have HG := Lib.hid hg
 have HB0 := Lib.hid hb0
 have HF := Lib.hid hf
 have HEW := Lib.hid h.eW
 have HEH := Lib.hid h.eH
 have HLM := Lib.hid (len_fst h.eW)
 have HLHS := Lib.hid (len_fst h.eH)
 have hlO : P.O.length = a.O.n := hIN0.open_.len
 have hlW : a.ms.length = a.W.n := hIN0.waits.row.len
 have hlH : P.H.length = a.H.n := by rw [← len_fst h.eH]; exact hIN0.held.row.len
 have HLO := Lib.hid hlO
 have HLW := Lib.hid hlW
 have HLH := Lib.hid hlH
 have hnW : a.W.n ≤ 1000000 := by have := HLM.out; have := hf.w; omega
 have r0 := Below.refl w0.heap.size w0
 have cMay := fun (b : Bool) (hbb : mayB P.N = b) (wX : World) => rmay_is b P.N hbb wX
 have cTxs := fun (b : Bool) (hbb : P.O.all txB = b) (wX : World) (hX : Below w0.heap.size w0 wX) => rtxs_is b a.O.A a.O.c a.O.n P.O wX hbb (HIN.out wX hX).open_.len (HIN.out wX hX).open_.rd (by have := HLO.out; have := HF.out.o; omega)
 have cHeld := fun (b : Bool) (hbb : b = true ↔ HeldOk P.H) (wX : World) (hX : Below w0.heap.size w0 wX) => rheld_is b a.H a.hs wX (by rw [HEH.out]; exact hbb) (HIN.out wX hX).held (by have := HLHS.out; have := HF.out.h; omega)
 have cDig := fun (b : Bool) (hbb : betB 1 65536 P.R = b) (wX : World) (hX : Below w0.heap.size w0 wX) => rdigests0_is b a.R.A a.R.c a.R.n P.R wX hbb (HIN.out wX hX).ready.len (HIN.out wX hX).ready.rd (by have := (HIN.out wX hX).ready.len; have := HF.out.r; omega)
 have cUnl := fun (b : Bool) (hbb : b = true ↔ OnceOk P.R) (wX : World) (hX : Below w0.heap.size w0 wX) => runlike_is b a.R.A a.R.c a.R.n P.R wX hbb (HIN.out wX hX).ready.len (HIN.out wX hX).ready.cap (HIN.out wX hX).ready.rd (by have := (HIN.out wX hX).ready.len; have := HF.out.r; omega)
 have CMAY := Lib.hid cMay
 have CTXS := Lib.hid cTxs
 have CHELD := Lib.hid cHeld
 have CDIG := Lib.hid cDig
 have CUNL := Lib.hid cUnl
 obtain ⟨k0, k1, k2, k3, k4, k5, k6, k7, k8⟩ := wk_cells (HX.out _ r0)
 have HNG := Lib.hid hng
 clear hng hw0 hg bx0 hIN0 cMay cTxs cHeld cDig cUnl h hb hf hb0 hlO hlW hlH
 unfold wkV Ad.v
 by_cases e0 : mayB P.N = true
 ·have E0 := Lib.hid e0
  clear e0
  have D0 : Hid (mayB P.N = true) := E0
  by_cases e1 : 1 ≤ P.i
  ·have E1 := Lib.hid e1
   clear e1
   have j1 : decide (P.i < 1) = false := decide_eq_false (by have := E1.out; omega)
   have l1 : ¬ (P.i < 1) := by have := E1.out; omega
   by_cases e2 : P.i ≤ P.N
   ·have E2 := Lib.hid e2
    clear e2
    have j2 : decide (P.N < P.i) = false := decide_eq_false (by have := E2.out; omega)
    have l2 : ¬ (P.N < P.i) := by have := E2.out; omega
    by_cases e3 : 1 ≤ P.x
    ·have E3 := Lib.hid e3
     clear e3
     have j3 : decide (P.x < 1) = false := decide_eq_false (by have := E3.out; omega)
     have l3 : ¬ (P.x < 1) := by have := E3.out; omega
     by_cases e4 : P.x ≤ 1099511627776
     ·have E4 := Lib.hid e4
      clear e4
      have j4 : decide ((1099511627776 : Int) < P.x) = false := decide_eq_false (by have := E4.out; omega)
      have l4 : ¬ ((1099511627776 : Int) < P.x) := by have := E4.out; omega
      by_cases e5 : P.O.length ≤ 64
      ·have E5 := Lib.hid e5
       clear e5
       have j5 : decide ((64 : Int) < (a.O.n : Int)) = false := decide_eq_false (by have := HLO.out; have := E5.out; omega)
       have l5 : ¬ ((64 : Int) < (a.O.n : Int)) := by have := HLO.out; have := E5.out; omega
       by_cases e6 : P.O.all txB = true
       ·have E6 := Lib.hid e6
        clear e6
        have D6 : Hid (P.O.all txB = true) := E6
        by_cases e7 : 0 ≤ P.g ∧ P.g ≤ 1099511627776
        ·have E7 := Lib.hid e7
         clear e7
         have D7 : Hid (decide (0 ≤ P.g ∧ P.g ≤ 1099511627776) = true) := decide_eq_true E7.out
         by_cases e8 : 0 ≤ P.c ∧ P.c ≤ 1099511627776
         ·have E8 := Lib.hid e8
          clear e8
          have D8 : Hid (decide (0 ≤ P.c ∧ P.c ≤ 1099511627776) = true) := decide_eq_true E8.out
          by_cases e9 : P.H.length ≤ 1024
          ·have E9 := Lib.hid e9
           clear e9
           have j9 : decide ((1024 : Int) < (a.H.n : Int)) = false := decide_eq_false (by have := HLH.out; have := E9.out; omega)
           have l9 : ¬ ((1024 : Int) < (a.H.n : Int)) := by have := HLH.out; have := E9.out; omega
           by_cases e10 : HeldOk P.H
           ·have E10 := Lib.hid e10
            clear e10
            have D10 := Lib.hid (CHELD.out true ⟨fun _ => E10.out, fun _ => rfl⟩)
            by_cases e11 : betB 1 65536 P.R = true
            ·have E11 := Lib.hid e11
             clear e11
             have D11 : Hid (betB 1 65536 P.R = true) := E11
             by_cases e12 : OnceOk P.R
             ·have E12 := Lib.hid e12
              clear e12
              have D12 := Lib.hid (CUNL.out true ⟨fun _ => E12.out, fun _ => rfl⟩)
              exact absurd ⟨E0.out, E1.out, E2.out, E3.out, E4.out, E5.out, E6.out, E7.out, E8.out, E9.out, E10.out, E11.out, E12.out⟩ HNG.out
             ·have E12 := Lib.hid e12
              have HV : Hid (b = false) := HNO.out fun h => e12 h.once
              clear e12
              have D12 := Lib.hid (CUNL.out false ⟨fun h => absurd h (by decide), fun h => absurd h E12.out⟩)
              go_enter Tryz.func16, Tryz.ntmps16
              go_upto_region 1 with fail
              rw [← HW0.out, ← HG.out]
              go_wp2_with (first
               | fail
               | (go_at_call 30; refine (CMAY.out true D0.out _).mono ?_; rintro e w' ⟨rfl, rfl⟩)
               | (go_at_call 31; refine (CTXS.out true D6.out _ r0).mono ?_; rintro e w3 ⟨rfl, hb3⟩; obtain ⟨k30, k31, k32, k33, k34, k35, k36, k37, k38⟩ := wk_cells (HX.out _ hb3))
               | (go_at_call 32; first | (refine (rnum0_is true P.g D7.out _).mono ?_; rintro e w' ⟨rfl, rfl⟩) | (refine (rnum0_is true P.c D8.out _).mono ?_; rintro e w' ⟨rfl, rfl⟩))
               | (go_at_call 33; refine (D10.out _ hb3).mono ?_; rintro e w4 ⟨rfl, hb4'⟩; have hb4 := hb3.trans (hb4'.mono hb3.size); obtain ⟨k40, k41, k42, k43, k44, k45, k46, k47, k48⟩ := wk_cells (HX.out _ hb4))
               | (go_at_call 34; refine (CDIG.out true D11.out _ hb4).mono ?_; rintro e w' ⟨rfl, rfl⟩)
               | (go_at_call 35; refine (D12.out _ hb4).mono ?_; rintro e w5 ⟨rfl, hb5'⟩; have hb5 := hb4.trans (hb5'.mono hb4.size); obtain ⟨k50, k51, k52, k53, k54, k55, k56, k57, k58⟩ := wk_cells (HX.out _ hb5)))
              go_ret
              exact ⟨ret_bool HV.out.symm, HB0.out.trans (hb5.mono (by rw [HW0.out, HG.out]; simp))⟩
            ·have E11 := Lib.hid e11
             have HV : Hid (b = false) := HNO.out fun h => e11 h.digs
             clear e11
             have D11 : Hid (betB 1 65536 P.R = false) := by show _ = false; cases hq : betB 1 65536 P.R with | false => rfl | true => exact absurd hq E11.out
             go_enter Tryz.func16, Tryz.ntmps16
             go_upto_region 1 with fail
             rw [← HW0.out, ← HG.out]
             go_wp2_with (first
              | fail
              | (go_at_call 30; refine (CMAY.out true D0.out _).mono ?_; rintro e w' ⟨rfl, rfl⟩)
              | (go_at_call 31; refine (CTXS.out true D6.out _ r0).mono ?_; rintro e w3 ⟨rfl, hb3⟩; obtain ⟨k30, k31, k32, k33, k34, k35, k36, k37, k38⟩ := wk_cells (HX.out _ hb3))
              | (go_at_call 32; first | (refine (rnum0_is true P.g D7.out _).mono ?_; rintro e w' ⟨rfl, rfl⟩) | (refine (rnum0_is true P.c D8.out _).mono ?_; rintro e w' ⟨rfl, rfl⟩))
              | (go_at_call 33; refine (D10.out _ hb3).mono ?_; rintro e w4 ⟨rfl, hb4'⟩; have hb4 := hb3.trans (hb4'.mono hb3.size); obtain ⟨k40, k41, k42, k43, k44, k45, k46, k47, k48⟩ := wk_cells (HX.out _ hb4))
              | (go_at_call 34; refine (CDIG.out false D11.out _ hb4).mono ?_; rintro e w' ⟨rfl, rfl⟩))
             go_ret
             exact ⟨ret_bool HV.out.symm, HB0.out.trans (hb4.mono (by rw [HW0.out, HG.out]; simp))⟩
           ·have E10 := Lib.hid e10
            have HV : Hid (b = false) := HNO.out fun h => e10 h.held
            clear e10
            have D10 := Lib.hid (CHELD.out false ⟨fun h => absurd h (by decide), fun h => absurd h E10.out⟩)
            go_enter Tryz.func16, Tryz.ntmps16
            go_upto_region 1 with fail
            rw [← HW0.out, ← HG.out]
            go_wp2_with (first
             | fail
             | (go_at_call 30; refine (CMAY.out true D0.out _).mono ?_; rintro e w' ⟨rfl, rfl⟩)
             | (go_at_call 31; refine (CTXS.out true D6.out _ r0).mono ?_; rintro e w3 ⟨rfl, hb3⟩; obtain ⟨k30, k31, k32, k33, k34, k35, k36, k37, k38⟩ := wk_cells (HX.out _ hb3))
             | (go_at_call 32; first | (refine (rnum0_is true P.g D7.out _).mono ?_; rintro e w' ⟨rfl, rfl⟩) | (refine (rnum0_is true P.c D8.out _).mono ?_; rintro e w' ⟨rfl, rfl⟩))
             | (go_at_call 33; refine (D10.out _ hb3).mono ?_; rintro e w4 ⟨rfl, hb4'⟩; have hb4 := hb3.trans (hb4'.mono hb3.size); obtain ⟨k40, k41, k42, k43, k44, k45, k46, k47, k48⟩ := wk_cells (HX.out _ hb4)))
            go_ret
            exact ⟨ret_bool HV.out.symm, HB0.out.trans (hb4.mono (by rw [HW0.out, HG.out]; simp))⟩
          ·have E9 := Lib.hid e9
           have HV : Hid (b = false) := HNO.out fun h => e9 h.room
           clear e9
           have j9 : decide ((1024 : Int) < (a.H.n : Int)) = true := decide_eq_true (by have := HLH.out; have := E9.out; omega)
           have l9 : (1024 : Int) < (a.H.n : Int) := by have := HLH.out; have := E9.out; omega
           go_enter Tryz.func16, Tryz.ntmps16
           go_upto_region 1 with fail
           rw [← HW0.out, ← HG.out]
           go_wp2_with (first
            | fail
            | (go_at_call 30; refine (CMAY.out true D0.out _).mono ?_; rintro e w' ⟨rfl, rfl⟩)
            | (go_at_call 31; refine (CTXS.out true D6.out _ r0).mono ?_; rintro e w3 ⟨rfl, hb3⟩; obtain ⟨k30, k31, k32, k33, k34, k35, k36, k37, k38⟩ := wk_cells (HX.out _ hb3))
            | (go_at_call 32; first | (refine (rnum0_is true P.g D7.out _).mono ?_; rintro e w' ⟨rfl, rfl⟩) | (refine (rnum0_is true P.c D8.out _).mono ?_; rintro e w' ⟨rfl, rfl⟩)))
           go_ret
           exact ⟨ret_bool HV.out.symm, HB0.out.trans (hb3.mono (by rw [HW0.out, HG.out]; simp))⟩
         ·have E8 := Lib.hid e8
          have HV : Hid (b = false) := HNO.out fun h => e8 h.clock
          clear e8
          have D8 : Hid (decide (0 ≤ P.c ∧ P.c ≤ 1099511627776) = false) := decide_eq_false E8.out
          go_enter Tryz.func16, Tryz.ntmps16
          go_upto_region 1 with fail
          rw [← HW0.out, ← HG.out]
          go_wp2_with (first
           | fail
           | (go_at_call 30; refine (CMAY.out true D0.out _).mono ?_; rintro e w' ⟨rfl, rfl⟩)
           | (go_at_call 31; refine (CTXS.out true D6.out _ r0).mono ?_; rintro e w3 ⟨rfl, hb3⟩; obtain ⟨k30, k31, k32, k33, k34, k35, k36, k37, k38⟩ := wk_cells (HX.out _ hb3))
           | (go_at_call 32; first | (refine (rnum0_is true P.g D7.out _).mono ?_; rintro e w' ⟨rfl, rfl⟩) | (refine (rnum0_is false P.c D8.out _).mono ?_; rintro e w' ⟨rfl, rfl⟩)))
          go_ret
          exact ⟨ret_bool HV.out.symm, HB0.out.trans (hb3.mono (by rw [HW0.out, HG.out]; simp))⟩
        ·have E7 := Lib.hid e7
         have HV : Hid (b = false) := HNO.out fun h => e7 h.age
         clear e7
         have D7 : Hid (decide (0 ≤ P.g ∧ P.g ≤ 1099511627776) = false) := decide_eq_false E7.out
         go_enter Tryz.func16, Tryz.ntmps16
         go_upto_region 1 with fail
         rw [← HW0.out, ← HG.out]
         go_wp2_with (first
          | fail
          | (go_at_call 30; refine (CMAY.out true D0.out _).mono ?_; rintro e w' ⟨rfl, rfl⟩)
          | (go_at_call 31; refine (CTXS.out true D6.out _ r0).mono ?_; rintro e w3 ⟨rfl, hb3⟩; obtain ⟨k30, k31, k32, k33, k34, k35, k36, k37, k38⟩ := wk_cells (HX.out _ hb3))
          | (go_at_call 32; refine (rnum0_is false P.g D7.out _).mono ?_; rintro e w' ⟨rfl, rfl⟩))
         go_ret
         exact ⟨ret_bool HV.out.symm, HB0.out.trans (hb3.mono (by rw [HW0.out, HG.out]; simp))⟩
       ·have E6 := Lib.hid e6
        have HV : Hid (b = false) := HNO.out fun h => e6 h.open_
        clear e6
        have D6 : Hid (P.O.all txB = false) := by show _ = false; cases hq : P.O.all txB with | false => rfl | true => exact absurd hq E6.out
        go_enter Tryz.func16, Tryz.ntmps16
        go_upto_region 1 with fail
        rw [← HW0.out, ← HG.out]
        go_wp2_with (first
         | fail
         | (go_at_call 30; refine (CMAY.out true D0.out _).mono ?_; rintro e w' ⟨rfl, rfl⟩)
         | (go_at_call 31; refine (CTXS.out false D6.out _ r0).mono ?_; rintro e w3 ⟨rfl, hb3⟩; obtain ⟨k30, k31, k32, k33, k34, k35, k36, k37, k38⟩ := wk_cells (HX.out _ hb3)))
        go_ret
        exact ⟨ret_bool HV.out.symm, HB0.out.trans (hb3.mono (by rw [HW0.out, HG.out]; simp))⟩
      ·have E5 := Lib.hid e5
       have HV : Hid (b = false) := HNO.out fun h => e5 h.few
       clear e5
       have j5 : decide ((64 : Int) < (a.O.n : Int)) = true := decide_eq_true (by have := HLO.out; have := E5.out; omega)
       have l5 : (64 : Int) < (a.O.n : Int) := by have := HLO.out; have := E5.out; omega
       go_enter Tryz.func16, Tryz.ntmps16
       go_upto_region 1 with fail
       rw [← HW0.out, ← HG.out]
       go_wp2_with (first
        | fail
        | (go_at_call 30; refine (CMAY.out true D0.out _).mono ?_; rintro e w' ⟨rfl, rfl⟩))
       go_ret
       exact ⟨ret_bool HV.out.symm, HB0.out.trans (r0.mono (by rw [HW0.out, HG.out]; simp))⟩
     ·have E4 := Lib.hid e4
      have HV : Hid (b = false) := HNO.out fun h => e4 h.next.2
      clear e4
      have j4 : decide ((1099511627776 : Int) < P.x) = true := decide_eq_true (by have := E4.out; omega)
      have l4 : (1099511627776 : Int) < P.x := by have := E4.out; omega
      go_enter Tryz.func16, Tryz.ntmps16
      go_upto_region 1 with fail
      rw [← HW0.out, ← HG.out]
      go_wp2_with (first
       | fail
       | (go_at_call 30; refine (CMAY.out true D0.out _).mono ?_; rintro e w' ⟨rfl, rfl⟩))
      go_ret
      exact ⟨ret_bool HV.out.symm, HB0.out.trans (r0.mono (by rw [HW0.out, HG.out]; simp))⟩
    ·have E3 := Lib.hid e3
     have HV : Hid (b = false) := HNO.out fun h => e3 h.next.1
     clear e3
     have j3 : decide (P.x < 1) = true := decide_eq_true (by have := E3.out; omega)
     have l3 : P.x < 1 := by have := E3.out; omega
     go_enter Tryz.func16, Tryz.ntmps16
     go_upto_region 1 with fail
     rw [← HW0.out, ← HG.out]
     go_wp2_with (first
      | fail
      | (go_at_call 30; refine (CMAY.out true D0.out _).mono ?_; rintro e w' ⟨rfl, rfl⟩))
     go_ret
     exact ⟨ret_bool HV.out.symm, HB0.out.trans (r0.mono (by rw [HW0.out, HG.out]; simp))⟩
   ·have E2 := Lib.hid e2
    have HV : Hid (b = false) := HNO.out fun h => e2 h.id.2
    clear e2
    have j2 : decide (P.N < P.i) = true := decide_eq_true (by have := E2.out; omega)
    have l2 : P.N < P.i := by have := E2.out; omega
    go_enter Tryz.func16, Tryz.ntmps16
    go_upto_region 1 with fail
    rw [← HW0.out, ← HG.out]
    go_wp2_with (first
     | fail
     | (go_at_call 30; refine (CMAY.out true D0.out _).mono ?_; rintro e w' ⟨rfl, rfl⟩))
    go_ret
    exact ⟨ret_bool HV.out.symm, HB0.out.trans (r0.mono (by rw [HW0.out, HG.out]; simp))⟩
  ·have E1 := Lib.hid e1
   have HV : Hid (b = false) := HNO.out fun h => e1 h.id.1
   clear e1
   have j1 : decide (P.i < 1) = true := decide_eq_true (by have := E1.out; omega)
   have l1 : P.i < 1 := by have := E1.out; omega
   go_enter Tryz.func16, Tryz.ntmps16
   go_upto_region 1 with fail
   rw [← HW0.out, ← HG.out]
   go_wp2_with (first
    | fail
    | (go_at_call 30; refine (CMAY.out true D0.out _).mono ?_; rintro e w' ⟨rfl, rfl⟩))
   go_ret
   exact ⟨ret_bool HV.out.symm, HB0.out.trans (r0.mono (by rw [HW0.out, HG.out]; simp))⟩
 ·have E0 := Lib.hid e0
  have HV : Hid (b = false) := HNO.out fun h => e0 h.nodes
  clear e0
  have D0 : Hid (mayB P.N = false) := by show _ = false; cases hq : mayB P.N with | false => rfl | true => exact absurd hq E0.out
  go_enter Tryz.func16, Tryz.ntmps16
  go_upto_region 1 with fail
  rw [← HW0.out, ← HG.out]
  go_wp2_with (first
   | fail
   | (go_at_call 30; refine (CMAY.out false D0.out _).mono ?_; rintro e w' ⟨rfl, rfl⟩))
  go_ret
  exact ⟨ret_bool HV.out.symm, HB0.out.trans (r0.mono (by rw [HW0.out, HG.out]; simp))⟩

end Go.Proofs.YteepobghdpnabaaGreat
