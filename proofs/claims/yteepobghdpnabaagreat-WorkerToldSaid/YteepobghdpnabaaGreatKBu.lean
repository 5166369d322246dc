/-
 The page's comparison of workers.
-/
import Derived.Test.YteepobghdpnabaaGreatKBk
import Derived.Test.YteepobghdpnabaaGreatKBs
namespace Go.Proofs.YteepobghdpnabaaGreat
open Go.RowKit

theorem wkd_ext {P Q : WkD} : P = Q ↔ P.i = Q.i ∧ P.N = Q.N ∧ P.x = Q.x ∧ P.O = Q.O ∧ P.g = Q.g ∧ P.c = Q.c ∧ P.W = Q.W ∧ P.H = Q.H ∧ P.R = Q.R := by
 constructor
 ·rintro rfl; exact ⟨rfl, rfl, rfl, rfl, rfl, rfl, rfl, rfl, rfl⟩
 ·rintro ⟨h1, h2, h3, h4, h5, h6, h7, h8, h9⟩
  cases P; cases Q
  simp only at h1 h2 h3 h4 h5 h6 h7 h8 h9
  subst h1; subst h2; subst h3; subst h4; subst h5; subst h6; subst h7; subst h8; subst h9
  rfl
set_option maxRecDepth 100000 in
set_option maxHeartbeats 16000000 in
theorem reqWk_is (b : Bool) (P Q : WkD) (a d : WkA) (w : World) (h : decide (P = Q) = b) (hi : WIn w P a) (hi' : WIn w Q d) (hf : WFew P 1000000) (hf' : WFew Q 1000000) :
  Calls Tryz.prog 49 #[wkV P a, wkV Q d] w (Tells w.heap.size w (.bool b)) := by
 obtain ⟨w2, hw2⟩ : ∃ w2, w2 = (w.alloc (.cells #[.int .i64 P.i, .int .i64 P.N, .int .i64 P.x, .slice a.O.A a.O.n a.O.c, .int .i64 P.g, .int .i64 P.c, .slice a.W.A a.W.n a.W.c, .slice a.H.A a.H.n a.H.c, .slice a.R.A a.R.n a.R.c] 27)).alloc (.cells #[.int .i64 Q.i, .int .i64 Q.N, .int .i64 Q.x, .slice d.O.A d.O.n d.O.c, .int .i64 Q.g, .int .i64 Q.c, .slice d.W.A d.W.n d.W.c, .slice d.H.A d.H.n d.H.c, .slice d.R.A d.R.n d.R.c] 27) := ⟨_, rfl⟩
 have hb2 : Below w.heap.size w w2 := by rw [hw2]; exact ((Below.refl _ _).alloc (Nat.le_refl _) _).alloc (by simp) _
 have bx : Box w2 w.heap.size [.int .i64 P.i, .int .i64 P.N, .int .i64 P.x, .slice a.O.A a.O.n a.O.c, .int .i64 P.g, .int .i64 P.c, .slice a.W.A a.W.n a.W.c, .slice a.H.A a.H.n a.H.c, .slice a.R.A a.R.n a.R.c] := by rw [hw2]; exact (box_new w [.int .i64 P.i, .int .i64 P.N, .int .i64 P.x, .slice a.O.A a.O.n a.O.c, .int .i64 P.g, .int .i64 P.c, .slice a.W.A a.W.n a.W.c, .slice a.H.A a.H.n a.H.c, .slice a.R.A a.R.n a.R.c] 27).below ((Below.refl _ _).alloc (Nat.le_refl _) _) (by simp)
 have by_ : Box w2 (w.heap.size + 1) [.int .i64 Q.i, .int .i64 Q.N, .int .i64 Q.x, .slice d.O.A d.O.n d.O.c, .int .i64 Q.g, .int .i64 Q.c, .slice d.W.A d.W.n d.W.c, .slice d.H.A d.H.n d.H.c, .slice d.R.A d.R.n d.R.c] := by
  rw [hw2]
  have h := box_new (w.alloc (.cells #[.int .i64 P.i, .int .i64 P.N, .int .i64 P.x, .slice a.O.A a.O.n a.O.c, .int .i64 P.g, .int .i64 P.c, .slice a.W.A a.W.n a.W.c, .slice a.H.A a.H.n a.H.c, .slice a.R.A a.R.n a.R.c] 27)) [.int .i64 Q.i, .int .i64 Q.N, .int .i64 Q.x, .slice d.O.A d.O.n d.O.c, .int .i64 Q.g, .int .i64 Q.c, .slice d.W.A d.W.n d.W.c, .slice d.H.A d.H.n d.H.c, .slice d.R.A d.R.n d.R.c] 27
  have e : (w.alloc (.cells #[.int .i64 P.i, .int .i64 P.N, .int .i64 P.x, .slice a.O.A a.O.n a.O.c, .int .i64 P.g, .int .i64 P.c, .slice a.W.A a.W.n a.W.c, .slice a.H.A a.H.n a.H.c, .slice a.R.A a.R.n a.R.c] 27)).heap.size = w.heap.size + 1 := by simp
  rw [e] at h
  exact h
 have HX : Hid (∀ wX, Below w2.heap.size w2 wX → Box wX w.heap.size [.int .i64 P.i, .int .i64 P.N, .int .i64 P.x, .slice a.O.A a.O.n a.O.c, .int .i64 P.g, .int .i64 P.c, .slice a.W.A a.W.n a.W.c, .slice a.H.A a.H.n a.H.c, .slice a.R.A a.R.n a.R.c]) := fun wX h => bx.below h bx.1
 have HY : Hid (∀ wX, Below w2.heap.size w2 wX → Box wX (w.heap.size + 1) [.int .i64 Q.i, .int .i64 Q.N, .int .i64 Q.x, .slice d.O.A d.O.n d.O.c, .int .i64 Q.g, .int .i64 Q.c, .slice d.W.A d.W.n d.W.c, .slice d.H.A d.H.n d.H.c, .slice d.R.A d.R.n d.R.c]) := fun wX h => by_.below h by_.1
 have HI : Hid (∀ wX, Below w2.heap.size w2 wX → WIn wX P a) := fun wX h => (hi.below hb2).below h
 have HI' : Hid (∀ wX, Below w2.heap.size w2 wX → WIn wX Q d) := fun wX h => (hi'.below hb2).below h
 have HF := Lib.hid hf
 have HF' := Lib.hid hf'
 have HEW := Lib.hid hi.eW
 have HEH := Lib.hid hi.eH
 have HEW' := Lib.hid hi'.eW
 have HEH' := Lib.hid hi'.eH
 have HLW := Lib.hid (len_fst hi.eW)
 have HLH := Lib.hid (len_fst hi.eH)
 have HLW' := Lib.hid (len_fst hi'.eW)
 have HLH' := Lib.hid (len_fst hi'.eH)
 have HW := Lib.hid hw2
 have HH := Lib.hid h
 clear hw2 bx by_ hi hi' hf hf' h
 unfold wkV Ad.v
 by_cases g0 : P.i = Q.i
 ·have j0 : (P.i == Q.i) = true := by simp [g0]
  have E0 := Lib.hid g0
  clear g0
  by_cases g1 : P.N = Q.N
  ·have j1 : (P.N == Q.N) = true := by simp [g1]
   have E1 := Lib.hid g1
   clear g1
   by_cases g2 : P.x = Q.x
   ·have j2 : (P.x == Q.x) = true := by simp [g2]
    have E2 := Lib.hid g2
    clear g2
    by_cases g3 : P.O = Q.O
    ·have HG3 : Hid (decide (P.O = Q.O) = true) := decide_eq_true g3
     have E3 := Lib.hid g3
     clear g3
     by_cases g4 : P.g = Q.g
     ·have j4 : (P.g == Q.g) = true := by simp [g4]
      have E4 := Lib.hid g4
      clear g4
      by_cases g5 : P.c = Q.c
      ·have j5 : (P.c == Q.c) = true := by simp [g5]
       have E5 := Lib.hid g5
       clear g5
       by_cases g6 : P.W = Q.W
       ·have HG6 : Hid (decide (P.W = Q.W) = true) := decide_eq_true g6
        have E6 := Lib.hid g6
        clear g6
        by_cases g7 : P.H = Q.H
        ·have HG7 : Hid (decide (P.H = Q.H) = true) := decide_eq_true g7
         have E7 := Lib.hid g7
         clear g7
         by_cases g8 : P.R = Q.R
         ·have HG8 : Hid (decide (P.R = Q.R) = true) := decide_eq_true g8
          have HV : Hid (b = true) := by show b = true; rw [← HH.out, decide_eq_true_eq]; exact wkd_ext.2 ⟨E0.out, E1.out, E2.out, E3.out, E4.out, E5.out, E6.out, E7.out, g8⟩
          clear g8
          go_enter Tryz.func49, Tryz.ntmps49
          go_upto_region 1 with fail
          rw [← HW.out]
          have x0 := ((HX.out _ (Below.refl w2.heap.size w2)).2 0 _ rfl).1
          have y0 := ((HY.out _ (Below.refl w2.heap.size w2)).2 0 _ rfl).1
          have x1 := ((HX.out _ (Below.refl w2.heap.size w2)).2 1 _ rfl).1
          have y1 := ((HY.out _ (Below.refl w2.heap.size w2)).2 1 _ rfl).1
          have x2 := ((HX.out _ (Below.refl w2.heap.size w2)).2 2 _ rfl).1
          have y2 := ((HY.out _ (Below.refl w2.heap.size w2)).2 2 _ rfl).1
          have x3 := ((HX.out _ (Below.refl w2.heap.size w2)).2 3 _ rfl).1
          have y3 := ((HY.out _ (Below.refl w2.heap.size w2)).2 3 _ rfl).1
          go_wp2_with fail
          refine (eqTxs_any a.O.A d.O.A a.O.c d.O.c a.O.n d.O.n P.O Q.O _ (HI.out _ (Below.refl w2.heap.size w2)).open_.len (HI'.out _ (Below.refl w2.heap.size w2)).open_.len (HI.out _ (Below.refl w2.heap.size w2)).open_.rd (HI'.out _ (Below.refl w2.heap.size w2)).open_.rd (by have := (HI.out _ (Below.refl w2.heap.size w2)).open_.len; have := HF.out.o; omega) (by have := (HI'.out _ (Below.refl w2.heap.size w2)).open_.len; have := HF'.out.o; omega)).mono ?_
          rintro e v3 ⟨rfl, dd3, rfl⟩
          rw [HG3.out]
          have hv3 : Below w2.heap.size w2 _ := below_n (Below.refl w2.heap.size w2) dd3
          have x4 := ((HX.out _ hv3).2 4 _ rfl).1
          have y4 := ((HY.out _ hv3).2 4 _ rfl).1
          have x5 := ((HX.out _ hv3).2 5 _ rfl).1
          have y5 := ((HY.out _ hv3).2 5 _ rfl).1
          have x6 := ((HX.out _ hv3).2 6 _ rfl).1
          have y6 := ((HY.out _ hv3).2 6 _ rfl).1
          go_wp2_with fail
          refine (reqWaits_is true a.W d.W a.ms d.ms _ (by rw [HEW.out, HEW'.out]; exact HG6.out) (HI.out _ hv3).waits (HI'.out _ hv3).waits (by have := HLW.out; have := HF.out.w; omega) (by have := HLW'.out; have := HF'.out.w; omega) (fun x hx => HF.out.s _ (mem_fst HEW.out hx)) (fun x hx => HF'.out.s _ (mem_fst HEW'.out hx))).mono ?_
          rintro e v6 ⟨rfl, hw6⟩
          have hv6 : Below w2.heap.size w2 v6 := hv3.trans (hw6.mono hv3.size)
          have x7 := ((HX.out _ hv6).2 7 _ rfl).1
          have y7 := ((HY.out _ hv6).2 7 _ rfl).1
          go_wp2_with fail
          refine (reqHelds_is true a.H d.H a.hs d.hs _ (by rw [HEH.out, HEH'.out]; exact HG7.out) (HI.out _ hv6).held (HI'.out _ hv6).held (by have := HLH.out; have := HF.out.h; omega) (by have := HLH'.out; have := HF'.out.h; omega) (fun x hx => HF.out.l _ (mem_fst HEH.out hx)) (fun x hx => HF'.out.l _ (mem_fst HEH'.out hx))).mono ?_
          rintro e v7 ⟨rfl, hw7⟩
          have hv7 : Below w2.heap.size w2 v7 := hv6.trans (hw7.mono hv6.size)
          have x8 := ((HX.out _ hv7).2 8 _ rfl).1
          have y8 := ((HY.out _ hv7).2 8 _ rfl).1
          go_wp2_with fail
          refine (eqNumbers_any a.R.A d.R.A a.R.c d.R.c a.R.n d.R.n P.R Q.R _ (HI.out _ hv7).ready.len (HI'.out _ hv7).ready.len (HI.out _ hv7).ready.rd (HI'.out _ hv7).ready.rd (by have := (HI.out _ hv7).ready.len; have := HF.out.r; omega) (by have := (HI'.out _ hv7).ready.len; have := HF'.out.r; omega)).mono ?_
          rintro e v8 ⟨rfl, dd8, rfl⟩
          rw [HG8.out]
          have hv8 : Below w2.heap.size w2 _ := below_n hv7 dd8
          go_wp2_with fail
          go_ret
          exact ⟨ret_bool HV.out.symm, hb2.trans (hv8.mono hb2.size)⟩
         ·have HV : Hid (b = false) := by show b = false; rw [← HH.out, decide_eq_false_iff_not]; exact fun e => g8 (by rw [e])
          have HG8 : Hid (decide (P.R = Q.R) = false) := decide_eq_false g8
          clear g8
          go_enter Tryz.func49, Tryz.ntmps49
          go_upto_region 1 with fail
          rw [← HW.out]
          have x0 := ((HX.out _ (Below.refl w2.heap.size w2)).2 0 _ rfl).1
          have y0 := ((HY.out _ (Below.refl w2.heap.size w2)).2 0 _ rfl).1
          have x1 := ((HX.out _ (Below.refl w2.heap.size w2)).2 1 _ rfl).1
          have y1 := ((HY.out _ (Below.refl w2.heap.size w2)).2 1 _ rfl).1
          have x2 := ((HX.out _ (Below.refl w2.heap.size w2)).2 2 _ rfl).1
          have y2 := ((HY.out _ (Below.refl w2.heap.size w2)).2 2 _ rfl).1
          have x3 := ((HX.out _ (Below.refl w2.heap.size w2)).2 3 _ rfl).1
          have y3 := ((HY.out _ (Below.refl w2.heap.size w2)).2 3 _ rfl).1
          go_wp2_with fail
          refine (eqTxs_any a.O.A d.O.A a.O.c d.O.c a.O.n d.O.n P.O Q.O _ (HI.out _ (Below.refl w2.heap.size w2)).open_.len (HI'.out _ (Below.refl w2.heap.size w2)).open_.len (HI.out _ (Below.refl w2.heap.size w2)).open_.rd (HI'.out _ (Below.refl w2.heap.size w2)).open_.rd (by have := (HI.out _ (Below.refl w2.heap.size w2)).open_.len; have := HF.out.o; omega) (by have := (HI'.out _ (Below.refl w2.heap.size w2)).open_.len; have := HF'.out.o; omega)).mono ?_
          rintro e v3 ⟨rfl, dd3, rfl⟩
          rw [HG3.out]
          have hv3 : Below w2.heap.size w2 _ := below_n (Below.refl w2.heap.size w2) dd3
          have x4 := ((HX.out _ hv3).2 4 _ rfl).1
          have y4 := ((HY.out _ hv3).2 4 _ rfl).1
          have x5 := ((HX.out _ hv3).2 5 _ rfl).1
          have y5 := ((HY.out _ hv3).2 5 _ rfl).1
          have x6 := ((HX.out _ hv3).2 6 _ rfl).1
          have y6 := ((HY.out _ hv3).2 6 _ rfl).1
          go_wp2_with fail
          refine (reqWaits_is true a.W d.W a.ms d.ms _ (by rw [HEW.out, HEW'.out]; exact HG6.out) (HI.out _ hv3).waits (HI'.out _ hv3).waits (by have := HLW.out; have := HF.out.w; omega) (by have := HLW'.out; have := HF'.out.w; omega) (fun x hx => HF.out.s _ (mem_fst HEW.out hx)) (fun x hx => HF'.out.s _ (mem_fst HEW'.out hx))).mono ?_
          rintro e v6 ⟨rfl, hw6⟩
          have hv6 : Below w2.heap.size w2 v6 := hv3.trans (hw6.mono hv3.size)
          have x7 := ((HX.out _ hv6).2 7 _ rfl).1
          have y7 := ((HY.out _ hv6).2 7 _ rfl).1
          go_wp2_with fail
          refine (reqHelds_is true a.H d.H a.hs d.hs _ (by rw [HEH.out, HEH'.out]; exact HG7.out) (HI.out _ hv6).held (HI'.out _ hv6).held (by have := HLH.out; have := HF.out.h; omega) (by have := HLH'.out; have := HF'.out.h; omega) (fun x hx => HF.out.l _ (mem_fst HEH.out hx)) (fun x hx => HF'.out.l _ (mem_fst HEH'.out hx))).mono ?_
          rintro e v7 ⟨rfl, hw7⟩
          have hv7 : Below w2.heap.size w2 v7 := hv6.trans (hw7.mono hv6.size)
          have x8 := ((HX.out _ hv7).2 8 _ rfl).1
          have y8 := ((HY.out _ hv7).2 8 _ rfl).1
          go_wp2_with fail
          refine (eqNumbers_any a.R.A d.R.A a.R.c d.R.c a.R.n d.R.n P.R Q.R _ (HI.out _ hv7).ready.len (HI'.out _ hv7).ready.len (HI.out _ hv7).ready.rd (HI'.out _ hv7).ready.rd (by have := (HI.out _ hv7).ready.len; have := HF.out.r; omega) (by have := (HI'.out _ hv7).ready.len; have := HF'.out.r; omega)).mono ?_
          rintro e v8 ⟨rfl, dd8, rfl⟩
          rw [HG8.out]
          have hv8 : Below w2.heap.size w2 _ := below_n hv7 dd8
          go_wp2_with fail
          go_ret
          exact ⟨ret_bool HV.out.symm, hb2.trans (hv8.mono hb2.size)⟩
        ·have HV : Hid (b = false) := by show b = false; rw [← HH.out, decide_eq_false_iff_not]; exact fun e => g7 (by rw [e])
         have HG7 : Hid (decide (P.H = Q.H) = false) := decide_eq_false g7
         clear g7
         go_enter Tryz.func49, Tryz.ntmps49
         go_upto_region 1 with fail
         rw [← HW.out]
         have x0 := ((HX.out _ (Below.refl w2.heap.size w2)).2 0 _ rfl).1
         have y0 := ((HY.out _ (Below.refl w2.heap.size w2)).2 0 _ rfl).1
         have x1 := ((HX.out _ (Below.refl w2.heap.size w2)).2 1 _ rfl).1
         have y1 := ((HY.out _ (Below.refl w2.heap.size w2)).2 1 _ rfl).1
         have x2 := ((HX.out _ (Below.refl w2.heap.size w2)).2 2 _ rfl).1
         have y2 := ((HY.out _ (Below.refl w2.heap.size w2)).2 2 _ rfl).1
         have x3 := ((HX.out _ (Below.refl w2.heap.size w2)).2 3 _ rfl).1
         have y3 := ((HY.out _ (Below.refl w2.heap.size w2)).2 3 _ rfl).1
         go_wp2_with fail
         refine (eqTxs_any a.O.A d.O.A a.O.c d.O.c a.O.n d.O.n P.O Q.O _ (HI.out _ (Below.refl w2.heap.size w2)).open_.len (HI'.out _ (Below.refl w2.heap.size w2)).open_.len (HI.out _ (Below.refl w2.heap.size w2)).open_.rd (HI'.out _ (Below.refl w2.heap.size w2)).open_.rd (by have := (HI.out _ (Below.refl w2.heap.size w2)).open_.len; have := HF.out.o; omega) (by have := (HI'.out _ (Below.refl w2.heap.size w2)).open_.len; have := HF'.out.o; omega)).mono ?_
         rintro e v3 ⟨rfl, dd3, rfl⟩
         rw [HG3.out]
         have hv3 : Below w2.heap.size w2 _ := below_n (Below.refl w2.heap.size w2) dd3
         have x4 := ((HX.out _ hv3).2 4 _ rfl).1
         have y4 := ((HY.out _ hv3).2 4 _ rfl).1
         have x5 := ((HX.out _ hv3).2 5 _ rfl).1
         have y5 := ((HY.out _ hv3).2 5 _ rfl).1
         have x6 := ((HX.out _ hv3).2 6 _ rfl).1
         have y6 := ((HY.out _ hv3).2 6 _ rfl).1
         go_wp2_with fail
         refine (reqWaits_is true a.W d.W a.ms d.ms _ (by rw [HEW.out, HEW'.out]; exact HG6.out) (HI.out _ hv3).waits (HI'.out _ hv3).waits (by have := HLW.out; have := HF.out.w; omega) (by have := HLW'.out; have := HF'.out.w; omega) (fun x hx => HF.out.s _ (mem_fst HEW.out hx)) (fun x hx => HF'.out.s _ (mem_fst HEW'.out hx))).mono ?_
         rintro e v6 ⟨rfl, hw6⟩
         have hv6 : Below w2.heap.size w2 v6 := hv3.trans (hw6.mono hv3.size)
         have x7 := ((HX.out _ hv6).2 7 _ rfl).1
         have y7 := ((HY.out _ hv6).2 7 _ rfl).1
         go_wp2_with fail
         refine (reqHelds_is false a.H d.H a.hs d.hs _ (by rw [HEH.out, HEH'.out]; exact HG7.out) (HI.out _ hv6).held (HI'.out _ hv6).held (by have := HLH.out; have := HF.out.h; omega) (by have := HLH'.out; have := HF'.out.h; omega) (fun x hx => HF.out.l _ (mem_fst HEH.out hx)) (fun x hx => HF'.out.l _ (mem_fst HEH'.out hx))).mono ?_
         rintro e v7 ⟨rfl, hw7⟩
         have hv7 : Below w2.heap.size w2 v7 := hv6.trans (hw7.mono hv6.size)
         go_wp2_with fail
         go_ret
         exact ⟨ret_bool HV.out.symm, hb2.trans (hv7.mono hb2.size)⟩
       ·have HV : Hid (b = false) := by show b = false; rw [← HH.out, decide_eq_false_iff_not]; exact fun e => g6 (by rw [e])
        have HG6 : Hid (decide (P.W = Q.W) = false) := decide_eq_false g6
        clear g6
        go_enter Tryz.func49, Tryz.ntmps49
        go_upto_region 1 with fail
        rw [← HW.out]
        have x0 := ((HX.out _ (Below.refl w2.heap.size w2)).2 0 _ rfl).1
        have y0 := ((HY.out _ (Below.refl w2.heap.size w2)).2 0 _ rfl).1
        have x1 := ((HX.out _ (Below.refl w2.heap.size w2)).2 1 _ rfl).1
        have y1 := ((HY.out _ (Below.refl w2.heap.size w2)).2 1 _ rfl).1
        have x2 := ((HX.out _ (Below.refl w2.heap.size w2)).2 2 _ rfl).1
        have y2 := ((HY.out _ (Below.refl w2.heap.size w2)).2 2 _ rfl).1
        have x3 := ((HX.out _ (Below.refl w2.heap.size w2)).2 3 _ rfl).1
        have y3 := ((HY.out _ (Below.refl w2.heap.size w2)).2 3 _ rfl).1
        go_wp2_with fail
        refine (eqTxs_any a.O.A d.O.A a.O.c d.O.c a.O.n d.O.n P.O Q.O _ (HI.out _ (Below.refl w2.heap.size w2)).open_.len (HI'.out _ (Below.refl w2.heap.size w2)).open_.len (HI.out _ (Below.refl w2.heap.size w2)).open_.rd (HI'.out _ (Below.refl w2.heap.size w2)).open_.rd (by have := (HI.out _ (Below.refl w2.heap.size w2)).open_.len; have := HF.out.o; omega) (by have := (HI'.out _ (Below.refl w2.heap.size w2)).open_.len; have := HF'.out.o; omega)).mono ?_
        rintro e v3 ⟨rfl, dd3, rfl⟩
        rw [HG3.out]
        have hv3 : Below w2.heap.size w2 _ := below_n (Below.refl w2.heap.size w2) dd3
        have x4 := ((HX.out _ hv3).2 4 _ rfl).1
        have y4 := ((HY.out _ hv3).2 4 _ rfl).1
        have x5 := ((HX.out _ hv3).2 5 _ rfl).1
        have y5 := ((HY.out _ hv3).2 5 _ rfl).1
        have x6 := ((HX.out _ hv3).2 6 _ rfl).1
        have y6 := ((HY.out _ hv3).2 6 _ rfl).1
        go_wp2_with fail
        refine (reqWaits_is false a.W d.W a.ms d.ms _ (by rw [HEW.out, HEW'.out]; exact HG6.out) (HI.out _ hv3).waits (HI'.out _ hv3).waits (by have := HLW.out; have := HF.out.w; omega) (by have := HLW'.out; have := HF'.out.w; omega) (fun x hx => HF.out.s _ (mem_fst HEW.out hx)) (fun x hx => HF'.out.s _ (mem_fst HEW'.out hx))).mono ?_
        rintro e v6 ⟨rfl, hw6⟩
        have hv6 : Below w2.heap.size w2 v6 := hv3.trans (hw6.mono hv3.size)
        go_wp2_with fail
        go_ret
        exact ⟨ret_bool HV.out.symm, hb2.trans (hv6.mono hb2.size)⟩
      ·have HV : Hid (b = false) := by show b = false; rw [← HH.out, decide_eq_false_iff_not]; exact fun e => g5 (by rw [e])
       have j5 : (P.c == Q.c) = false := by simp [g5]
       clear g5
       go_enter Tryz.func49, Tryz.ntmps49
       go_upto_region 1 with fail
       rw [← HW.out]
       have x0 := ((HX.out _ (Below.refl w2.heap.size w2)).2 0 _ rfl).1
       have y0 := ((HY.out _ (Below.refl w2.heap.size w2)).2 0 _ rfl).1
       have x1 := ((HX.out _ (Below.refl w2.heap.size w2)).2 1 _ rfl).1
       have y1 := ((HY.out _ (Below.refl w2.heap.size w2)).2 1 _ rfl).1
       have x2 := ((HX.out _ (Below.refl w2.heap.size w2)).2 2 _ rfl).1
       have y2 := ((HY.out _ (Below.refl w2.heap.size w2)).2 2 _ rfl).1
       have x3 := ((HX.out _ (Below.refl w2.heap.size w2)).2 3 _ rfl).1
       have y3 := ((HY.out _ (Below.refl w2.heap.size w2)).2 3 _ rfl).1
       go_wp2_with fail
       refine (eqTxs_any a.O.A d.O.A a.O.c d.O.c a.O.n d.O.n P.O Q.O _ (HI.out _ (Below.refl w2.heap.size w2)).open_.len (HI'.out _ (Below.refl w2.heap.size w2)).open_.len (HI.out _ (Below.refl w2.heap.size w2)).open_.rd (HI'.out _ (Below.refl w2.heap.size w2)).open_.rd (by have := (HI.out _ (Below.refl w2.heap.size w2)).open_.len; have := HF.out.o; omega) (by have := (HI'.out _ (Below.refl w2.heap.size w2)).open_.len; have := HF'.out.o; omega)).mono ?_
       rintro e v3 ⟨rfl, dd3, rfl⟩
       rw [HG3.out]
       have hv3 : Below w2.heap.size w2 _ := below_n (Below.refl w2.heap.size w2) dd3
       have x4 := ((HX.out _ hv3).2 4 _ rfl).1
       have y4 := ((HY.out _ hv3).2 4 _ rfl).1
       have x5 := ((HX.out _ hv3).2 5 _ rfl).1
       have y5 := ((HY.out _ hv3).2 5 _ rfl).1
       go_wp2_with fail
       go_ret
       exact ⟨ret_bool HV.out.symm, hb2.trans (hv3.mono hb2.size)⟩
     ·have HV : Hid (b = false) := by show b = false; rw [← HH.out, decide_eq_false_iff_not]; exact fun e => g4 (by rw [e])
      have j4 : (P.g == Q.g) = false := by simp [g4]
      clear g4
      go_enter Tryz.func49, Tryz.ntmps49
      go_upto_region 1 with fail
      rw [← HW.out]
      have x0 := ((HX.out _ (Below.refl w2.heap.size w2)).2 0 _ rfl).1
      have y0 := ((HY.out _ (Below.refl w2.heap.size w2)).2 0 _ rfl).1
      have x1 := ((HX.out _ (Below.refl w2.heap.size w2)).2 1 _ rfl).1
      have y1 := ((HY.out _ (Below.refl w2.heap.size w2)).2 1 _ rfl).1
      have x2 := ((HX.out _ (Below.refl w2.heap.size w2)).2 2 _ rfl).1
      have y2 := ((HY.out _ (Below.refl w2.heap.size w2)).2 2 _ rfl).1
      have x3 := ((HX.out _ (Below.refl w2.heap.size w2)).2 3 _ rfl).1
      have y3 := ((HY.out _ (Below.refl w2.heap.size w2)).2 3 _ rfl).1
      go_wp2_with fail
      refine (eqTxs_any a.O.A d.O.A a.O.c d.O.c a.O.n d.O.n P.O Q.O _ (HI.out _ (Below.refl w2.heap.size w2)).open_.len (HI'.out _ (Below.refl w2.heap.size w2)).open_.len (HI.out _ (Below.refl w2.heap.size w2)).open_.rd (HI'.out _ (Below.refl w2.heap.size w2)).open_.rd (by have := (HI.out _ (Below.refl w2.heap.size w2)).open_.len; have := HF.out.o; omega) (by have := (HI'.out _ (Below.refl w2.heap.size w2)).open_.len; have := HF'.out.o; omega)).mono ?_
      rintro e v3 ⟨rfl, dd3, rfl⟩
      rw [HG3.out]
      have hv3 : Below w2.heap.size w2 _ := below_n (Below.refl w2.heap.size w2) dd3
      have x4 := ((HX.out _ hv3).2 4 _ rfl).1
      have y4 := ((HY.out _ hv3).2 4 _ rfl).1
      go_wp2_with fail
      go_ret
      exact ⟨ret_bool HV.out.symm, hb2.trans (hv3.mono hb2.size)⟩
    ·have HV : Hid (b = false) := by show b = false; rw [← HH.out, decide_eq_false_iff_not]; exact fun e => g3 (by rw [e])
     have HG3 : Hid (decide (P.O = Q.O) = false) := decide_eq_false g3
     clear g3
     go_enter Tryz.func49, Tryz.ntmps49
     go_upto_region 1 with fail
     rw [← HW.out]
     have x0 := ((HX.out _ (Below.refl w2.heap.size w2)).2 0 _ rfl).1
     have y0 := ((HY.out _ (Below.refl w2.heap.size w2)).2 0 _ rfl).1
     have x1 := ((HX.out _ (Below.refl w2.heap.size w2)).2 1 _ rfl).1
     have y1 := ((HY.out _ (Below.refl w2.heap.size w2)).2 1 _ rfl).1
     have x2 := ((HX.out _ (Below.refl w2.heap.size w2)).2 2 _ rfl).1
     have y2 := ((HY.out _ (Below.refl w2.heap.size w2)).2 2 _ rfl).1
     have x3 := ((HX.out _ (Below.refl w2.heap.size w2)).2 3 _ rfl).1
     have y3 := ((HY.out _ (Below.refl w2.heap.size w2)).2 3 _ rfl).1
     go_wp2_with fail
     refine (eqTxs_any a.O.A d.O.A a.O.c d.O.c a.O.n d.O.n P.O Q.O _ (HI.out _ (Below.refl w2.heap.size w2)).open_.len (HI'.out _ (Below.refl w2.heap.size w2)).open_.len (HI.out _ (Below.refl w2.heap.size w2)).open_.rd (HI'.out _ (Below.refl w2.heap.size w2)).open_.rd (by have := (HI.out _ (Below.refl w2.heap.size w2)).open_.len; have := HF.out.o; omega) (by have := (HI'.out _ (Below.refl w2.heap.size w2)).open_.len; have := HF'.out.o; omega)).mono ?_
     rintro e v3 ⟨rfl, dd3, rfl⟩
     rw [HG3.out]
     have hv3 : Below w2.heap.size w2 _ := below_n (Below.refl w2.heap.size w2) dd3
     go_wp2_with fail
     go_ret
     exact ⟨ret_bool HV.out.symm, hb2.trans (hv3.mono hb2.size)⟩
   ·have HV : Hid (b = false) := by show b = false; rw [← HH.out, decide_eq_false_iff_not]; exact fun e => g2 (by rw [e])
    have j2 : (P.x == Q.x) = false := by simp [g2]
    clear g2
    go_enter Tryz.func49, Tryz.ntmps49
    go_upto_region 1 with fail
    rw [← HW.out]
    have x0 := ((HX.out _ (Below.refl w2.heap.size w2)).2 0 _ rfl).1
    have y0 := ((HY.out _ (Below.refl w2.heap.size w2)).2 0 _ rfl).1
    have x1 := ((HX.out _ (Below.refl w2.heap.size w2)).2 1 _ rfl).1
    have y1 := ((HY.out _ (Below.refl w2.heap.size w2)).2 1 _ rfl).1
    have x2 := ((HX.out _ (Below.refl w2.heap.size w2)).2 2 _ rfl).1
    have y2 := ((HY.out _ (Below.refl w2.heap.size w2)).2 2 _ rfl).1
    go_wp2_with fail
    go_ret
    exact ⟨ret_bool HV.out.symm, hb2.trans ((Below.refl w2.heap.size w2).mono hb2.size)⟩
  ·have HV : Hid (b = false) := by show b = false; rw [← HH.out, decide_eq_false_iff_not]; exact fun e => g1 (by rw [e])
   have j1 : (P.N == Q.N) = false := by simp [g1]
   clear g1
   go_enter Tryz.func49, Tryz.ntmps49
   go_upto_region 1 with fail
   rw [← HW.out]
   have x0 := ((HX.out _ (Below.refl w2.heap.size w2)).2 0 _ rfl).1
   have y0 := ((HY.out _ (Below.refl w2.heap.size w2)).2 0 _ rfl).1
   have x1 := ((HX.out _ (Below.refl w2.heap.size w2)).2 1 _ rfl).1
   have y1 := ((HY.out _ (Below.refl w2.heap.size w2)).2 1 _ rfl).1
   go_wp2_with fail
   go_ret
   exact ⟨ret_bool HV.out.symm, hb2.trans ((Below.refl w2.heap.size w2).mono hb2.size)⟩
 ·have HV : Hid (b = false) := by show b = false; rw [← HH.out, decide_eq_false_iff_not]; exact fun e => g0 (by rw [e])
  have j0 : (P.i == Q.i) = false := by simp [g0]
  clear g0
  go_enter Tryz.func49, Tryz.ntmps49
  go_upto_region 1 with fail
  rw [← HW.out]
  have x0 := ((HX.out _ (Below.refl w2.heap.size w2)).2 0 _ rfl).1
  have y0 := ((HY.out _ (Below.refl w2.heap.size w2)).2 0 _ rfl).1
  go_wp2_with fail
  go_ret
  exact ⟨ret_bool HV.out.symm, hb2.trans ((Below.refl w2.heap.size w2).mono hb2.size)⟩

end Go.Proofs.YteepobghdpnabaaGreat
