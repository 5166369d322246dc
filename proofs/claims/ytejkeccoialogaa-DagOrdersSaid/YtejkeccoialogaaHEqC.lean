/-
  Whether two certificates are the same, by the page.
-/
import Derived.Test.YtejkeccoialogaaHCopy
import Derived.Test.YtejkeccoialogaaHOks
import Derived.Test.YtejkeccoialogaaCalm
import Derived.Test.YtejkeccoialogaaSl
namespace Go.Proofs.Ytejkeccoialogaa
open Go.RowKit

def eqCer (a r : Int) (B P : List Int) (d : Int) (S : List Int) (a' r' : Int) (B' P' : List Int) (d' : Int) (S' : List Int) : Bool := decide ((a = a' ∧ r = r' ∧ B = B' ∧ P = P') ∧ d = d' ∧ S = S')
theorem eqCer_same (a r : Int) (B P : List Int) (d : Int) (S : List Int) : eqCer a r B P d S a r B P d S = true := by simp [eqCer]

set_option maxHeartbeats 4000000 in
theorem reqCer_is (b : Bool) (a r : Int) (AB : Option Addr) (cB nB : Nat) (B : List Int) (AP : Option Addr) (cP nP : Nat) (P : List Int) (d : Int) (AS : Option Addr) (cS nS : Nat) (S : List Int) (a' r' : Int) (AB' : Option Addr) (cB' nB' : Nat) (B' : List Int) (AP' : Option Addr) (cP' nP' : Nat) (P' : List Int) (d' : Int) (AS' : Option Addr) (cS' nS' : Nat) (S' : List Int) (w : World) (h : eqCer a r B P d S a' r' B' P' d' S' = b)
    (hzB : B.length = nB) (hrB : Rd w AB (i64s B)) (hnB : nB ≤ 1073741824) (hzP : P.length = nP) (hrP : Rd w AP (i64s P)) (hnP : nP ≤ 1073741824) (hzS : S.length = nS) (hrS : Rd w AS (i64s S)) (hnS : nS ≤ 1073741824)
    (hzB' : B'.length = nB') (hrB' : Rd w AB' (i64s B')) (hnB' : nB' ≤ 1073741824) (hzP' : P'.length = nP') (hrP' : Rd w AP' (i64s P')) (hnP' : nP' ≤ 1073741824) (hzS' : S'.length = nS') (hrS' : Rd w AS' (i64s S')) (hnS' : nS' ≤ 1073741824) :
    Calls Try.prog 18 #[.agg #[.int .i64 a, .int .i64 r, .slice AB nB cB, .slice AP nP cP, .int .i64 d, .slice AS nS cS], .agg #[.int .i64 a', .int .i64 r', .slice AB' nB' cB', .slice AP' nP' cP', .int .i64 d', .slice AS' nS' cS']] w (Tells w.heap.size w (.bool b)) := by
  obtain ⟨w2, hw2⟩ : ∃ w2, w2 = (w.alloc (.cells #[.int .i64 a, .int .i64 r, .slice AB nB cB, .slice AP nP cP, .int .i64 d, .slice AS nS cS] 37)).alloc (.cells #[.int .i64 a', .int .i64 r', .slice AB' nB' cB', .slice AP' nP' cP', .int .i64 d', .slice AS' nS' cS'] 37) := ⟨_, rfl⟩
  have hb2 : Below w.heap.size w w2 := by rw [hw2]; exact ((Below.refl _ _).alloc (Nat.le_refl _) _).alloc (by simp) _
  have bx : Box w2 w.heap.size [.int .i64 a, .int .i64 r, .slice AB nB cB, .slice AP nP cP, .int .i64 d, .slice AS nS cS] := by
    rw [hw2]
    exact (box_new w [.int .i64 a, .int .i64 r, .slice AB nB cB, .slice AP nP cP, .int .i64 d, .slice AS nS cS] 37).below ((Below.refl _ _).alloc (Nat.le_refl _) _) (by simp)
  have by_ : Box w2 (w.heap.size + 1) [.int .i64 a', .int .i64 r', .slice AB' nB' cB', .slice AP' nP' cP', .int .i64 d', .slice AS' nS' cS'] := by
    rw [hw2]
    have h := box_new (w.alloc (.cells #[.int .i64 a, .int .i64 r, .slice AB nB cB, .slice AP nP cP, .int .i64 d, .slice AS nS cS] 37)) [.int .i64 a', .int .i64 r', .slice AB' nB' cB', .slice AP' nP' cP', .int .i64 d', .slice AS' nS' cS'] 37
    have e : (w.alloc (.cells #[.int .i64 a, .int .i64 r, .slice AB nB cB, .slice AP nP cP, .int .i64 d, .slice AS nS cS] 37)).heap.size = w.heap.size + 1 := by simp
    rw [e] at h
    exact h
  have HW := Lib.hid hw2
  have HX := Lib.hid bx
  have HY := Lib.hid by_
  have HZB := Lib.hid hzB
  have HZP := Lib.hid hzP
  have HZS := Lib.hid hzS
  have HZB' := Lib.hid hzB'
  have HZP' := Lib.hid hzP'
  have HZS' := Lib.hid hzS'
  have HE : Hid (eqCer a r B P d S a' r' B' P' d' S' = b) := h
  clear hw2 bx by_ hzB hzP hzS hzB' hzP' hzS' h
  cases hH : eqHdr a r B P a' r' B' P' with
  | false =>
    have HV : Hid (b = false) := by
      show b = false
      rw [← HE.out, eqCer, decide_eq_false_iff_not]
      exact fun h => by rw [eqHdr, decide_eq_false_iff_not] at hH; exact hH h.1
    have HH := Lib.hid hH
    clear hH
    go_enter Try.func18, Try.ntmps18
    go_wp2_with fail
    rw [← HW.out]
    refine (reqHdr_is false a r AB cB nB B AP cP nP P a' r' AB' cB' nB' B' AP' cP' nP' P' _ HH.out HZB.out (hrB.below hb2) hnB HZP.out (hrP.below hb2) hnP HZB'.out (hrB'.below hb2) hnB' HZP'.out (hrP'.below hb2) hnP').mono ?_
    rintro e w3 ⟨rfl, hb3⟩
    go_wp2_with fail
    go_ret
    exact ⟨ret_bool HV.out.symm, hb2.trans (hb3.mono hb2.size)⟩
  | true =>
    have hHt : a = a' ∧ r = r' ∧ B = B' ∧ P = P' := by rw [eqHdr, decide_eq_true_eq] at hH; exact hH
    have HH := Lib.hid hH
    clear hH
    by_cases g1 : d = d'
    · have HV : Hid (decide (S = S') = b) := by
        show decide (S = S') = b
        rw [← HE.out, eqCer, decide_eq_decide]
        exact ⟨fun h => ⟨hHt, g1, h⟩, fun h => h.2.2⟩
      have j1 : (d == d') = true := by simp [g1]
      clear g1 hHt
      go_enter Try.func18, Try.ntmps18
      go_wp2_with fail
      rw [← HW.out]
      refine (reqHdr_is true a r AB cB nB B AP cP nP P a' r' AB' cB' nB' B' AP' cP' nP' P' _ HH.out HZB.out (hrB.below hb2) hnB HZP.out (hrP.below hb2) hnP HZB'.out (hrB'.below hb2) hnB' HZP'.out (hrP'.below hb2) hnP').mono ?_
      rintro e w3 ⟨rfl, hb3⟩
      have hb4 := hb2.trans (hb3.mono hb2.size)
      have hX3 := HX.out.below hb3 HX.out.1
      have hY3 := HY.out.below hb3 HY.out.1
      have x4 := (hX3.2 4 _ rfl).1
      have x5 := (hX3.2 5 _ rfl).1
      have y4 := (hY3.2 4 _ rfl).1
      have y5 := (hY3.2 5 _ rfl).1
      clear hX3 hY3
      go_wp2_with fail
      refine (eqNumbers_any AS AS' cS cS' nS nS' S S' _ HZS.out HZS'.out (hrS.below hb4) (hrS'.below hb4) hnS hnS').mono ?_
      rintro e w5 ⟨rfl, dS, rfl⟩
      rw [HV.out]
      go_wp2_with fail
      go_ret
      exact ⟨rfl, below_n hb4 _⟩
    · have HV : Hid (b = false) := by show b = false; rw [← HE.out, eqCer, decide_eq_false_iff_not]; exact fun h => g1 h.2.1
      have j1 : (d == d') = false := by simp [g1]
      clear g1 hHt
      go_enter Try.func18, Try.ntmps18
      go_wp2_with fail
      rw [← HW.out]
      refine (reqHdr_is true a r AB cB nB B AP cP nP P a' r' AB' cB' nB' B' AP' cP' nP' P' _ HH.out HZB.out (hrB.below hb2) hnB HZP.out (hrP.below hb2) hnP HZB'.out (hrB'.below hb2) hnB' HZP'.out (hrP'.below hb2) hnP').mono ?_
      rintro e w3 ⟨rfl, hb3⟩
      have hX3 := HX.out.below hb3 HX.out.1
      have hY3 := HY.out.below hb3 HY.out.1
      have x4 := (hX3.2 4 _ rfl).1
      have y4 := (hY3.2 4 _ rfl).1
      clear hX3 hY3
      go_wp2_with fail
      go_ret
      exact ⟨ret_bool HV.out.symm, hb2.trans (hb3.mono hb2.size)⟩


end Go.Proofs.Ytejkeccoialogaa
