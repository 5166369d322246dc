/-
  Headers and certificates: copies, comparisons, the writing over of answers, their weights.
-/
import Derived.Test.YtejkeccoialogaaHValid
import Derived.Test.YtejkeccoialogaaEqs
import Derived.Test.YtejkeccoialogaaFoot
namespace Go.Proofs.Ytejkeccoialogaa
open Go.RowKit

theorem bcellH {W w1 : World} (hb : Below W.heap.size W w1) : (∀ b o, b < W.heap.size → w1.cell? ⟨b, o, none⟩ = W.cell? ⟨b, o, none⟩) ∧ (∀ b o, b < W.heap.size → w1.frozen? ⟨b, o, none⟩ = W.frozen? ⟨b, o, none⟩) :=
  ⟨fun b o h => hb.cell (p := ⟨b, o, none⟩) h, fun b o h => hb.frozen (p := ⟨b, o, none⟩) h⟩

/-! ### comparisons -/
set_option maxHeartbeats 2000000 in
theorem reqHdr_is (b : Bool) (a r : Int) (AB : Option Addr) (cB nB : Nat) (B : List Int) (AP : Option Addr) (cP nP : Nat) (P : List Int) (a' r' : Int) (AB' : Option Addr) (cB' nB' : Nat) (B' : List Int) (AP' : Option Addr) (cP' nP' : Nat) (P' : List Int) (w : World) (h : eqHdr a r B P a' r' B' P' = b) (hzB : B.length = nB) (hrB : Rd w AB (i64s B)) (hnB : nB ≤ 1073741824) (hzP : P.length = nP) (hrP : Rd w AP (i64s P)) (hnP : nP ≤ 1073741824) (hzB' : B'.length = nB') (hrB' : Rd w AB' (i64s B')) (hnB' : nB' ≤ 1073741824) (hzP' : P'.length = nP') (hrP' : Rd w AP' (i64s P')) (hnP' : nP' ≤ 1073741824) :
    Calls Try.prog 59 #[.agg #[.int .i64 a, .int .i64 r, .slice AB nB cB, .slice AP nP cP], .agg #[.int .i64 a', .int .i64 r', .slice AB' nB' cB', .slice AP' nP' cP']] w (Tells w.heap.size w (.bool b)) := by
  subst h
  have HZB := Lib.hid hzB
  have HZP := Lib.hid hzP
  have HZB' := Lib.hid hzB'
  have HZP' := Lib.hid hzP'
  clear hzB hzP hzB' hzP'
  have hb3 : Below w.heap.size w ((w.alloc (.cells #[.int .i64 a, .int .i64 r, .slice AB nB cB, .slice AP nP cP] 35)).alloc (.cells #[.int .i64 a', .int .i64 r', .slice AB' nB' cB', .slice AP' nP' cP'] 35)) := ((Below.refl _ _).alloc (Nat.le_refl _) _).alloc (by simp) _
  by_cases g1 : a = a'
  · by_cases g2 : r = r'
    · have j1 : (a == a') = true := by simp [g1]
      have j2 : (r == r') = true := by simp [g2]
      cases hB : decide (B = B') with
      | false =>
        have HV : Hid (eqHdr a r B P a' r' B' P' = false) := by show eqHdr a r B P a' r' B' P' = false; rw [eqHdr, decide_eq_false_iff_not]; exact fun h => (of_decide_eq_false hB) h.2.2.1
        have HB := Lib.hid hB
        clear hB g1 g2
        go_enter Try.func59, Try.ntmps59
        go_wp2_with fail
        refine (eqNumbers_any AB AB' cB cB' nB nB' B B' _ HZB.out HZB'.out ((hrB.alloc _).alloc _) ((hrB'.alloc _).alloc _) hnB hnB').mono ?_
        rintro e w1 ⟨rfl, dB, rfl⟩
        rw [HB.out]
        go_wp2_with fail
        go_ret
        exact ⟨ret_boolH (by rw [HV.out]; first | done | rfl | simp), below_n hb3 _⟩
      | true =>
        have HV : Hid (eqHdr a r B P a' r' B' P' = decide (P = P')) := by show eqHdr a r B P a' r' B' P' = decide (P = P'); have hB' := of_decide_eq_true hB; rw [eqHdr, decide_eq_decide]; exact ⟨fun h => h.2.2.2, fun h => ⟨g1, g2, hB', h⟩⟩
        have HB := Lib.hid hB
        clear hB g1 g2
        go_enter Try.func59, Try.ntmps59
        go_wp2_with fail
        refine (eqNumbers_any AB AB' cB cB' nB nB' B B' _ HZB.out HZB'.out ((hrB.alloc _).alloc _) ((hrB'.alloc _).alloc _) hnB hnB').mono ?_
        rintro e w1 ⟨rfl, dB, rfl⟩
        rw [HB.out]
        go_wp2_with fail
        refine (eqNumbers_any AP AP' cP cP' nP nP' P P' _ HZP.out HZP'.out (((hrP.alloc _).alloc _).drewN _) (((hrP'.alloc _).alloc _).drewN _) hnP hnP').mono ?_
        rintro e w1 ⟨rfl, dP, rfl⟩
        go_wp2_with fail
        go_ret
        exact ⟨ret_boolH (by rw [HV.out]; first | done | rfl | simp), (by first | exact below_n hb3 _ | exact below_n (below_n hb3 _) _)⟩
    · have HV : Hid (eqHdr a r B P a' r' B' P' = false) := by show eqHdr a r B P a' r' B' P' = false; rw [eqHdr, decide_eq_false_iff_not]; exact fun h => g2 h.2.1
      have j1 : (a == a') = true := by simp [g1]
      have j2 : (r == r') = false := by simp [g2]
      clear g1 g2
      go_enter Try.func59, Try.ntmps59
      go_wp2_with fail
      go_ret
      exact ⟨ret_boolH (by rw [HV.out]; first | done | rfl | simp), hb3⟩
  · have HV : Hid (eqHdr a r B P a' r' B' P' = false) := by show eqHdr a r B P a' r' B' P' = false; rw [eqHdr, decide_eq_false_iff_not]; exact fun h => g1 h.1
    have j1 : (a == a') = false := by simp [g1]
    clear g1
    go_enter Try.func59, Try.ntmps59
    go_wp2_with fail
    go_ret
    exact ⟨ret_boolH (by rw [HV.out]; first | done | rfl | simp), hb3⟩

/-- of the same with other memory -/
theorem reqCert_same (a r : Int) (AB : Option Addr) (cB nB : Nat) (B : List Int) (AP : Option Addr) (cP nP : Nat) (P : List Int) (d : Int) (AS : Option Addr) (cS nS : Nat) (S : List Int) (AB' : Option Addr) (cB' : Nat) (AP' : Option Addr) (cP' : Nat) (AS' : Option Addr) (cS' : Nat) (w : World) (hzB : B.length = nB) (hrB : Rd w AB (i64s B)) (hnB : nB ≤ 1073741824) (hzP : P.length = nP) (hrP : Rd w AP (i64s P)) (hnP : nP ≤ 1073741824) (hzS : S.length = nS) (hrS : Rd w AS (i64s S)) (hnS : nS ≤ 1073741824) (hrB' : Rd w AB' (i64s B)) (hrP' : Rd w AP' (i64s P)) (hrS' : Rd w AS' (i64s S)) :
    Calls Try.prog 18 #[.agg #[.int .i64 a, .int .i64 r, .slice AB nB cB, .slice AP nP cP, .int .i64 d, .slice AS nS cS], .agg #[.int .i64 a, .int .i64 r, .slice AB' nB cB', .slice AP' nP cP', .int .i64 d, .slice AS' nS cS']] w (Tells w.heap.size w (.bool true)) := by
  have HZB := Lib.hid hzB
  have HZP := Lib.hid hzP
  have HZS := Lib.hid hzS
  clear hzB hzP hzS
  obtain ⟨w2, hw2⟩ : ∃ w2, w2 = (w.alloc (.cells #[.int .i64 a, .int .i64 r, .slice AB nB cB, .slice AP nP cP, .int .i64 d, .slice AS nS cS] 37)).alloc (.cells #[.int .i64 a, .int .i64 r, .slice AB' nB cB', .slice AP' nP cP', .int .i64 d, .slice AS' nS cS'] 37) := ⟨_, rfl⟩
  have hb2 : Below w.heap.size w w2 := by rw [hw2]; exact ((Below.refl _ _).alloc (Nat.le_refl _) _).alloc (by simp) _
  have hl2 : w.heap.size + 1 < w2.heap.size := by rw [hw2]; simp
  have hl0 : w.heap.size < w2.heap.size := Nat.lt_of_succ_lt hl2
  have k4 : w2.cell? ⟨w.heap.size, 4, none⟩ = some (.int .i64 d) := by rw [hw2, (((Below.refl _ _).alloc (Nat.le_refl _) _).cell (p := ⟨w.heap.size, 4, none⟩) (by simp)), World.cell?_alloc_at _ _ _ _ rfl]; rfl
  have k5 : w2.cell? ⟨w.heap.size, 5, none⟩ = some (.slice AS nS cS) := by rw [hw2, (((Below.refl _ _).alloc (Nat.le_refl _) _).cell (p := ⟨w.heap.size, 5, none⟩) (by simp)), World.cell?_alloc_at _ _ _ _ rfl]; rfl
  have m4 : w2.cell? ⟨w.heap.size + 1, 4, none⟩ = some (.int .i64 d) := by rw [hw2, World.cell?_alloc_at _ _ _ _ (by simp)]; rfl
  have m5 : w2.cell? ⟨w.heap.size + 1, 5, none⟩ = some (.slice AS' nS cS') := by rw [hw2, World.cell?_alloc_at _ _ _ _ (by simp)]; rfl
  have HC : Hid (∀ wX, Below w2.heap.size w2 wX → (wX.cell? ⟨w.heap.size, 4, none⟩ = some (.int .i64 d) ∧ wX.cell? ⟨w.heap.size, 5, none⟩ = some (.slice AS nS cS)) ∧ wX.cell? ⟨w.heap.size + 1, 4, none⟩ = some (.int .i64 d) ∧ wX.cell? ⟨w.heap.size + 1, 5, none⟩ = some (.slice AS' nS cS')) := fun wX h =>
    ⟨⟨(h.cell (p := ⟨w.heap.size, 4, none⟩) hl0).trans k4, (h.cell (p := ⟨w.heap.size, 5, none⟩) hl0).trans k5⟩, (h.cell (p := ⟨w.heap.size + 1, 4, none⟩) hl2).trans m4, (h.cell (p := ⟨w.heap.size + 1, 5, none⟩) hl2).trans m5⟩
  have HW2 := Lib.hid hw2
  have HE := Lib.hid (eqHdr_same a r B P)
  clear hw2 k4 k5 m4 m5
  go_enter Try.func18, Try.ntmps18
  go_wp2_with fail
  rw [← HW2.out]
  refine (reqHdr_is true a r AB cB nB B AP cP nP P a r AB' cB' nB B AP' cP' nP P _ HE.out HZB.out (hrB.below (hb2.mono (Nat.le_refl _))) hnB HZP.out (hrP.below hb2) hnP HZB.out (hrB'.below hb2) hnB HZP.out (hrP'.below hb2) hnP).mono ?_
  rintro e w3 ⟨rfl, hb3⟩
  obtain ⟨⟨k4, k5⟩, m4, m5⟩ := HC.out _ hb3
  have hb4 := hb2.trans (hb3.mono hb2.size)
  go_wp2_with fail
  refine (eqNumbers_any AS AS' cS cS' nS nS S S _ HZS.out HZS.out (hrS.below hb4) (hrS'.below hb4) hnS hnS).mono ?_
  rintro e w5 ⟨rfl, dS, rfl⟩
  go_wp2_with fail
  go_ret
  exact ⟨ret_boolH (by first | done | rfl | simp), below_n hb4 _⟩

/-! ### copies -/
set_option maxHeartbeats 4000000 in
theorem rcopyHdr_any (a r : Int) (AB : Option Addr) (cB nB : Nat) (B : List Int) (AP : Option Addr) (cP nP : Nat) (P : List Int) (w : World) (hzB : B.length = nB) (hrB : Rd w AB (i64s B)) (hnB : nB ≤ 1073741824) (hzP : P.length = nP) (hrP : Rd w AP (i64s P)) (hnP : nP ≤ 1073741824) (hcB : nB ≤ cB) (hcP : nP ≤ cP) :
    Calls Try.prog 48 #[.agg #[.int .i64 a, .int .i64 r, .slice AB nB cB, .slice AP nP cP]] w fun e w' => ∃ AB' cB' AP' cP', e = .returned (.agg #[.int .i64 a, .int .i64 r, .slice AB' nB cB', .slice AP' nP cP']) ∧
      w'.ownsRow w.heap.size 3 1 (.slice AB' nB cB') nB (i64s B) ∧ w'.ownsRow w.heap.size 3 1 (.slice AP' nP cP') nP (i64s P) ∧ Below w.heap.size w w' := by
  have HZB := Lib.hid hzB
  have HZP := Lib.hid hzP
  clear hzB hzP
  go_enter Try.func48, Try.ntmps48
  go_wp2_with fail
  refine (copyNumbers_any AB cB nB B _ HZB.out (((hrB.alloc _).alloc _).alloc _) hcB hnB).mono ?_
  rintro e w1 ⟨v, rfl, ho, hb⟩
  have hob := own_cast ho ((i64s_length _).trans HZB.out)
  obtain ⟨AB', cB', rfl, _, _, _, _, _⟩ := own_val hob
  obtain ⟨hcc, hff⟩ := bcellH hb
  have hz : w.heap.size + 1 + 1 < w1.heap.size := by have := hb.size; simp at this; omega
  have hz1 : w.heap.size + 1 < w1.heap.size := by omega
  have hz0 : w.heap.size < w1.heap.size := by omega
  have hb3 : Below w.heap.size w w1 := ((((Below.refl _ _).alloc (Nat.le_refl _) _).alloc (by simp) _).alloc (by simp; omega) _).trans (hb.mono (by simp; omega))
  have hb4 : Below w.heap.size w (w1.setCell ⟨w.heap.size + 1 + 1, 2, none⟩ (.slice AB' nB cB')) := hb3.setCell (by show w.heap.size ≤ w.heap.size + 1 + 1; omega) _
  go_wp2_with fail
  refine (copyNumbers_any AP cP nP P _ HZP.out (hrP.below hb4) hcP hnP).mono ?_
  rintro e w5 ⟨v5, rfl, ho5, hb5⟩
  have hop := own_cast ho5 ((i64s_length _).trans HZP.out)
  obtain ⟨AP', cP', rfl, _, _, _, _, _⟩ := own_val hop
  obtain ⟨hcc5, hff5⟩ := bcellH hb5
  have hz5 : w.heap.size + 1 + 1 < w5.heap.size := by have := hb5.size; simp at this; omega
  go_wp2_with fail
  refine bodyPost_ret (v := .agg #[.int .i64 a, .int .i64 r, .slice AB' nB cB', .slice AP' nP cP']) (by simp [results, Try.results48, go_sem, hcc, hcc5, hz1]) rfl ⟨AB', cB', AP', cP', rfl, ?_, ?_, ?_⟩
  · have h1 := own_below (ownsRow_setCell_below hob (by simp) (.slice AB' nB cB')) hb5
    exact ownS_more (ownsRow_setCell_below (ownsRow_setCell_below (ownsRow_setCell_below (ownsRow_setCell_below (ownsRow_setCell_below h1 (by simp) _) (by simp) _) (by simp) _) (by simp) _) (by simp) _) (by simp; omega)
  · exact ownS_more (ownsRow_setCell_below (ownsRow_setCell_below (ownsRow_setCell_below (ownsRow_setCell_below (ownsRow_setCell_below hop (by simp; omega) _) (by simp; omega) _) (by simp; omega) _) (by simp; omega) _) (by simp; omega) _) hb4.size
  · have hb6 := hb4.trans (hb5.mono hb4.size)
    exact ((((hb6.setCell (by show w.heap.size ≤ w.heap.size + 1 + 1; omega) _).setCell (by simp) _).setCell (by simp) _).setCell (by simp) _).setCell (by simp) _

set_option maxHeartbeats 4000000 in
theorem rcopyCert_any (a r : Int) (AB : Option Addr) (cB nB : Nat) (B : List Int) (AP : Option Addr) (cP nP : Nat) (P : List Int) (d : Int) (AS : Option Addr) (cS nS : Nat) (S : List Int) (w : World) (hzB : B.length = nB) (hrB : Rd w AB (i64s B)) (hnB : nB ≤ 1073741824) (hzP : P.length = nP) (hrP : Rd w AP (i64s P)) (hnP : nP ≤ 1073741824) (hzS : S.length = nS) (hrS : Rd w AS (i64s S)) (hnS : nS ≤ 1073741824) (hcB : nB ≤ cB) (hcP : nP ≤ cP) (hcS : nS ≤ cS) :
    Calls Try.prog 14 #[.agg #[.int .i64 a, .int .i64 r, .slice AB nB cB, .slice AP nP cP, .int .i64 d, .slice AS nS cS]] w fun e w' => ∃ AB' cB' AP' cP' AS' cS', e = .returned (.agg #[.int .i64 a, .int .i64 r, .slice AB' nB cB', .slice AP' nP cP', .int .i64 d, .slice AS' nS cS']) ∧
      w'.ownsRow w.heap.size 3 1 (.slice AB' nB cB') nB (i64s B) ∧ w'.ownsRow w.heap.size 3 1 (.slice AP' nP cP') nP (i64s P) ∧ w'.ownsRow w.heap.size 3 1 (.slice AS' nS cS') nS (i64s S) ∧ Below w.heap.size w w' := by
  have HZB := Lib.hid hzB
  have HZP := Lib.hid hzP
  have HZS := Lib.hid hzS
  clear hzB hzP hzS
  go_enter Try.func14, Try.ntmps14
  go_wp2_with fail
  refine (rcopyHdr_any a r AB cB nB B AP cP nP P _ HZB.out (((hrB.alloc _).alloc _).alloc _) hnB HZP.out (((hrP.alloc _).alloc _).alloc _) hnP hcB hcP).mono ?_
  rintro e w1 ⟨AB', cB', AP', cP', rfl, hob, hop, hb⟩
  obtain ⟨hcc, hff⟩ := bcellH hb
  have hz : w.heap.size + 1 + 1 < w1.heap.size := by have := hb.size; simp at this; omega
  have hz1 : w.heap.size + 1 < w1.heap.size := by omega
  have hb3 : Below w.heap.size w w1 := ((((Below.refl _ _).alloc (Nat.le_refl _) _).alloc (by simp) _).alloc (by simp; omega) _).trans (hb.mono (by simp; omega))
  have hb4 : Below w.heap.size w ((((w1.setCell ⟨w.heap.size + 1 + 1, 0, none⟩ (.int .i64 a)).setCell ⟨w.heap.size + 1 + 1, 1, none⟩ (.int .i64 r)).setCell ⟨w.heap.size + 1 + 1, 2, none⟩ (.slice AB' nB cB')).setCell ⟨w.heap.size + 1 + 1, 3, none⟩ (.slice AP' nP cP')) :=
    (((hb3.setCell (by show w.heap.size ≤ w.heap.size + 1 + 1; omega) _).setCell (by show w.heap.size ≤ w.heap.size + 1 + 1; omega) _).setCell (by show w.heap.size ≤ w.heap.size + 1 + 1; omega) _).setCell (by show w.heap.size ≤ w.heap.size + 1 + 1; omega) _
  go_wp2_with fail
  refine (copyNumbers_any AS cS nS S _ HZS.out (hrS.below hb4) hcS hnS).mono ?_
  rintro e w5 ⟨v5, rfl, ho5, hb5⟩
  have hos := own_cast ho5 ((i64s_length _).trans HZS.out)
  obtain ⟨AS', cS', rfl, _, _, _, _, _⟩ := own_val hos
  obtain ⟨hcc5, hff5⟩ := bcellH hb5
  go_wp2_with fail
  refine bodyPost_ret (v := .agg #[.int .i64 a, .int .i64 r, .slice AB' nB cB', .slice AP' nP cP', .int .i64 d, .slice AS' nS cS']) (by simp [results, Try.results14, go_sem, hcc, hcc5, hz1]) rfl ⟨AB', cB', AP', cP', AS', cS', rfl, ?_, ?_, ?_, ?_⟩
  · have h1 := own_below (ownsRow_setCell_below (ownsRow_setCell_below (ownsRow_setCell_below (ownsRow_setCell_below hob (by simp) (.int .i64 a)) (by simp) (.int .i64 r)) (by simp) (.slice AB' nB cB')) (by simp) (.slice AP' nP cP')) hb5
    exact ownS_more (ownsRow_setCell_below (ownsRow_setCell_below (ownsRow_setCell_below (ownsRow_setCell_below (ownsRow_setCell_below (ownsRow_setCell_below (ownsRow_setCell_below h1 (by simp) _) (by simp) _) (by simp) _) (by simp) _) (by simp) _) (by simp) _) (by simp) _) (by simp; omega)
  · have h1 := own_below (ownsRow_setCell_below (ownsRow_setCell_below (ownsRow_setCell_below (ownsRow_setCell_below hop (by simp) (.int .i64 a)) (by simp) (.int .i64 r)) (by simp) (.slice AB' nB cB')) (by simp) (.slice AP' nP cP')) hb5
    exact ownS_more (ownsRow_setCell_below (ownsRow_setCell_below (ownsRow_setCell_below (ownsRow_setCell_below (ownsRow_setCell_below (ownsRow_setCell_below (ownsRow_setCell_below h1 (by simp) _) (by simp) _) (by simp) _) (by simp) _) (by simp) _) (by simp) _) (by simp) _) (by simp; omega)
  · exact ownS_more (ownsRow_setCell_below (ownsRow_setCell_below (ownsRow_setCell_below (ownsRow_setCell_below (ownsRow_setCell_below (ownsRow_setCell_below (ownsRow_setCell_below hos (by simp; omega) _) (by simp; omega) _) (by simp; omega) _) (by simp; omega) _) (by simp; omega) _) (by simp; omega) _) (by simp; omega) _) hb4.size
  · have hb6 := hb4.trans (hb5.mono hb4.size)
    exact ((((((hb6.setCell (by show w.heap.size ≤ w.heap.size + 1 + 1; omega) _).setCell (by simp) _).setCell (by simp) _).setCell (by simp) _).setCell (by simp) _).setCell (by simp) _).setCell (by simp) _

/-! ### written over -/
set_option maxHeartbeats 400000 in
/-- numbers written over: only their own row turns -/
theorem spoilNums_far (B : Nat) (v : Value) (n : Nat) (zs : List Int) (w : World) (hown : w.ownsRow B 3 1 v n (i64s zs)) (hn : n ≤ 1073741824) :
    Calls Try.prog 38 #[v] w fun e w' => e = .returned (.tuple #[]) ∧ Touch (fun k => v.ownBlock = some k) w w' := by
  obtain ⟨A, c, rfl, hnl, hc, hm, _, _⟩ := own_slice hown
  rw [← hnl] at hown hc ⊢
  unfold maxLen at hm
  have HL : Hid (n = (i64s zs).length) := hnl
  clear hnl
  go_enter Try.func38, Try.ntmps38
  go_wp2
  go_loopw [2] (fun i wr => ∃ (k : Nat) (ys : List Int), i = .int .i64 k ∧ k ≤ n ∧ wr.ownsRow 0 3 1 (.slice A n c) n (i64s ys) ∧ Touch (fun k => (Value.slice A n c).ownBlock = some k) w wr) (fun i _ => n - (intOf i).toNat)
  case atStart => exact ⟨0, zs, rfl, by omega, own_low hown (fun _ _ => Nat.zero_le _), Touch.refl _ _⟩
  case round =>
    obtain ⟨k, ys, rfl, hk, ho, ht⟩ := hrel
    clear hown
    by_cases hlt : k < n
    · obtain ⟨g, cap, hv, hBg, hglt⟩ := ho.form (by omega)
      simp only [Value.slice.injEq, true_and] at hv
      obtain ⟨rfl, rfl⟩ := hv
      have hyl : ys.length = n := by have := ho.1; rw [i64s_length] at this; omega
      have hc1 : wr.cell? ⟨g, k, none⟩ = some (.int .i64 (ys[k]?.getD 0)) := by rw [ho.cellAt k (by omega), i64s_at (by omega)]
      have hf1 := ho.frozenAt k
      have HY := Lib.hid hyl
      have HT := Lib.hid ht
      clear hyl ht
      have i0 : (0 : Int) ≤ (k : Int) := by omega
      have i1 : (k : Int) < (n : Int) := by omega
      go_wp2
      go_roundw
      case rel =>
        obtain ⟨s1, s2⟩ := ho.stored k (.int .i64 (-99))
        refine ⟨k + 1, ys.set k (-99), by go_num, by omega, ?_, HT.out.set (.inl rfl) _⟩
        rw [show i64s (ys.set k (-99)) = (i64s ys).set k (.int .i64 (-99)) from by simp [i64s, List.map_set]]
        exact s1
      case measure => simp [intOf]; omega
    · have i1 : ¬ ((k : Int) < (n : Int)) := by omega
      obtain rfl : k = n := by omega
      have HT := Lib.hid ht
      clear ht
      go_wp2_with (at_builtin; refine wpList_app_lies _ rfl _ _ 25 rfl 0 3 (.int .i64 0) 8 Try.underlying25 info_i64 rfl (by decide) _ k _ rfl (ho.alloc _) wr.heap.size (.int .i64 5) rfl (cell_new _ _ _) rfl (by omega) (by omega) ?_)
      intro g' c' w1 hown1 hg1 _
      have hT := (HT.out.alloc (.cells #[.int .i64 5] 3)).trans (Touch.grown (F := fun k' => (Value.slice A k c).ownBlock = some k') hg1 (fun k' e => e)) (fun k' hf => .inl hf)
      go_wp2
      go_end0
      exact ⟨rfl, hT⟩

theorem spoilHdr_any (B0 : Nat) (a r : Int) (AB : Option Addr) (cB nB : Nat) (B : List Int) (AP : Option Addr) (cP nP : Nat) (P : List Int) (w : World) (hoB : w.ownsRow B0 3 1 (.slice AB nB cB) nB (i64s B)) (hoP : w.ownsRow B0 3 1 (.slice AP nP cP) nP (i64s P))
    (hd : ∀ k, (Value.slice AB nB cB).ownBlock = some k → (Value.slice AP nP cP).ownBlock ≠ some k) (hB0 : B0 ≤ w.heap.size) (hnB : nB ≤ 1073741824) (hnP : nP ≤ 1073741824) :
    Calls Try.prog 90 #[.agg #[.int .i64 a, .int .i64 r, .slice AB nB cB, .slice AP nP cP]] w fun e w' => e = .returned (.tuple #[]) ∧ Below B0 w w' := by
  obtain ⟨w1, hw1⟩ : ∃ w1, w1 = w.alloc (.cells #[.int .i64 a, .int .i64 r, .slice AB nB cB, .slice AP nP cP] 35) := ⟨_, rfl⟩
  have hb1 : Below w.heap.size w w1 := by rw [hw1]; exact (Below.refl _ _).alloc (Nat.le_refl _) _
  have hl1 : w.heap.size < w1.heap.size := by rw [hw1]; simp
  have k3 : w1.cell? ⟨w.heap.size, 3, none⟩ = some (.slice AP nP cP) := by rw [hw1, World.cell?_alloc_at _ _ _ _ rfl]; rfl
  have hoB1 := own_below hoB hb1
  have hoP1 := own_below hoP hb1
  have HW := Lib.hid hw1
  have hltB : ∀ k, (Value.slice AB nB cB).ownBlock = some k → k < w.heap.size ∧ B0 ≤ k := fun k hk => own_lt hoB hk
  have hltP : ∀ k, (Value.slice AP nP cP).ownBlock = some k → k < w.heap.size ∧ B0 ≤ k := fun k hk => own_lt hoP hk
  clear hw1 hoB hoP
  go_enter Try.func90, Try.ntmps90
  go_wp2_with fail
  rw [← HW.out]
  refine (spoilNums_far B0 _ nB B _ hoB1 hnB).mono ?_
  rintro e w2 ⟨rfl, ht2⟩
  have k3b := (ht2.cell (o := 3) hl1 (fun e => by have := (hltB _ e).1; omega)).trans k3
  have hoP2 : w2.ownsRow B0 3 1 (.slice AP nP cP) nP (i64s P) := own_kept hoP1 fun k hk hl => ht2.block k hl (fun e => hd k e hk)
  have hb2 : Below B0 w1 w2 := ht2.below (fun k hk => (hltB k hk).2) (Nat.le_trans hB0 hb1.size)
  go_wp2_with fail
  refine (spoilNums_far B0 _ nP P _ hoP2 hnP).mono ?_
  rintro e w3 ⟨rfl, ht3⟩
  have hb3 : Below B0 w2 w3 := ht3.below (fun k hk => (hltP k hk).2) (by have := hb1.size; have := hb2.size; omega)
  go_wp2_with fail
  go_end0
  exact ⟨rfl, ((hb1.mono hB0).trans hb2).trans hb3⟩

/-! ### weights -/
theorem rhw_any (a r : Int) (AB : Option Addr) (cB nB : Nat) (AP : Option Addr) (cP nP : Nat) (w : World) (hnB : nB ≤ 140737488351232) (hnP : nP ≤ 140737488351232) :
    Calls Try.prog 97 #[.agg #[.int .i64 a, .int .i64 r, .slice AB nB cB, .slice AP nP cP]] w (Tells w.heap.size w (.int .i64 (((1 + nB + nP : Nat) : Int)))) := by
  have s1 : IntKind.i64.wrap (1 + (nB : Int)) = 1 + (nB : Int) := IntWalk.i64_in _ (by omega)
  have s2 : IntKind.i64.wrap (1 + (nB : Int) + (nP : Int)) = 1 + (nB : Int) + (nP : Int) := IntWalk.i64_in _ (by omega)
  go_enter Try.func97, Try.ntmps97
  go_wp2_with fail
  go_ret
  exact ⟨ret_int (by simp), (Below.refl _ _).alloc (Nat.le_refl _) _⟩


end Go.Proofs.Ytejkeccoialogaa
