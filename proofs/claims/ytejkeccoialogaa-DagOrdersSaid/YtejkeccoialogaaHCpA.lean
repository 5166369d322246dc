/-
  Copies of a header, a certificate: their lists lie apart.
-/
import Derived.Test.YtejkeccoialogaaHCopy
namespace Go.Proofs.Ytejkeccoialogaa
open Go.RowKit

set_option maxHeartbeats 4000000 in
theorem rcopyHdrA_any (a r : Int) (AB : Option Addr) (cB nB : Nat) (B : List Int) (AP : Option Addr) (cP nP : Nat) (P : List Int) (w : World) (hzB : B.length = nB) (hrB : Rd w AB (i64s B)) (hnB : nB ≤ 1073741824) (hzP : P.length = nP) (hrP : Rd w AP (i64s P)) (hnP : nP ≤ 1073741824) (hcB : nB ≤ cB) (hcP : nP ≤ cP) :
    Calls Try.prog 48 #[.agg #[.int .i64 a, .int .i64 r, .slice AB nB cB, .slice AP nP cP]] w fun e w' => ∃ AB' cB' AP' cP', e = .returned (.agg #[.int .i64 a, .int .i64 r, .slice AB' nB cB', .slice AP' nP cP']) ∧
      w'.ownsRow w.heap.size 3 1 (.slice AB' nB cB') nB (i64s B) ∧ w'.ownsRow w.heap.size 3 1 (.slice AP' nP cP') nP (i64s P) ∧ Below w.heap.size w w' ∧ (∀ k, (Value.slice AB' nB cB').ownBlock = some k → (Value.slice AP' nP cP').ownBlock ≠ some k) := by
  have HZB := Lib.hid hzB
  have HZP := Lib.hid hzP
  clear hzB hzP
  go_enter Try.func48, Try.ntmps48
  go_wp2_with fail
  refine (copyNumbers_any AB cB nB B _ HZB.out (((hrB.alloc _).alloc _).alloc _) hcB hnB).mono ?_
  rintro e w1 ⟨v, rfl, ho, hb⟩
  have hob := own_cast ho ((i64s_length _).trans HZB.out)
  obtain ⟨AB', cB', rfl, _, _, _, _, _⟩ := own_val hob
  obtain ⟨hcc, hff⟩ := bcellH hb
  have hz : w.heap.size + 1 + 1 < w1.heap.size := by have := hb.size; simp at this; omega
  have hz1 : w.heap.size + 1 < w1.heap.size := by omega
  have hz0 : w.heap.size < w1.heap.size := by omega
  have hb3 : Below w.heap.size w w1 := ((((Below.refl _ _).alloc (Nat.le_refl _) _).alloc (by simp) _).alloc (by simp; omega) _).trans (hb.mono (by simp; omega))
  have hb4 : Below w.heap.size w (w1.setCell ⟨w.heap.size + 1 + 1, 2, none⟩ (.slice AB' nB cB')) := hb3.setCell (by show w.heap.size ≤ w.heap.size + 1 + 1; omega) _
  go_wp2_with fail
  refine (copyNumbers_any AP cP nP P _ HZP.out (hrP.below hb4) hcP hnP).mono ?_
  rintro e w5 ⟨v5, rfl, ho5, hb5⟩
  have hop := own_cast ho5 ((i64s_length _).trans HZP.out)
  obtain ⟨AP', cP', rfl, _, _, _, _, _⟩ := own_val hop
  have HAP : (∀ k, (Value.slice AB' nB cB').ownBlock = some k → (Value.slice AP' nP cP').ownBlock ≠ some k) := fun k h1 h2 => by
    have h3 := (own_lt hob h1).1
    have h4 := (own_lt hop h2).2
    simp at h4
    omega
  obtain ⟨hcc5, hff5⟩ := bcellH hb5
  have hz5 : w.heap.size + 1 + 1 < w5.heap.size := by have := hb5.size; simp at this; omega
  go_wp2_with fail
  refine bodyPost_ret (v := .agg #[.int .i64 a, .int .i64 r, .slice AB' nB cB', .slice AP' nP cP']) (by simp [results, Try.results48, go_sem, hcc, hcc5, hz1]) rfl ⟨AB', cB', AP', cP', rfl, ?_, ?_, ?_, HAP⟩
  · have h1 := own_below (ownsRow_setCell_below hob (by simp) (.slice AB' nB cB')) hb5
    exact ownS_more (ownsRow_setCell_below (ownsRow_setCell_below (ownsRow_setCell_below (ownsRow_setCell_below (ownsRow_setCell_below h1 (by simp) _) (by simp) _) (by simp) _) (by simp) _) (by simp) _) (by simp; omega)
  · exact ownS_more (ownsRow_setCell_below (ownsRow_setCell_below (ownsRow_setCell_below (ownsRow_setCell_below (ownsRow_setCell_below hop (by simp; omega) _) (by simp; omega) _) (by simp; omega) _) (by simp; omega) _) (by simp; omega) _) hb4.size
  · have hb6 := hb4.trans (hb5.mono hb4.size)
    exact ((((hb6.setCell (by show w.heap.size ≤ w.heap.size + 1 + 1; omega) _).setCell (by simp) _).setCell (by simp) _).setCell (by simp) _).setCell (by simp) _

set_option maxHeartbeats 4000000 in
theorem rcopyCertA_any (a r : Int) (AB : Option Addr) (cB nB : Nat) (B : List Int) (AP : Option Addr) (cP nP : Nat) (P : List Int) (d : Int) (AS : Option Addr) (cS nS : Nat) (S : List Int) (w : World) (hzB : B.length = nB) (hrB : Rd w AB (i64s B)) (hnB : nB ≤ 1073741824) (hzP : P.length = nP) (hrP : Rd w AP (i64s P)) (hnP : nP ≤ 1073741824) (hzS : S.length = nS) (hrS : Rd w AS (i64s S)) (hnS : nS ≤ 1073741824) (hcB : nB ≤ cB) (hcP : nP ≤ cP) (hcS : nS ≤ cS) :
    Calls Try.prog 14 #[.agg #[.int .i64 a, .int .i64 r, .slice AB nB cB, .slice AP nP cP, .int .i64 d, .slice AS nS cS]] w fun e w' => ∃ AB' cB' AP' cP' AS' cS', e = .returned (.agg #[.int .i64 a, .int .i64 r, .slice AB' nB cB', .slice AP' nP cP', .int .i64 d, .slice AS' nS cS']) ∧
      w'.ownsRow w.heap.size 3 1 (.slice AB' nB cB') nB (i64s B) ∧ w'.ownsRow w.heap.size 3 1 (.slice AP' nP cP') nP (i64s P) ∧ w'.ownsRow w.heap.size 3 1 (.slice AS' nS cS') nS (i64s S) ∧ Below w.heap.size w w' ∧ (∀ k, (Value.slice AB' nB cB').ownBlock = some k → (Value.slice AP' nP cP').ownBlock ≠ some k) ∧ (∀ k, (Value.slice AB' nB cB').ownBlock = some k → (Value.slice AS' nS cS').ownBlock ≠ some k) ∧ (∀ k, (Value.slice AP' nP cP').ownBlock = some k → (Value.slice AS' nS cS').ownBlock ≠ some k) := by
  have HZB := Lib.hid hzB
  have HZP := Lib.hid hzP
  have HZS := Lib.hid hzS
  clear hzB hzP hzS
  go_enter Try.func14, Try.ntmps14
  go_wp2_with fail
  refine (rcopyHdrA_any a r AB cB nB B AP cP nP P _ HZB.out (((hrB.alloc _).alloc _).alloc _) hnB HZP.out (((hrP.alloc _).alloc _).alloc _) hnP hcB hcP).mono ?_
  rintro e w1 ⟨AB', cB', AP', cP', rfl, hob, hop, hb, hap⟩
  obtain ⟨hcc, hff⟩ := bcellH hb
  have hz : w.heap.size + 1 + 1 < w1.heap.size := by have := hb.size; simp at this; omega
  have hz1 : w.heap.size + 1 < w1.heap.size := by omega
  have hb3 : Below w.heap.size w w1 := ((((Below.refl _ _).alloc (Nat.le_refl _) _).alloc (by simp) _).alloc (by simp; omega) _).trans (hb.mono (by simp; omega))
  have hb4 : Below w.heap.size w ((((w1.setCell ⟨w.heap.size + 1 + 1, 0, none⟩ (.int .i64 a)).setCell ⟨w.heap.size + 1 + 1, 1, none⟩ (.int .i64 r)).setCell ⟨w.heap.size + 1 + 1, 2, none⟩ (.slice AB' nB cB')).setCell ⟨w.heap.size + 1 + 1, 3, none⟩ (.slice AP' nP cP')) :=
    (((hb3.setCell (by show w.heap.size ≤ w.heap.size + 1 + 1; omega) _).setCell (by show w.heap.size ≤ w.heap.size + 1 + 1; omega) _).setCell (by show w.heap.size ≤ w.heap.size + 1 + 1; omega) _).setCell (by show w.heap.size ≤ w.heap.size + 1 + 1; omega) _
  go_wp2_with fail
  refine (copyNumbers_any AS cS nS S _ HZS.out (hrS.below hb4) hcS hnS).mono ?_
  rintro e w5 ⟨v5, rfl, ho5, hb5⟩
  have hos := own_cast ho5 ((i64s_length _).trans HZS.out)
  obtain ⟨AS', cS', rfl, _, _, _, _, _⟩ := own_val hos
  have HAP : (∀ k, (Value.slice AB' nB cB').ownBlock = some k → (Value.slice AP' nP cP').ownBlock ≠ some k) ∧ (∀ k, (Value.slice AB' nB cB').ownBlock = some k → (Value.slice AS' nS cS').ownBlock ≠ some k) ∧ (∀ k, (Value.slice AP' nP cP').ownBlock = some k → (Value.slice AS' nS cS').ownBlock ≠ some k) := ⟨hap, fun k h1 h2 => by
    have h3 := (own_lt hob h1).1
    have h4 := (own_lt hos h2).2
    simp at h4
    omega, fun k h1 h2 => by
    have h3 := (own_lt hop h1).1
    have h4 := (own_lt hos h2).2
    simp at h4
    omega⟩
  obtain ⟨hcc5, hff5⟩ := bcellH hb5
  go_wp2_with fail
  refine bodyPost_ret (v := .agg #[.int .i64 a, .int .i64 r, .slice AB' nB cB', .slice AP' nP cP', .int .i64 d, .slice AS' nS cS']) (by simp [results, Try.results14, go_sem, hcc, hcc5, hz1]) rfl ⟨AB', cB', AP', cP', AS', cS', rfl, ?_, ?_, ?_, ?_, HAP⟩
  · have h1 := own_below (ownsRow_setCell_below (ownsRow_setCell_below (ownsRow_setCell_below (ownsRow_setCell_below hob (by simp) (.int .i64 a)) (by simp) (.int .i64 r)) (by simp) (.slice AB' nB cB')) (by simp) (.slice AP' nP cP')) hb5
    exact ownS_more (ownsRow_setCell_below (ownsRow_setCell_below (ownsRow_setCell_below (ownsRow_setCell_below (ownsRow_setCell_below (ownsRow_setCell_below (ownsRow_setCell_below h1 (by simp) _) (by simp) _) (by simp) _) (by simp) _) (by simp) _) (by simp) _) (by simp) _) (by simp; omega)
  · have h1 := own_below (ownsRow_setCell_below (ownsRow_setCell_below (ownsRow_setCell_below (ownsRow_setCell_below hop (by simp) (.int .i64 a)) (by simp) (.int .i64 r)) (by simp) (.slice AB' nB cB')) (by simp) (.slice AP' nP cP')) hb5
    exact ownS_more (ownsRow_setCell_below (ownsRow_setCell_below (ownsRow_setCell_below (ownsRow_setCell_below (ownsRow_setCell_below (ownsRow_setCell_below (ownsRow_setCell_below h1 (by simp) _) (by simp) _) (by simp) _) (by simp) _) (by simp) _) (by simp) _) (by simp) _) (by simp; omega)
  · exact ownS_more (ownsRow_setCell_below (ownsRow_setCell_below (ownsRow_setCell_below (ownsRow_setCell_below (ownsRow_setCell_below (ownsRow_setCell_below (ownsRow_setCell_below hos (by simp; omega) _) (by simp; omega) _) (by simp; omega) _) (by simp; omega) _) (by simp; omega) _) (by simp; omega) _) (by simp; omega) _) hb4.size
  · have hb6 := hb4.trans (hb5.mono hb4.size)
    exact ((((((hb6.setCell (by show w.heap.size ≤ w.heap.size + 1 + 1; omega) _).setCell (by simp) _).setCell (by simp) _).setCell (by simp) _).setCell (by simp) _).setCell (by simp) _).setCell (by simp) _

end Go.Proofs.Ytejkeccoialogaa
