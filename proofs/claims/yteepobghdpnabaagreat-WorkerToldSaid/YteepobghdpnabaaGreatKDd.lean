/-
 Operations of a drawn region, taken one by one. Of no program.
-/
import Derived.Test.YteepobghdpnabaaGreatKDc
import Derived.Test.YteepobghdpnabaaGreatKBt
import Derived.Test.YteepobghdpnabaaGreatKBx
namespace Go.Proofs.YteepobghdpnabaaGreat
open Go

theorem yready_11 {P : Program} {md : Region.Mode} {Q : Exit → Act → World → Prop} {S : World → Prop} {o0 o1 o2 o3 o4 o5 o6 o7 o8 o9 o10 o11 : Oper} {rest : List Oper} {fuel : Nat} {listed : Array Bool} {a : Act} {w : World}
  (hr : Region.ready md (o0 :: o1 :: o2 :: o3 :: o4 :: o5 :: o6 :: o7 :: o8 :: o9 :: o10 :: o11 :: rest).toArray listed = [11])
  (h : ∀ K' : Act → World → Prop, Shut (∀ a w, S w → (S w → wpAnyH P md (o0 :: o1 :: o2 :: o3 :: o4 :: o5 :: o6 :: o7 :: o8 :: o9 :: o10 :: o11 :: rest).toArray Q S fuel (listed.setIfInBounds 11 true) a w) → K' a w) → if Region.wanted o11 (yielded (o0 :: o1 :: o2 :: o3 :: o4 :: o5 :: o6 :: o7 :: o8 :: o9 :: o10 :: o11 :: rest).toArray a.tmps) = true then Oper.wp P o11 a w K' Q else K' (a.put o11.dst undef) w) :
  wpAnyH P md (o0 :: o1 :: o2 :: o3 :: o4 :: o5 :: o6 :: o7 :: o8 :: o9 :: o10 :: o11 :: rest).toArray Q S (fuel + 1) listed a w :=
 wpAnyH_ready hr (by simp) (AllReadyH.cons (i := 11) (o := o11) rfl h AllReadyH.nil)
theorem yready_12 {P : Program} {md : Region.Mode} {Q : Exit → Act → World → Prop} {S : World → Prop} {o0 o1 o2 o3 o4 o5 o6 o7 o8 o9 o10 o11 o12 : Oper} {rest : List Oper} {fuel : Nat} {listed : Array Bool} {a : Act} {w : World}
  (hr : Region.ready md (o0 :: o1 :: o2 :: o3 :: o4 :: o5 :: o6 :: o7 :: o8 :: o9 :: o10 :: o11 :: o12 :: rest).toArray listed = [12])
  (h : ∀ K' : Act → World → Prop, Shut (∀ a w, S w → (S w → wpAnyH P md (o0 :: o1 :: o2 :: o3 :: o4 :: o5 :: o6 :: o7 :: o8 :: o9 :: o10 :: o11 :: o12 :: rest).toArray Q S fuel (listed.setIfInBounds 12 true) a w) → K' a w) → if Region.wanted o12 (yielded (o0 :: o1 :: o2 :: o3 :: o4 :: o5 :: o6 :: o7 :: o8 :: o9 :: o10 :: o11 :: o12 :: rest).toArray a.tmps) = true then Oper.wp P o12 a w K' Q else K' (a.put o12.dst undef) w) :
  wpAnyH P md (o0 :: o1 :: o2 :: o3 :: o4 :: o5 :: o6 :: o7 :: o8 :: o9 :: o10 :: o11 :: o12 :: rest).toArray Q S (fuel + 1) listed a w :=
 wpAnyH_ready hr (by simp) (AllReadyH.cons (i := 12) (o := o12) rfl h AllReadyH.nil)
end Go.Proofs.YteepobghdpnabaaGreat
namespace Go.Proofs.YteepobghdpnabaaGreat
open Go.RowKit

/-! ### what is handed out -/
theorem lookH_mem : ∀ {l : List HlD} {d : Int} {x : HlD}, lookH l d = some x → x ∈ l
 | [], _, _, h => by simp [lookH] at h
 | y :: r, d, x, h => by
  rw [lookH] at h
  split at h
  ·cases h; exact List.mem_cons_self
  ·exact List.mem_cons_of_mem _ (lookH_mem h)
theorem flat_short {α : Type} (f : α → List OtD) (c : Nat) : ∀ (l : List α), (∀ x ∈ l, (f x).length ≤ c) → (l.flatMap f).length ≤ l.length * c
 | [], _ => by simp
 | x :: r, h => by
  have h1 := flat_short f c r fun y hy => h y (List.mem_cons_of_mem _ hy)
  have h2 := h x List.mem_cons_self
  rw [List.flatMap_cons, List.length_append, List.length_cons, Nat.succ_mul]
  omega
theorem give_short {k : Nat} {P : WkD} (hg : Grown k P) (D : List Int) (f : Int) (hD : D.length ≤ 12000) : ShortO (giveW P D f) := by
 constructor
 ·unfold giveW
  refine Nat.le_trans (flat_short _ 1 _ (fun d _ => ?_)) (show D.length * 1 ≤ 1000000 by omega)
  split <;> simp
 ·intro y hy
  obtain ⟨d, _, hx⟩ := List.mem_flatMap.1 hy
  split at hx
  ·rename_i z hz
   rw [List.mem_singleton.1 hx]
   exact hg.l z (lookH_mem hz)
  ·simp at hx
theorem take_short {k : Nat} {P : WkD} (hg : Grown k P) (m : MsgD) (hD : m.D.length ≤ 12000) : ShortO (takeO P m) := by
 unfold takeO
 split
 ·split
  ·exact ⟨by simp, fun y hy => by rw [List.mem_singleton.1 hy]; simp⟩
  ·exact ⟨by simp, fun y hy => by simp at hy⟩
 ·split
  ·exact give_short hg _ _ hD
  ·exact ⟨by simp, fun y hy => by simp at hy⟩
/-! ### a step stands while only one block of another sort turns -/
end Go.Proofs.YteepobghdpnabaaGreat
namespace Go.Proofs.YteepobghdpnabaaGreat
open Go.RowKit

set_option maxHeartbeats 4000000 in
theorem rcopyHdrA_any (a r : Int) (AB : Option Addr) (cB nB : Nat) (B : List Int) (AP : Option Addr) (cP nP : Nat) (P : List Int) (w : World) (hzB : B.length = nB) (hrB : Rd w AB (i64s B)) (hnB : nB ≤ 1073741824) (hzP : P.length = nP) (hrP : Rd w AP (i64s P)) (hnP : nP ≤ 1073741824) (hcB : nB ≤ cB) (hcP : nP ≤ cP) :
  Calls Tryz.prog 99 #[.agg #[.int .i64 a, .int .i64 r, .slice AB nB cB, .slice AP nP cP]] w fun e w' => ∃ AB' cB' AP' cP', e = .returned (.agg #[.int .i64 a, .int .i64 r, .slice AB' nB cB', .slice AP' nP cP']) ∧
   w'.ownsRow w.heap.size 3 1 (.slice AB' nB cB') nB (i64s B) ∧ w'.ownsRow w.heap.size 3 1 (.slice AP' nP cP') nP (i64s P) ∧ Below w.heap.size w w' ∧ (∀ k, (Value.slice AB' nB cB').ownBlock = some k → (Value.slice AP' nP cP').ownBlock ≠ some k) := by
 have HZB := Lib.hid hzB
 have HZP := Lib.hid hzP
 clear hzB hzP
 go_enter Tryz.func99, Tryz.ntmps99
 go_wp2_with fail
 refine (copyNumbers_any AB cB nB B _ HZB.out (((hrB.alloc _).alloc _).alloc _) hcB hnB).mono ?_
 rintro e w1 ⟨v, rfl, ho, hb⟩
 have hob := own_cast ho ((i64s_length _).trans HZB.out)
 obtain ⟨AB', cB', rfl, _, _, _, _, _⟩ := own_val hob
 obtain ⟨hcc, hff⟩ := bcellH hb
 have hz : w.heap.size + 1 + 1 < w1.heap.size := by have := hb.size; simp at this; omega
 have hz1 : w.heap.size + 1 < w1.heap.size := by omega
 have hz0 : w.heap.size < w1.heap.size := by omega
 have hb3 : Below w.heap.size w w1 := ((((Below.refl _ _).alloc (Nat.le_refl _) _).alloc (by simp) _).alloc (by simp; omega) _).trans (hb.mono (by simp; omega))
 have hb4 : Below w.heap.size w (w1.setCell ⟨w.heap.size + 1 + 1, 2, none⟩ (.slice AB' nB cB')) := hb3.setCell (by show w.heap.size ≤ w.heap.size + 1 + 1; omega) _
 go_wp2_with fail
 refine (copyNumbers_any AP cP nP P _ HZP.out (hrP.below hb4) hcP hnP).mono ?_
 rintro e w5 ⟨v5, rfl, ho5, hb5⟩
 have hop := own_cast ho5 ((i64s_length _).trans HZP.out)
 obtain ⟨AP', cP', rfl, _, _, _, _, _⟩ := own_val hop
 have HAP : (∀ k, (Value.slice AB' nB cB').ownBlock = some k → (Value.slice AP' nP cP').ownBlock ≠ some k) := fun k h1 h2 => by
  have h3 := (own_lt hob h1).1
  have h4 := (own_lt hop h2).2
  simp at h4
  omega
 obtain ⟨hcc5, hff5⟩ := bcellH hb5
 have hz5 : w.heap.size + 1 + 1 < w5.heap.size := by have := hb5.size; simp at this; omega
 go_wp2_with fail
 refine bodyPost_ret (v := .agg #[.int .i64 a, .int .i64 r, .slice AB' nB cB', .slice AP' nP cP']) (by simp [results, Tryz.results99, go_sem, hcc, hcc5, hz1]) rfl ⟨AB', cB', AP', cP', rfl, ?_, ?_, ?_, HAP⟩
 ·have h1 := own_below (ownsRow_setCell_below hob (by simp) (.slice AB' nB cB')) hb5
  exact ownS_more (ownsRow_setCell_below (ownsRow_setCell_below (ownsRow_setCell_below (ownsRow_setCell_below (ownsRow_setCell_below h1 (by simp) _) (by simp) _) (by simp) _) (by simp) _) (by simp) _) (by simp; omega)
 ·exact ownS_more (ownsRow_setCell_below (ownsRow_setCell_below (ownsRow_setCell_below (ownsRow_setCell_below (ownsRow_setCell_below hop (by simp; omega) _) (by simp; omega) _) (by simp; omega) _) (by simp; omega) _) (by simp; omega) _) hb4.size
 ·have hb6 := hb4.trans (hb5.mono hb4.size)
  exact ((((hb6.setCell (by show w.heap.size ≤ w.heap.size + 1 + 1; omega) _).setCell (by simp) _).setCell (by simp) _).setCell (by simp) _).setCell (by simp) _

set_option maxHeartbeats 4000000 in
theorem rcopyCertA_any (a r : Int) (AB : Option Addr) (cB nB : Nat) (B : List Int) (AP : Option Addr) (cP nP : Nat) (P : List Int) (d : Int) (AS : Option Addr) (cS nS : Nat) (S : List Int) (w : World) (hzB : B.length = nB) (hrB : Rd w AB (i64s B)) (hnB : nB ≤ 1073741824) (hzP : P.length = nP) (hrP : Rd w AP (i64s P)) (hnP : nP ≤ 1073741824) (hzS : S.length = nS) (hrS : Rd w AS (i64s S)) (hnS : nS ≤ 1073741824) (hcB : nB ≤ cB) (hcP : nP ≤ cP) (hcS : nS ≤ cS) :
  Calls Tryz.prog 100 #[.agg #[.int .i64 a, .int .i64 r, .slice AB nB cB, .slice AP nP cP, .int .i64 d, .slice AS nS cS]] w fun e w' => ∃ AB' cB' AP' cP' AS' cS', e = .returned (.agg #[.int .i64 a, .int .i64 r, .slice AB' nB cB', .slice AP' nP cP', .int .i64 d, .slice AS' nS cS']) ∧
   w'.ownsRow w.heap.size 3 1 (.slice AB' nB cB') nB (i64s B) ∧ w'.ownsRow w.heap.size 3 1 (.slice AP' nP cP') nP (i64s P) ∧ w'.ownsRow w.heap.size 3 1 (.slice AS' nS cS') nS (i64s S) ∧ Below w.heap.size w w' ∧ (∀ k, (Value.slice AB' nB cB').ownBlock = some k → (Value.slice AP' nP cP').ownBlock ≠ some k) ∧ (∀ k, (Value.slice AB' nB cB').ownBlock = some k → (Value.slice AS' nS cS').ownBlock ≠ some k) ∧ (∀ k, (Value.slice AP' nP cP').ownBlock = some k → (Value.slice AS' nS cS').ownBlock ≠ some k) := by
 have HZB := Lib.hid hzB
 have HZP := Lib.hid hzP
 have HZS := Lib.hid hzS
 clear hzB hzP hzS
 go_enter Tryz.func100, Tryz.ntmps100
 go_wp2_with fail
 refine (rcopyHdrA_any a r AB cB nB B AP cP nP P _ HZB.out (((hrB.alloc _).alloc _).alloc _) hnB HZP.out (((hrP.alloc _).alloc _).alloc _) hnP hcB hcP).mono ?_
 rintro e w1 ⟨AB', cB', AP', cP', rfl, hob, hop, hb, hap⟩
 obtain ⟨hcc, hff⟩ := bcellH hb
 have hz : w.heap.size + 1 + 1 < w1.heap.size := by have := hb.size; simp at this; omega
 have hz1 : w.heap.size + 1 < w1.heap.size := by omega
 have hb3 : Below w.heap.size w w1 := ((((Below.refl _ _).alloc (Nat.le_refl _) _).alloc (by simp) _).alloc (by simp; omega) _).trans (hb.mono (by simp; omega))
 have hb4 : Below w.heap.size w ((((w1.setCell ⟨w.heap.size + 1 + 1, 0, none⟩ (.int .i64 a)).setCell ⟨w.heap.size + 1 + 1, 1, none⟩ (.int .i64 r)).setCell ⟨w.heap.size + 1 + 1, 2, none⟩ (.slice AB' nB cB')).setCell ⟨w.heap.size + 1 + 1, 3, none⟩ (.slice AP' nP cP')) :=
  (((hb3.setCell (by show w.heap.size ≤ w.heap.size + 1 + 1; omega) _).setCell (by show w.heap.size ≤ w.heap.size + 1 + 1; omega) _).setCell (by show w.heap.size ≤ w.heap.size + 1 + 1; omega) _).setCell (by show w.heap.size ≤ w.heap.size + 1 + 1; omega) _
 go_wp2_with fail
 refine (copyNumbers_any AS cS nS S _ HZS.out (hrS.below hb4) hcS hnS).mono ?_
 rintro e w5 ⟨v5, rfl, ho5, hb5⟩
 have hos := own_cast ho5 ((i64s_length _).trans HZS.out)
 obtain ⟨AS', cS', rfl, _, _, _, _, _⟩ := own_val hos
 have HAP : (∀ k, (Value.slice AB' nB cB').ownBlock = some k → (Value.slice AP' nP cP').ownBlock ≠ some k) ∧ (∀ k, (Value.slice AB' nB cB').ownBlock = some k → (Value.slice AS' nS cS').ownBlock ≠ some k) ∧ (∀ k, (Value.slice AP' nP cP').ownBlock = some k → (Value.slice AS' nS cS').ownBlock ≠ some k) := ⟨hap, fun k h1 h2 => by
  have h3 := (own_lt hob h1).1
  have h4 := (own_lt hos h2).2
  simp at h4
  omega, fun k h1 h2 => by
  have h3 := (own_lt hop h1).1
  have h4 := (own_lt hos h2).2
  simp at h4
  omega⟩
 obtain ⟨hcc5, hff5⟩ := bcellH hb5
 go_wp2_with fail
 refine bodyPost_ret (v := .agg #[.int .i64 a, .int .i64 r, .slice AB' nB cB', .slice AP' nP cP', .int .i64 d, .slice AS' nS cS']) (by simp [results, Tryz.results100, go_sem, hcc, hcc5, hz1]) rfl ⟨AB', cB', AP', cP', AS', cS', rfl, ?_, ?_, ?_, ?_, HAP⟩
 ·have h1 := own_below (ownsRow_setCell_below (ownsRow_setCell_below (ownsRow_setCell_below (ownsRow_setCell_below hob (by simp) (.int .i64 a)) (by simp) (.int .i64 r)) (by simp) (.slice AB' nB cB')) (by simp) (.slice AP' nP cP')) hb5
  exact ownS_more (ownsRow_setCell_below (ownsRow_setCell_below (ownsRow_setCell_below (ownsRow_setCell_below (ownsRow_setCell_below (ownsRow_setCell_below (ownsRow_setCell_below h1 (by simp) _) (by simp) _) (by simp) _) (by simp) _) (by simp) _) (by simp) _) (by simp) _) (by simp; omega)
 ·have h1 := own_below (ownsRow_setCell_below (ownsRow_setCell_below (ownsRow_setCell_below (ownsRow_setCell_below hop (by simp) (.int .i64 a)) (by simp) (.int .i64 r)) (by simp) (.slice AB' nB cB')) (by simp) (.slice AP' nP cP')) hb5
  exact ownS_more (ownsRow_setCell_below (ownsRow_setCell_below (ownsRow_setCell_below (ownsRow_setCell_below (ownsRow_setCell_below (ownsRow_setCell_below (ownsRow_setCell_below h1 (by simp) _) (by simp) _) (by simp) _) (by simp) _) (by simp) _) (by simp) _) (by simp) _) (by simp; omega)
 ·exact ownS_more (ownsRow_setCell_below (ownsRow_setCell_below (ownsRow_setCell_below (ownsRow_setCell_below (ownsRow_setCell_below (ownsRow_setCell_below (ownsRow_setCell_below hos (by simp; omega) _) (by simp; omega) _) (by simp; omega) _) (by simp; omega) _) (by simp; omega) _) (by simp; omega) _) (by simp; omega) _) hb4.size
 ·have hb6 := hb4.trans (hb5.mono hb4.size)
  exact ((((((hb6.setCell (by show w.heap.size ≤ w.heap.size + 1 + 1; omega) _).setCell (by simp) _).setCell (by simp) _).setCell (by simp) _).setCell (by simp) _).setCell (by simp) _).setCell (by simp) _

set_option maxRecDepth 100000 in
set_option maxHeartbeats 8000000 in
theorem rcopyMsgA_any (m : MsgD) (a : MsgA) (w : World) (hi : MsgIn w m a) (hf : MsgFew 1000000 a) :
  Calls Tryz.prog 55 #[msgV m a] w fun e w' => ∃ a', e = .returned (msgV m a') ∧ MsgNew w.heap.size w' m a' ∧ MsgFew 1000000 a' ∧ Below w.heap.size w w' ∧ MsgAp a' := by
 obtain ⟨w2, hw2⟩ : ∃ w2, w2 = (w.alloc (.cells #[.int .i64 m.k, .int .i64 m.f, .int .i64 m.t, .int .i64 m.d, .int .i64 m.ba, .int .i64 m.bn, .slice a.AL a.nL a.cL, .int .i64 m.ha, .int .i64 m.hr, .slice a.AhB a.nhB a.chB, .slice a.AhP a.nhP a.chP, .int .i64 m.ca, .int .i64 m.cr, .slice a.AcB a.ncB a.ccB, .slice a.AcP a.ncP a.ccP, .int .i64 m.cd, .slice a.AcS a.ncS a.ccS, .slice a.AD a.nD a.cD] 48)).alloc (.cells #[.int .i64 0, .int .i64 0, .int .i64 0, .int .i64 0, .int .i64 0, .int .i64 0, .slice none 0 0, .int .i64 0, .int .i64 0, .slice none 0 0, .slice none 0 0, .int .i64 0, .int .i64 0, .slice none 0 0, .slice none 0 0, .int .i64 0, .slice none 0 0, .slice none 0 0] 48) := ⟨_, rfl⟩
 have hb2 : Below w.heap.size w w2 := by rw [hw2]; exact ((Below.refl _ _).alloc (Nat.le_refl _) _).alloc (by simp) _
 have hs2 : w2.heap.size = w.heap.size + 2 := by rw [hw2]; simp
 have bx2 : Box w2 w.heap.size [.int .i64 m.k, .int .i64 m.f, .int .i64 m.t, .int .i64 m.d, .int .i64 m.ba, .int .i64 m.bn, .slice a.AL a.nL a.cL, .int .i64 m.ha, .int .i64 m.hr, .slice a.AhB a.nhB a.chB, .slice a.AhP a.nhP a.chP, .int .i64 m.ca, .int .i64 m.cr, .slice a.AcB a.ncB a.ccB, .slice a.AcP a.ncP a.ccP, .int .i64 m.cd, .slice a.AcS a.ncS a.ccS, .slice a.AD a.nD a.cD] := by
  rw [hw2]
  exact (box_new w (msgC m a) 48).below ((Below.refl _ _).alloc (Nat.le_refl _) _) (by simp)
 have by2 : Box w2 (w.heap.size + 1) [.int .i64 0, .int .i64 0, .int .i64 0, .int .i64 0, .int .i64 0, .int .i64 0, .slice none 0 0, .int .i64 0, .int .i64 0, .slice none 0 0, .slice none 0 0, .int .i64 0, .int .i64 0, .slice none 0 0, .slice none 0 0, .int .i64 0, .slice none 0 0, .slice none 0 0] := by
  rw [hw2]
  have h := box_new (w.alloc (.cells #[.int .i64 m.k, .int .i64 m.f, .int .i64 m.t, .int .i64 m.d, .int .i64 m.ba, .int .i64 m.bn, .slice a.AL a.nL a.cL, .int .i64 m.ha, .int .i64 m.hr, .slice a.AhB a.nhB a.chB, .slice a.AhP a.nhP a.chP, .int .i64 m.ca, .int .i64 m.cr, .slice a.AcB a.ncB a.ccB, .slice a.AcP a.ncP a.ccP, .int .i64 m.cd, .slice a.AcS a.ncS a.ccS, .slice a.AD a.nD a.cD] 48)) [.int .i64 0, .int .i64 0, .int .i64 0, .int .i64 0, .int .i64 0, .int .i64 0, .slice none 0 0, .int .i64 0, .int .i64 0, .slice none 0 0, .slice none 0 0, .int .i64 0, .int .i64 0, .slice none 0 0, .slice none 0 0, .int .i64 0, .slice none 0 0, .slice none 0 0] 48
  have e : (w.alloc (.cells #[.int .i64 m.k, .int .i64 m.f, .int .i64 m.t, .int .i64 m.d, .int .i64 m.ba, .int .i64 m.bn, .slice a.AL a.nL a.cL, .int .i64 m.ha, .int .i64 m.hr, .slice a.AhB a.nhB a.chB, .slice a.AhP a.nhP a.chP, .int .i64 m.ca, .int .i64 m.cr, .slice a.AcB a.ncB a.ccB, .slice a.AcP a.ncP a.ccP, .int .i64 m.cd, .slice a.AcS a.ncS a.ccS, .slice a.AD a.nD a.cD] 48)).heap.size = w.heap.size + 1 := by simp
  rw [e] at h
  exact h
 have bz2 := box_new w2 [.int .i64 0, .int .i64 0, .int .i64 0, .int .i64 0, .int .i64 0, .int .i64 0, .slice none 0 0, .int .i64 0, .int .i64 0, .slice none 0 0, .slice none 0 0, .int .i64 0, .int .i64 0, .slice none 0 0, .slice none 0 0, .int .i64 0, .slice none 0 0, .slice none 0 0] 48
 have HW2 := Lib.hid hw2
 have HS2 := Lib.hid hs2
 have HIN := Lib.hid hi.all
 have BX2 := Lib.hid bx2
 have BY2 := Lib.hid by2
 have BZ2 := Lib.hid bz2
 have HB2W := Lib.hid hb2
 have HF := Lib.hid hf
 have HI := Lib.hid hi
 obtain ⟨F, hF⟩ : ∃ F : Nat → Prop, F = fun k => k = w2.heap.size := ⟨_, rfl⟩
 have HFG : Hid (F w2.heap.size) := by show F _; rw [hF]
 have HFX : Hid (¬ F w.heap.size) := by show ¬ F _; rw [hF]; intro h; omega
 have HFR : Hid (¬ F (w.heap.size + 1)) := by show ¬ F _; rw [hF]; intro h; omega
 have HFB : Hid (∀ k, F k → k = w2.heap.size) := by show ∀ k, F k → _; rw [hF]; exact fun k h => h
 clear hw2 bx2 by2 bz2 hf hi hF hb2 hs2
 unfold msgV
 go_enter Tryz.func55, Tryz.ntmps55
 go_upto_region 1 with fail
 rw [← HW2.out]
 go_wp2_with (first
  | (refine wpList_load_box rfl 48 _ rfl w.heap.size rfl [.int .i64 m.k, .int .i64 m.f, .int .i64 m.t, .int .i64 m.d, .int .i64 m.ba, .int .i64 m.bn, .slice a.AL a.nL a.cL, .int .i64 m.ha, .int .i64 m.hr, .slice a.AhB a.nhB a.chB, .slice a.AhP a.nhP a.chP, .int .i64 m.ca, .int .i64 m.cr, .slice a.AcB a.ncB a.ccB, .slice a.AcP a.ncP a.ccP, .int .i64 m.cd, .slice a.AcS a.ncS a.ccS, .slice a.AD a.nD a.cD] BX2.out _ Tryz.underlying48 rfl (by kernel_rfl) ?_)
  | (refine wpList_store_box rfl 48 _ _ rfl w2.heap.size 0 [.int .i64 m.k, .int .i64 m.f, .int .i64 m.t, .int .i64 m.d, .int .i64 m.ba, .int .i64 m.bn, .slice a.AL a.nL a.cL, .int .i64 m.ha, .int .i64 m.hr, .slice a.AhB a.nhB a.chB, .slice a.AhP a.nhP a.chP, .int .i64 m.ca, .int .i64 m.cr, .slice a.AcB a.ncB a.ccB, .slice a.AcP a.ncP a.ccP, .int .i64 m.cd, .slice a.AcS a.ncS a.ccS, .slice a.AD a.nD a.cD] [.int .i64 0, .int .i64 0, .int .i64 0, .int .i64 0, .int .i64 0, .int .i64 0, .slice none 0 0, .int .i64 0, .int .i64 0, .slice none 0 0, .slice none 0 0, .int .i64 0, .int .i64 0, .slice none 0 0, .slice none 0 0, .int .i64 0, .slice none 0 0, .slice none 0 0] [.int .i64 m.k, .int .i64 m.f, .int .i64 m.t, .int .i64 m.d, .int .i64 m.ba, .int .i64 m.bn, .slice a.AL a.nL a.cL, .int .i64 m.ha, .int .i64 m.hr, .slice a.AhB a.nhB a.chB, .slice a.AhP a.nhP a.chP, .int .i64 m.ca, .int .i64 m.cr, .slice a.AcB a.ncB a.ccB, .slice a.AcP a.ncP a.ccP, .int .i64 m.cd, .slice a.AcS a.ncS a.ccS, .slice a.AD a.nD a.cD] rfl rfl BZ2.out (by simp) rfl (by kernel_rfl) rfl ?_)
  | (refine wpList_run_to rfl 48 rfl (.pointer (some ⟨w2.heap.size, 0, none⟩)) (w2.alloc (.cells #[.int .i64 0, .int .i64 0, .int .i64 0, .int .i64 0, .int .i64 0, .int .i64 0, .slice none 0 0, .int .i64 0, .int .i64 0, .slice none 0 0, .slice none 0 0, .int .i64 0, .int .i64 0, .slice none 0 0, .slice none 0 0, .int .i64 0, .slice none 0 0, .slice none 0 0] 48)) (by unfold execOp; go_simp; done) ?_))
 intro w3 bz3 T3
 have t23 : Touch F w2 w3 := ((Touch.refl F w2).alloc _).on (T3 F HFG.out)
 have hb3 : Below w.heap.size w w3 := HB2W.out.trans (t23.below (fun k hk => by rw [HFB.out k hk]; have := HS2.out; omega) HB2W.out.size)
 have bx3 := BX2.out.touch t23 HFX.out
 have by3 := BY2.out.touch t23 HFR.out
 have BX3 := Lib.hid bx3
 have BY3 := Lib.hid by3
 have BZ3 := Lib.hid bz3
 have HS3 : Hid (w2.heap.size < w3.heap.size) := bz3.1
 have HT : Hid (∀ wX, Touch F w3 wX → Below w.heap.size w wX) := fun wX h => hb3.trans (h.below (fun k hk => by rw [HFB.out k hk]; have := HS2.out; omega) hb3.size)
 have t3 : Touch F w3 w3 := Touch.refl _ _
 clear T3 bx3 by3 t23
 have xc4 := (BX3.out.2 4 _ rfl).1
 have xc5 := (BX3.out.2 5 _ rfl).1
 have xc6 := (BX3.out.2 6 _ rfl).1
 go_wp2_with fail
 clear xc4 xc5 xc6
 have riw5 := HIN.out _ (HT.out _ t3)
 refine (rcopyBat_any m.ba m.bn a.AL a.cL a.nL m.L _ HI.out.zL riw5.rL HI.out.kL (by have := HF.out.sL; omega)).mono ?_
 rintro e w5 ⟨AL, cL, rfl, hoL, -, -, -, hbw5⟩
 have tw5 := t3.then hbw5
 have bzw5 := Box.below BZ3.out hbw5 (Box.lt BZ3.out)
 go_wp2_with (refine wpList_store_box rfl 42 _ _ rfl (w2.heap.size) 4 [.int .i64 m.ba, .int .i64 m.bn, .slice AL a.nL cL] _ [.int .i64 m.k, .int .i64 m.f, .int .i64 m.t, .int .i64 m.d, .int .i64 m.ba, .int .i64 m.bn, .slice AL a.nL cL, .int .i64 m.ha, .int .i64 m.hr, .slice a.AhB a.nhB a.chB, .slice a.AhP a.nhP a.chP, .int .i64 m.ca, .int .i64 m.cr, .slice a.AcB a.ncB a.ccB, .slice a.AcP a.ncP a.ccP, .int .i64 m.cd, .slice a.AcS a.ncS a.ccS, .slice a.AD a.nD a.cD] rfl rfl bzw5 (by simp) rfl (by kernel_rfl) rfl ?_)
 intro w6 bzw6 Tw6
 have sw6 := Tw6 F HFG.out
 clear Tw6
 have tw6 := tw5.on sw6
 have bxw6 := BX3.out.touch tw6 HFX.out
 have xc7 := (bxw6.2 7 _ rfl).1
 have xc8 := (bxw6.2 8 _ rfl).1
 have xc9 := (bxw6.2 9 _ rfl).1
 have xc10 := (bxw6.2 10 _ rfl).1
 go_wp2_with fail
 clear xc7 xc8 xc9 xc10
 have riw7 := HIN.out _ (HT.out _ tw6)
 refine (rcopyHdrA_any m.ha m.hr a.AhB a.chB a.nhB m.hB a.AhP a.chP a.nhP m.hP _ HI.out.zhB riw7.rhB (by have := HF.out.shB; omega) HI.out.zhP riw7.rhP (by have := HF.out.shP; omega) HI.out.khB HI.out.khP).mono ?_
 rintro e w7 ⟨AhB, chB, AhP, chP, rfl, hohB, hohP, hbw7, hap7⟩
 have tw7 := tw6.then hbw7
 have bzw7 := Box.below bzw6 hbw7 (Box.lt bzw6)
 go_wp2_with (refine wpList_store_box rfl 44 _ _ rfl (w2.heap.size) 7 [.int .i64 m.ha, .int .i64 m.hr, .slice AhB a.nhB chB, .slice AhP a.nhP chP] _ [.int .i64 m.k, .int .i64 m.f, .int .i64 m.t, .int .i64 m.d, .int .i64 m.ba, .int .i64 m.bn, .slice AL a.nL cL, .int .i64 m.ha, .int .i64 m.hr, .slice AhB a.nhB chB, .slice AhP a.nhP chP, .int .i64 m.ca, .int .i64 m.cr, .slice a.AcB a.ncB a.ccB, .slice a.AcP a.ncP a.ccP, .int .i64 m.cd, .slice a.AcS a.ncS a.ccS, .slice a.AD a.nD a.cD] rfl rfl bzw7 (by simp) rfl (by kernel_rfl) rfl ?_)
 intro w8 bzw8 Tw8
 have sw8 := Tw8 F HFG.out
 clear Tw8
 have tw8 := tw7.on sw8
 have bxw8 := BX3.out.touch tw8 HFX.out
 have xc11 := (bxw8.2 11 _ rfl).1
 have xc12 := (bxw8.2 12 _ rfl).1
 have xc13 := (bxw8.2 13 _ rfl).1
 have xc14 := (bxw8.2 14 _ rfl).1
 have xc15 := (bxw8.2 15 _ rfl).1
 have xc16 := (bxw8.2 16 _ rfl).1
 go_wp2_with fail
 clear xc11 xc12 xc13 xc14 xc15 xc16
 have riw9 := HIN.out _ (HT.out _ tw8)
 refine (rcopyCertA_any m.ca m.cr a.AcB a.ccB a.ncB m.cB a.AcP a.ccP a.ncP m.cP m.cd a.AcS a.ccS a.ncS m.cS _ HI.out.zcB riw9.rcB (by have := HF.out.scB; omega) HI.out.zcP riw9.rcP (by have := HF.out.scP; omega) HI.out.zcS riw9.rcS (by have := HF.out.scS; omega) HI.out.kcB HI.out.kcP HI.out.kcS).mono ?_
 rintro e w9 ⟨AcB, ccB, AcP, ccP, AcS, ccS, rfl, hocB, hocP, hocS, hbw9, hap9⟩
 have tw9 := tw8.then hbw9
 have bzw9 := Box.below bzw8 hbw9 (Box.lt bzw8)
 go_wp2_with (refine wpList_store_box rfl 46 _ _ rfl (w2.heap.size) 11 [.int .i64 m.ca, .int .i64 m.cr, .slice AcB a.ncB ccB, .slice AcP a.ncP ccP, .int .i64 m.cd, .slice AcS a.ncS ccS] _ [.int .i64 m.k, .int .i64 m.f, .int .i64 m.t, .int .i64 m.d, .int .i64 m.ba, .int .i64 m.bn, .slice AL a.nL cL, .int .i64 m.ha, .int .i64 m.hr, .slice AhB a.nhB chB, .slice AhP a.nhP chP, .int .i64 m.ca, .int .i64 m.cr, .slice AcB a.ncB ccB, .slice AcP a.ncP ccP, .int .i64 m.cd, .slice AcS a.ncS ccS, .slice a.AD a.nD a.cD] rfl rfl bzw9 (by simp) rfl (by kernel_rfl) rfl ?_)
 intro w10 bzw10 Tw10
 have sw10 := Tw10 F HFG.out
 clear Tw10
 have tw10 := tw9.on sw10
 have bxw10 := BX3.out.touch tw10 HFX.out
 have xc17 := (bxw10.2 17 _ rfl).1
 go_wp2_with fail
 clear xc17
 have riw11 := HIN.out _ (HT.out _ tw10)
 refine (copyNumbers_any a.AD a.cD a.nD m.D _ HI.out.zD riw11.rD HI.out.kD (by have := HF.out.sD; omega)).mono ?_
 rintro e w11 ⟨vD, rfl, hoD0, hbw11⟩
 have hoD := own_cast hoD0 ((i64s_length _).trans HI.out.zD)
 obtain ⟨AD, cD, rfl, -, -, -, -, -⟩ := own_val hoD
 clear hoD0
 have tw11 := tw10.then hbw11
 have bzw11 := Box.below bzw10 hbw11 (Box.lt bzw10)
 have zc17 := (bzw11.2 17 _ rfl).1
 have zf17 := (bzw11.2 17 _ rfl).2
 obtain ⟨w12, hw12⟩ : ∃ w12, w12 = w11.setCell ⟨w2.heap.size, 17, none⟩ (.slice AD a.nD cD) := ⟨_, rfl⟩
 have bzw12 : Box w12 (w2.heap.size) [.int .i64 m.k, .int .i64 m.f, .int .i64 m.t, .int .i64 m.d, .int .i64 m.ba, .int .i64 m.bn, .slice AL a.nL cL, .int .i64 m.ha, .int .i64 m.hr, .slice AhB a.nhB chB, .slice AhP a.nhP chP, .int .i64 m.ca, .int .i64 m.cr, .slice AcB a.ncB ccB, .slice AcP a.ncP ccP, .int .i64 m.cd, .slice AcS a.ncS ccS, .slice AD a.nD cD] := by rw [hw12]; exact box_set_one bzw11 (by simp) rfl
 have sw12 : Touch F w11 w12 := by rw [hw12]; exact (Touch.refl F w11).set (.inl HFG.out) _
 have tw12 := tw11.on sw12
 go_upto_region 6 with fail
 rw [← hw12]
 clear zc17 zf17 hw12
 have byl := BY3.out.touch tw12 HFR.out
 obtain ⟨F2, hF2⟩ : ∃ F2 : Nat → Prop, F2 = fun k => k = w.heap.size + 1 := ⟨_, rfl⟩
 have HG2 : Hid (F2 (w.heap.size + 1)) := by show F2 _; rw [hF2]
 have HB2 : Hid (∀ k, F2 k → k = w.heap.size + 1) := by show ∀ k, F2 k → _; rw [hF2]; exact fun k h => h
 clear hF2
 go_wp2_with (first
  | (refine wpList_load_box rfl 48 _ rfl (w2.heap.size) rfl [.int .i64 m.k, .int .i64 m.f, .int .i64 m.t, .int .i64 m.d, .int .i64 m.ba, .int .i64 m.bn, .slice AL a.nL cL, .int .i64 m.ha, .int .i64 m.hr, .slice AhB a.nhB chB, .slice AhP a.nhP chP, .int .i64 m.ca, .int .i64 m.cr, .slice AcB a.ncB ccB, .slice AcP a.ncP ccP, .int .i64 m.cd, .slice AcS a.ncS ccS, .slice AD a.nD cD] bzw12 _ Tryz.underlying48 rfl (by kernel_rfl) ?_)
  | (refine wpList_store_box rfl 48 _ _ rfl (w.heap.size + 1) 0 [.int .i64 m.k, .int .i64 m.f, .int .i64 m.t, .int .i64 m.d, .int .i64 m.ba, .int .i64 m.bn, .slice AL a.nL cL, .int .i64 m.ha, .int .i64 m.hr, .slice AhB a.nhB chB, .slice AhP a.nhP chP, .int .i64 m.ca, .int .i64 m.cr, .slice AcB a.ncB ccB, .slice AcP a.ncP ccP, .int .i64 m.cd, .slice AcS a.ncS ccS, .slice AD a.nD cD] _ [.int .i64 m.k, .int .i64 m.f, .int .i64 m.t, .int .i64 m.d, .int .i64 m.ba, .int .i64 m.bn, .slice AL a.nL cL, .int .i64 m.ha, .int .i64 m.hr, .slice AhB a.nhB chB, .slice AhP a.nhP chP, .int .i64 m.ca, .int .i64 m.cr, .slice AcB a.ncB ccB, .slice AcP a.ncP ccP, .int .i64 m.cd, .slice AcS a.ncS ccS, .slice AD a.nD cD] rfl rfl byl (by simp) rfl (by kernel_rfl) rfl ?_))
 intro w13 by13 T13
 have s13 := T13 F2 HG2.out
 clear T13
 have rc0 := (by13.2 0 _ rfl).1
 have rc1 := (by13.2 1 _ rfl).1
 have rc2 := (by13.2 2 _ rfl).1
 have rc3 := (by13.2 3 _ rfl).1
 have rc4 := (by13.2 4 _ rfl).1
 have rc5 := (by13.2 5 _ rfl).1
 have rc6 := (by13.2 6 _ rfl).1
 have rc7 := (by13.2 7 _ rfl).1
 have rc8 := (by13.2 8 _ rfl).1
 have rc9 := (by13.2 9 _ rfl).1
 have rc10 := (by13.2 10 _ rfl).1
 have rc11 := (by13.2 11 _ rfl).1
 have rc12 := (by13.2 12 _ rfl).1
 have rc13 := (by13.2 13 _ rfl).1
 have rc14 := (by13.2 14 _ rfl).1
 have rc15 := (by13.2 15 _ rfl).1
 have rc16 := (by13.2 16 _ rfl).1
 have rc17 := (by13.2 17 _ rfl).1
 have zw11 : Touch F w11 w12 := sw12
 have zw9 : Touch F w9 w12 := (sw10.then hbw11).on zw11
 have zw7 : Touch F w7 w12 := (sw8.then hbw9).on zw9
 have zw5 : Touch F w5 w12 := (sw6.then hbw7).on zw7
 have hlt : ∀ k, F k → k < w3.heap.size := fun k hk => by rw [HFB.out k hk]; exact HS3.out
 have hlt2 : ∀ k, F2 k → k < w3.heap.size := fun k hk => by rw [HB2.out k hk]; have := HS3.out; have := HS2.out; omega
 have oL := own_touch (own_touch (ownS_more hoL (t3).size) zw5 hlt) s13 hlt2
 have ohB := own_touch (own_touch (ownS_more hohB (tw6).size) zw7 hlt) s13 hlt2
 have ohP := own_touch (own_touch (ownS_more hohP (tw6).size) zw7 hlt) s13 hlt2
 have ocB := own_touch (own_touch (ownS_more hocB (tw8).size) zw9 hlt) s13 hlt2
 have ocP := own_touch (own_touch (ownS_more hocP (tw8).size) zw9 hlt) s13 hlt2
 have ocS := own_touch (own_touch (ownS_more hocS (tw8).size) zw9 hlt) s13 hlt2
 have oD := own_touch (own_touch (ownS_more hoD (tw10).size) zw11 hlt) s13 hlt2
 have hbl : Below w.heap.size w w13 := (HT.out _ tw12).trans (s13.below (fun k hk => by rw [HB2.out k hk]; omega) (HT.out _ tw12).size)
 have hws : w.heap.size ≤ w3.heap.size := by have := HS3.out; have := HS2.out; omega
 have z6 := sw6.size
 have z7 := hbw7.size
 have z8 := sw8.size
 have z9 := hbw9.size
 have z10 := sw10.size
 go_wp2_with fail
 refine bodyPost_ret (v := .agg #[.int .i64 m.k, .int .i64 m.f, .int .i64 m.t, .int .i64 m.d, .int .i64 m.ba, .int .i64 m.bn, .slice AL a.nL cL, .int .i64 m.ha, .int .i64 m.hr, .slice AhB a.nhB chB, .slice AhP a.nhP chP, .int .i64 m.ca, .int .i64 m.cr, .slice AcB a.ncB ccB, .slice AcP a.ncP ccP, .int .i64 m.cd, .slice AcS a.ncS ccS, .slice AD a.nD cD]) (by simp [results, Tryz.results55, go_sem, rc0, rc1, rc2, rc3, rc4, rc5, rc6, rc7, rc8, rc9, rc10, rc11, rc12, rc13, rc14, rc15, rc16, rc17]) rfl ⟨⟨AL, a.nL, cL, AhB, a.nhB, chB, AhP, a.nhP, chP, AcB, a.ncB, ccB, AcP, a.ncP, ccP, AcS, a.ncS, ccS, AD, a.nD, cD⟩, rfl, ⟨ownS_more oL hws, ownS_more ohB hws, ownS_more ohP hws, ownS_more ocB hws, ownS_more ocP hws, ownS_more ocS hws, ownS_more oD hws, fun k hD hX => by have h1 := (own_lt hoD hD).2; have h2 := (own_lt hoL hX).1; omega, fun k hD hX => by have h1 := (own_lt hoD hD).2; have h2 := (own_lt hohB hX).1; omega, fun k hD hX => by have h1 := (own_lt hoD hD).2; have h2 := (own_lt hohP hX).1; omega, fun k hD hX => by have h1 := (own_lt hoD hD).2; have h2 := (own_lt hocB hX).1; omega, fun k hD hX => by have h1 := (own_lt hoD hD).2; have h2 := (own_lt hocP hX).1; omega, fun k hD hX => by have h1 := (own_lt hoD hD).2; have h2 := (own_lt hocS hX).1; omega⟩, ⟨HF.out.sL, HF.out.shB, HF.out.shP, HF.out.scB, HF.out.scP, HF.out.scS, HF.out.sD⟩, hbl, ⟨hap7, fun k h1 h2 => by have h3 := (own_lt hohB h1).1; have h4 := (own_lt hocB h2).2; omega, fun k h1 h2 => by have h3 := (own_lt hohB h1).1; have h4 := (own_lt hocP h2).2; omega, fun k h1 h2 => by have h3 := (own_lt hohB h1).1; have h4 := (own_lt hocS h2).2; omega, fun k h1 h2 => by have h3 := (own_lt hohP h1).1; have h4 := (own_lt hocB h2).2; omega, fun k h1 h2 => by have h3 := (own_lt hohP h1).1; have h4 := (own_lt hocP h2).2; omega, fun k h1 h2 => by have h3 := (own_lt hohP h1).1; have h4 := (own_lt hocS h2).2; omega, hap9⟩⟩

end Go.Proofs.YteepobghdpnabaaGreat
namespace Go.Proofs.YteepobghdpnabaaGreat
open Go.RowKit

theorem withinG_val (i : Int) (n : Nat) (hn : 0 < n) (hn' : n ≤ 4611686018427387904) : ∃ r : Nat, r < n ∧ wrap64 ((IntKind.u64.wrap i).tmod (n : Int)) = (r : Int) := by
 have h0 : 0 ≤ IntKind.u64.wrap i := by rw [IntKind.wrap_u64]; omega
 obtain ⟨m, hm⟩ := Int.eq_ofNat_of_zero_le h0
 rw [hm]
 refine ⟨m % n, Nat.mod_lt _ hn, ?_⟩
 have h1 : ((m : Int)).tmod (n : Int) = ((m % n : Nat) : Int) := by
  rw [Int.tmod_eq_emod_of_nonneg (by omega)]
  simp
 have h2 : m % n < n := Nat.mod_lt _ hn
 rw [h1, wrap64]
 omega
end Go.Proofs.YteepobghdpnabaaGreat
