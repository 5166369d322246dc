/-
 The laws' spoils of a header and of a certificate: only their own lists turn.
-/
import Derived.Test.YteepobghdpnabaaGreatKBs
import Derived.Test.YteepobghdpnabaaGreatKBe
import Derived.Test.YteepobghdpnabaaGreatKBk
namespace Go.Proofs.YteepobghdpnabaaGreat
open Go.RowKit

set_option maxRecDepth 100000 in
set_option maxHeartbeats 4000000 in
theorem spoilHdr_far (a r : Int) (AB : Option Addr) (nB cB : Nat) (LB : List Int) (AP : Option Addr) (nP cP : Nat) (LP : List Int) (B0 : Nat) (w : World) (hnB : nB ≤ 1000000) (hoB : w.ownsRow B0 3 1 (.slice AB nB cB) nB (i64s LB)) (hnP : nP ≤ 1000000) (hoP : w.ownsRow B0 3 1 (.slice AP nP cP) nP (i64s LP)) (hd : (∀ k, (Value.slice AB nB cB).ownBlock = some k → (Value.slice AP nP cP).ownBlock ≠ some k)) (F : Nat → Prop) (hF : ∀ k, ((Value.slice AB nB cB).ownBlock = some k ∨ (Value.slice AP nP cP).ownBlock = some k) → F k) :
  Calls Tryz.prog 106 #[.agg #[.int .i64 a, .int .i64 r, .slice AB nB cB, .slice AP nP cP]] w fun e w' => e = .returned (.tuple #[]) ∧ Touch F w w' := by
 obtain ⟨g, hg⟩ : ∃ g, g = w.heap.size := ⟨_, rfl⟩
 obtain ⟨wa0, hwa0⟩ : ∃ wa0, wa0 = w.alloc (.cells #[.int .i64 a, .int .i64 r, .slice AB nB cB, .slice AP nP cP] 44) := ⟨_, rfl⟩
 have hs0 : wa0.heap.size = g + 1 := by rw [hwa0]; simp; omega
 have bn0 : Box wa0 (g) ([.int .i64 a, .int .i64 r, .slice AB nB cB, .slice AP nP cP]) := by rw [hwa0, hg]; exact box_new w ([.int .i64 a, .int .i64 r, .slice AB nB cB, .slice AP nP cP]) 44
 have hb0 : Below g w wa0 := by rw [hwa0]; exact (Below.refl _ _).alloc (by omega) _
 have HX0 : Hid (Box wa0 (g) ([.int .i64 a, .int .i64 r, .slice AB nB cB, .slice AP nP cP])) := bn0
 obtain ⟨w0, hw0⟩ : ∃ w0, w0 = wa0 := ⟨_, rfl⟩
 rw [← hw0] at HX0
 have hsz0 : w0.heap.size = g + 1 := by rw [hw0]; exact hs0
 have hb0w : Below g w w0 := by rw [hw0]; exact hb0
 have HW0 : Hid (w.alloc (.cells #[.int .i64 a, .int .i64 r, .slice AB nB cB, .slice AP nP cP] 44) = w0) := by show w.alloc (.cells #[.int .i64 a, .int .i64 r, .slice AB nB cB, .slice AP nP cP] 44) = w0; rw [hw0, hwa0]
 have HG : Hid (w.heap.size = g) := hg.symm
 have HS0 := Lib.hid hsz0
 have HB0 := Lib.hid hb0w
 have hl0 : g < w0.heap.size := by omega
 have hgw : g ≤ w0.heap.size := by omega
 have HFF := Lib.hid hF
 have hbw0 : Below w.heap.size w w0 := by rw [HG.out]; exact HB0.out
 have hoB' := ownS_below hoB hbw0
 have hoP' := ownS_below hoP hbw0
 have HLB : Hid (∀ k, (Value.slice AB nB cB).ownBlock = some k → k < g) := by show ∀ k, _; intro k hk; rw [← HG.out]; exact (own_lt hoB hk).1
 have HLP : Hid (∀ k, (Value.slice AP nP cP).ownBlock = some k → k < g) := by show ∀ k, _; intro k hk; rw [← HG.out]; exact (own_lt hoP hk).1
 have HSB := Lib.hid (spoilNums_far B0 (.slice AB nB cB) nB LB w0 hoB' (by omega))
 have HOP := Lib.hid hoP'
 have HD := Lib.hid hd
 clear hg hsz0 hb0w hw0 hwa0 hs0 bn0 hb0
 clear hF hbw0 hoB hoP hoB' hoP' hd
 go_enter Tryz.func106, Tryz.ntmps106
 go_upto_region 1 with fail
 rw [HG.out, HW0.out]
 have k2 : w0.cell? ⟨g, 2, none⟩ = some (.slice AB nB cB) := (HX0.out.2 2 _ rfl).1
 go_upto_region 2 with (go_at_call 108; refine HSB.out.mono ?_; rintro e w1 ⟨rfl, ht1⟩)
 have HT1 : Hid (Touch (fun k => (Value.slice AB nB cB).ownBlock = some k) w0 w1) := ht1
 have hbx1 := HX0.out.touch ht1 (fun e => by have := HLB.out g e; omega)
 have k3 : w1.cell? ⟨g, 3, none⟩ = some (.slice AP nP cP) := (hbx1.2 3 _ rfl).1
 have hg1 : g < w1.heap.size := hbx1.1
 have HSP := Lib.hid (spoilNums_far B0 (.slice AP nP cP) nP LP w1 (own_kept HOP.out fun j hj hl => ht1.block j hl fun e => HD.out j e hj) (by omega))
 clear ht1 hbx1 k2
 go_wp2_with (go_at_call 108; refine HSP.out.mono ?_; rintro e w2 ⟨rfl, ht2⟩)
 have hT : Touch F w w2 := ((Touch.of (show Below w.heap.size w w0 by rw [HG.out]; exact HB0.out)).on (HT1.out.mono fun j hj => HFF.out j (.inl hj))).on (ht2.mono fun j hj => HFF.out j (.inr hj))
 go_end0
 exact ⟨rfl, hT⟩
set_option maxRecDepth 100000 in
set_option maxHeartbeats 4000000 in
theorem spoilCert_far (a r d : Int) (AB : Option Addr) (nB cB : Nat) (LB : List Int) (AP : Option Addr) (nP cP : Nat) (LP : List Int) (AS : Option Addr) (nS cS : Nat) (LS : List Int) (B0 : Nat) (w : World) (hnB : nB ≤ 1000000) (hoB : w.ownsRow B0 3 1 (.slice AB nB cB) nB (i64s LB)) (hnP : nP ≤ 1000000) (hoP : w.ownsRow B0 3 1 (.slice AP nP cP) nP (i64s LP)) (hnS : nS ≤ 1000000) (hoS : w.ownsRow B0 3 1 (.slice AS nS cS) nS (i64s LS)) (hd1 : (∀ k, (Value.slice AB nB cB).ownBlock = some k → (Value.slice AP nP cP).ownBlock ≠ some k)) (hd2 : (∀ k, (Value.slice AB nB cB).ownBlock = some k → (Value.slice AS nS cS).ownBlock ≠ some k)) (hd3 : (∀ k, (Value.slice AP nP cP).ownBlock = some k → (Value.slice AS nS cS).ownBlock ≠ some k)) (F : Nat → Prop) (hF : ∀ k, ((Value.slice AB nB cB).ownBlock = some k ∨ (Value.slice AP nP cP).ownBlock = some k ∨ (Value.slice AS nS cS).ownBlock = some k) → F k) :
  Calls Tryz.prog 107 #[.agg #[.int .i64 a, .int .i64 r, .slice AB nB cB, .slice AP nP cP, .int .i64 d, .slice AS nS cS]] w fun e w' => e = .returned (.tuple #[]) ∧ Touch F w w' := by
 obtain ⟨g, hg⟩ : ∃ g, g = w.heap.size := ⟨_, rfl⟩
 obtain ⟨wa0, hwa0⟩ : ∃ wa0, wa0 = w.alloc (.cells #[.int .i64 a, .int .i64 r, .slice AB nB cB, .slice AP nP cP, .int .i64 d, .slice AS nS cS] 46) := ⟨_, rfl⟩
 have hs0 : wa0.heap.size = g + 1 := by rw [hwa0]; simp; omega
 have bn0 : Box wa0 (g) ([.int .i64 a, .int .i64 r, .slice AB nB cB, .slice AP nP cP, .int .i64 d, .slice AS nS cS]) := by rw [hwa0, hg]; exact box_new w ([.int .i64 a, .int .i64 r, .slice AB nB cB, .slice AP nP cP, .int .i64 d, .slice AS nS cS]) 46
 have hb0 : Below g w wa0 := by rw [hwa0]; exact (Below.refl _ _).alloc (by omega) _
 have HX0 : Hid (Box wa0 (g) ([.int .i64 a, .int .i64 r, .slice AB nB cB, .slice AP nP cP, .int .i64 d, .slice AS nS cS])) := bn0
 obtain ⟨w0, hw0⟩ : ∃ w0, w0 = wa0 := ⟨_, rfl⟩
 rw [← hw0] at HX0
 have hsz0 : w0.heap.size = g + 1 := by rw [hw0]; exact hs0
 have hb0w : Below g w w0 := by rw [hw0]; exact hb0
 have HW0 : Hid (w.alloc (.cells #[.int .i64 a, .int .i64 r, .slice AB nB cB, .slice AP nP cP, .int .i64 d, .slice AS nS cS] 46) = w0) := by show w.alloc (.cells #[.int .i64 a, .int .i64 r, .slice AB nB cB, .slice AP nP cP, .int .i64 d, .slice AS nS cS] 46) = w0; rw [hw0, hwa0]
 have HG : Hid (w.heap.size = g) := hg.symm
 have HS0 := Lib.hid hsz0
 have HB0 := Lib.hid hb0w
 have hl0 : g < w0.heap.size := by omega
 have hgw : g ≤ w0.heap.size := by omega
 have HFF := Lib.hid hF
 have hbw0 : Below w.heap.size w w0 := by rw [HG.out]; exact HB0.out
 have hoB' := ownS_below hoB hbw0
 have hoP' := ownS_below hoP hbw0
 have hoS' := ownS_below hoS hbw0
 have HLB : Hid (∀ k, (Value.slice AB nB cB).ownBlock = some k → k < g) := by show ∀ k, _; intro k hk; rw [← HG.out]; exact (own_lt hoB hk).1
 have HLP : Hid (∀ k, (Value.slice AP nP cP).ownBlock = some k → k < g) := by show ∀ k, _; intro k hk; rw [← HG.out]; exact (own_lt hoP hk).1
 have HSH := Lib.hid (spoilHdr_far a r AB nB cB LB AP nP cP LP B0 w0 hnB hoB' hnP hoP' hd1 (fun k => (Value.slice AB nB cB).ownBlock = some k ∨ (Value.slice AP nP cP).ownBlock = some k) (fun k hk => hk))
 have HOS := Lib.hid hoS'
 have HD2 := Lib.hid hd2
 have HD3 := Lib.hid hd3
 clear hg hsz0 hb0w hw0 hwa0 hs0 bn0 hb0
 clear hF hbw0 hoB hoP hoS hoB' hoP' hoS' hd1 hd2 hd3
 go_enter Tryz.func107, Tryz.ntmps107
 go_upto_region 1 with fail
 rw [HG.out, HW0.out]
 have k0 : w0.cell? ⟨g, 0, none⟩ = some (.int .i64 a) := (HX0.out.2 0 _ rfl).1
 have k1 : w0.cell? ⟨g, 1, none⟩ = some (.int .i64 r) := (HX0.out.2 1 _ rfl).1
 have k2 : w0.cell? ⟨g, 2, none⟩ = some (.slice AB nB cB) := (HX0.out.2 2 _ rfl).1
 have k3 : w0.cell? ⟨g, 3, none⟩ = some (.slice AP nP cP) := (HX0.out.2 3 _ rfl).1
 go_upto_region 2 with (go_at_call 106; refine HSH.out.mono ?_; rintro e w1 ⟨rfl, ht1⟩)
 have ht1' : Touch (fun k => (Value.slice AB nB cB).ownBlock = some k ∨ (Value.slice AP nP cP).ownBlock = some k) w0 w1 := ht1
 have HT1 := Lib.hid ht1'
 have hbx1 := HX0.out.touch ht1' (by
  rintro (e | e)
  ·have := HLB.out g e; omega
  ·have := HLP.out g e; omega)
 have k5 : w1.cell? ⟨g, 5, none⟩ = some (.slice AS nS cS) := (hbx1.2 5 _ rfl).1
 have hg1 : g < w1.heap.size := hbx1.1
 have HSS := Lib.hid (spoilNums_far B0 (.slice AS nS cS) nS LS w1 (own_kept HOS.out fun j hj hl => ht1'.block j hl (by
  rintro (e | e)
  ·exact HD2.out j e hj
  ·exact HD3.out j e hj)) (by omega))
 clear ht1 ht1' hbx1 k0 k1 k2 k3
 go_wp2_with (go_at_call 108; refine HSS.out.mono ?_; rintro e w2 ⟨rfl, ht2⟩)
 have hT : Touch F w w2 := ((Touch.of (show Below w.heap.size w w0 by rw [HG.out]; exact HB0.out)).on (HT1.out.mono fun j hj => HFF.out j (hj.imp id .inl))).on (ht2.mono fun j hj => HFF.out j (.inr (.inr hj)))
 go_end0
 exact ⟨rfl, hT⟩

end Go.Proofs.YteepobghdpnabaaGreat
namespace Go.Proofs.YteepobghdpnabaaGreat
open Go.RowKit

def MsgAp (a : MsgA) : Prop := (∀ k, (Value.slice a.AhB a.nhB a.chB).ownBlock = some k → (Value.slice a.AhP a.nhP a.chP).ownBlock ≠ some k) ∧ (∀ k, (Value.slice a.AhB a.nhB a.chB).ownBlock = some k → (Value.slice a.AcB a.ncB a.ccB).ownBlock ≠ some k) ∧ (∀ k, (Value.slice a.AhB a.nhB a.chB).ownBlock = some k → (Value.slice a.AcP a.ncP a.ccP).ownBlock ≠ some k) ∧ (∀ k, (Value.slice a.AhB a.nhB a.chB).ownBlock = some k → (Value.slice a.AcS a.ncS a.ccS).ownBlock ≠ some k) ∧ (∀ k, (Value.slice a.AhP a.nhP a.chP).ownBlock = some k → (Value.slice a.AcB a.ncB a.ccB).ownBlock ≠ some k) ∧ (∀ k, (Value.slice a.AhP a.nhP a.chP).ownBlock = some k → (Value.slice a.AcP a.ncP a.ccP).ownBlock ≠ some k) ∧ (∀ k, (Value.slice a.AhP a.nhP a.chP).ownBlock = some k → (Value.slice a.AcS a.ncS a.ccS).ownBlock ≠ some k) ∧ (∀ k, (Value.slice a.AcB a.ncB a.ccB).ownBlock = some k → (Value.slice a.AcP a.ncP a.ccP).ownBlock ≠ some k) ∧ (∀ k, (Value.slice a.AcB a.ncB a.ccB).ownBlock = some k → (Value.slice a.AcS a.ncS a.ccS).ownBlock ≠ some k) ∧ (∀ k, (Value.slice a.AcP a.ncP a.ccP).ownBlock = some k → (Value.slice a.AcS a.ncS a.ccS).ownBlock ≠ some k)

end Go.Proofs.YteepobghdpnabaaGreat
namespace Go.Proofs.YteepobghdpnabaaGreat
open Go.RowKit

theorem own_setCells {B n c g s : Nat} {e : TypeId} : ∀ (cs : List Value) (j : Nat) (xs : List Value) (w : World), w.ownsRow B e s (.slice (some ⟨g, 0, none⟩) n c) n xs → j + cs.length ≤ xs.length → (w.setCells g j cs).ownsRow B e s (.slice (some ⟨g, 0, none⟩) n c) n (xs.take j ++ cs ++ xs.drop (j + cs.length))
 | [], j, xs, _, h, _ => by
  have e : xs.take j ++ [] ++ xs.drop (j + ([] : List Value).length) = xs := by simp
  rw [e]
  exact h
 | v :: r, j, xs, w, h, hl => by
  simp only [List.length_cons] at hl
  have ih := own_setCells r (j + 1) (xs.set j v) (w.setCell ⟨g, j, none⟩ v) (h.stored j v).1 (by rw [List.length_set]; omega)
  rw [take_set_up (by omega), drop_set_up (by omega)] at ih
  have e : xs.take j ++ (v :: r) ++ xs.drop (j + (v :: r).length) = xs.take j ++ [v] ++ r ++ xs.drop (j + 1 + r.length) := by
   simp only [List.length_cons, List.append_assoc, List.cons_append, List.nil_append]
   rw [show j + (r.length + 1) = j + 1 + r.length by omega]
  rw [e]
  exact ih
theorem row_box {w : World} {B n c g s : Nat} {e : TypeId} {xs : List Value} (h : w.ownsRow B e s (.slice (some ⟨g, 0, none⟩) n c) n xs) : Box w g xs :=
 ⟨(own_lt h rfl).1, fun j v hj => by
  obtain ⟨hl, he⟩ := List.getElem?_eq_some_iff.1 hj
  have hl' : j < n * s := by have := h.1; omega
  exact ⟨(h.cellAt j hl').trans hj, h.frozenAt j⟩⟩
section
variable {P : Program} {w : World}
theorem wpList_store_row {ops : Array Oper} {rest : List Oper} {op : Oper} {a : Act} {Q : Exit → Act → World → Prop} (hgd : op.guard = none) (ty : TypeId) (x y : Operand) (ho : op.op = .store ty x y)
  (B n c g s j : Nat) (e : TypeId) (cs xs : List Value) (hx : a.eval x = .pointer (some ⟨g, j, none⟩)) (hy : a.eval y = .agg cs.toArray) (hb : w.ownsRow B e s (.slice (some ⟨g, 0, none⟩) n c) n xs) (hl : j + cs.length ≤ xs.length)
  (hi : (P.info? ty).map (·.size) = some cs.length) (h1 : cs.all (·.oneCell') = true)
  (h : ∀ w', w'.ownsRow B e s (.slice (some ⟨g, 0, none⟩) n c) n (xs.take j ++ cs ++ xs.drop (j + cs.length)) → (∀ F : Nat → Prop, F g → Touch F w w') → wpList P ops Q rest (a.put op.dst undef) w') : wpList P ops Q (op :: rest) a w :=
 wpList_store_mid hgd ty x y ho g j cs.toArray hx hy (by rw [List.size_toArray]; exact there_box (row_box hb) hl) (by rw [List.size_toArray]; exact hi) (all_oneCell_toArray fun v hv => List.all_eq_true.1 h1 v hv)
  (h _ (own_setCells cs j xs w hb hl) (fun F hF => touch_setCells hF cs j w w (Touch.refl F w)))
end
def cellsM (ms : List (MsgD × MsgA)) : List Value := ms.flatMap fun x => msgC x.1 x.2
structure RowM (B : Nat) (w : World) (o : Ad) (ms : List (MsgD × MsgA)) : Prop where
 row : w.ownsRow B 48 18 o.v o.n (cellsM ms)
 len : ms.length = o.n
 sub : ∀ x ∈ ms, MsgNew B w x.1 x.2 ∧ MsgAp x.2 ∧ MsgFew 1000000 x.2
 nod : ms.Pairwise fun x y => ∀ k, x.2.has k → ¬ y.2.has k
theorem own_nil (w : World) (B : Nat) (e : TypeId) (s : Nat) : w.ownsRow B e s (.slice none 0 0) 0 [] := ⟨by simp, .inl ⟨rfl, rfl⟩⟩
theorem RowOwn.rowM {B : Nat} {w : World} {o : Ad} {ms : List (OtD × Ad)} (h : RowOwn KM B w o ms) (hf : ∀ y ∈ ms, y.1.L.length ≤ 1000000) : RowM B w o (ms.map fun x => (x.1.m, x.2.m)) := by
 have hhas : ∀ (x : Ad) (k : Nat), x.m.has k → x.v.ownBlock = some k := by
  intro x k hk
  rcases hk with hk | hk | hk | hk | hk | hk | hk
  ·exact hk
  all_goals cases hk
 refine ⟨?_, by rw [List.length_map, h.len], fun z hz => ?_, ?_⟩
 ·have e : cellsM (ms.map fun x => (x.1.m, x.2.m)) = cellsK KM ms := by
   unfold cellsM cellsK
   rw [List.flatMap_map]
   rfl
  rw [e]
  exact h.row
 ·obtain ⟨y, hy, rfl⟩ := List.mem_map.1 hz
  have hs := h.sub y hy
  have hn := own_nil w B 3 1
  refine ⟨⟨hs.1, hn, hn, hn, hn, hn, hn, ?_, ?_, ?_, ?_, ?_, ?_⟩, ?_, ⟨?_, Nat.zero_le _, Nat.zero_le _, Nat.zero_le _, Nat.zero_le _, Nat.zero_le _, Nat.zero_le _⟩⟩
  all_goals first | (intro k hk; cases hk; done) | skip
  ·refine ⟨?_, ?_, ?_, ?_, ?_, ?_, ?_, ?_, ?_, ?_⟩
   all_goals (intro k hk; cases hk)
  ·have h1 := hf y hy
   have h2 : y.1.L.length = y.2.n := hs.2
   show y.2.n ≤ 1000000
   omega
 ·rw [List.pairwise_map]
  exact h.nod.imp fun hxy k h1 h2 => hxy k (hhas _ k h1) (hhas _ k h2)

end Go.Proofs.YteepobghdpnabaaGreat
namespace Go.Proofs.YteepobghdpnabaaGreat
open Go.RowKit

abbrev ZC : List Value := [.int .i64 (-9), .int .i64 0, .int .i64 0, .int .i64 0, .int .i64 0, .int .i64 0, .slice none 0 0, .int .i64 0, .int .i64 0, .slice none 0 0, .slice none 0 0, .int .i64 0, .int .i64 0, .slice none 0 0, .slice none 0 0, .int .i64 0, .slice none 0 0, .slice none 0 0]
def rowMHas (o : Ad) (ms : List (MsgD × MsgA)) (j : Nat) : Prop := o.v.ownBlock = some j ∨ ∃ y ∈ ms, y.2.has j
set_option maxRecDepth 100000 in
set_option maxHeartbeats 8000000 in
theorem spoilMsgs_far (B : Nat) (o : Ad) (ms : List (MsgD × MsgA)) (w : World) (h : RowM B w o ms) (hn : ms.length ≤ 1000000) (hB : B ≤ w.heap.size) :
  Calls Tryz.prog 58 #[o.v] w fun e w' => e = .returned (.tuple #[]) ∧ Touch (rowMHas o ms) w w' := by
 obtain ⟨A, n, c⟩ := o
 have hz : ms.length = n := h.len
 have hn2 : n ≤ 1000000 := by omega
 have H := Lib.hid h
 have HZ := Lib.hid hz
 have HBB := Lib.hid hB
 unfold Ad.v
 have HS0 : Hid (w.ownsRow B 48 18 (.slice A n c) n ([] ++ cellsM (ms.drop 0))) := by show w.ownsRow _ _ _ _ _ _; rw [List.nil_append, List.drop_zero]; exact h.row
 have HLT : Hid (∀ j, ((Value.slice A n c).ownBlock = some j ∨ ∃ y ∈ ms, y.2.has j) → B ≤ j) := by
  show ∀ j, _
  rintro j (e | ⟨y, hy, e⟩)
  ·exact (own_lt h.row e).2
  ·exact ((h.sub y hy).1.lt e).2
 clear h hz hn hB
 go_enter Tryz.func58, Tryz.ntmps58
 go_wp2
 go_loopw [2] (fun i wr => ∃ (k : Nat) (pre : List Value), i = .int .i64 k ∧ k ≤ n ∧ Hid (pre.length = k * 18) ∧ Hid (wr.ownsRow B 48 18 (.slice A n c) n (pre ++ cellsM (ms.drop k))) ∧ Hid (Touch (fun j => (Value.slice A n c).ownBlock = some j ∨ ∃ y ∈ ms.take k, y.2.has j) w wr)) (fun i _ => n - (intOf i).toNat)
 case atStart => exact ⟨0, [], rfl, by omega, rfl, HS0, Lib.hid (Touch.refl _ _)⟩
 case round =>
  clear HS0
  obtain ⟨k, pre, rfl, hk, HP, HO, HT⟩ := hrel
  have i0 : (0 : Int) ≤ (k : Int) := by omega
  by_cases hlt : k < n
  ·obtain ⟨x, hx⟩ : ∃ x, ms[k]? = some x := ⟨ms[k]'(by rw [HZ.out]; exact hlt), by simp⟩
   have hxm := List.mem_of_getElem? hx
   have hcell : cellsM (ms.drop k) = msgC x.1 x.2 ++ cellsM (ms.drop (k + 1)) := by
    obtain ⟨hl, he⟩ := List.getElem?_eq_some_iff.1 hx
    rw [List.drop_eq_getElem_cons hl, he]
    rfl
   have ho := HO.out
   rw [hcell] at ho
   obtain ⟨g, cap, hv, hBg, hglt⟩ := ho.form (by omega)
   simp only [Value.slice.injEq, true_and] at hv
   obtain ⟨rfl, rfl⟩ := hv
   have HR0 := Lib.hid ho
   have HAT : Hid (∀ wX : World, wX.ownsRow B 48 18 (.slice (some ⟨g, 0, none⟩) n c) n (pre ++ (msgC x.1 x.2 ++ cellsM (ms.drop (k + 1)))) → ∀ i u, (msgC x.1 x.2)[i]? = some u → wX.cell? ⟨g, k * 18 + i, none⟩ = some u) := by
    show ∀ wX, _
    intro wX hX i u hu
    have hi : i < 18 := (List.getElem?_eq_some_iff.1 hu).1
    rw [hX.cellAt (k * 18 + i) (by omega), List.getElem?_append_right (by rw [HP.out]; omega), HP.out, show k * 18 + i - k * 18 = i by omega, List.getElem?_append_left (show i < 18 from hi)]
    exact hu
   have hsub := H.out.sub x hxm
   have hno : ∀ j, x.2.has j → ¬ ((Value.slice (some ⟨g, 0, none⟩) n c).ownBlock = some j ∨ ∃ y ∈ ms.take k, y.2.has j) := by
    rintro j hj (e | ⟨y, hy, e⟩)
    ·have hr := H.out.row
     rcases hj with hj | hj | hj | hj | hj | hj | hj
     ·exact own_unlike hr hsub.1.oL (show 48 ≠ 40 by decide) e hj
     ·exact own_unlike hr hsub.1.ohB (show 48 ≠ 3 by decide) e hj
     ·exact own_unlike hr hsub.1.ohP (show 48 ≠ 3 by decide) e hj
     ·exact own_unlike hr hsub.1.ocB (show 48 ≠ 3 by decide) e hj
     ·exact own_unlike hr hsub.1.ocP (show 48 ≠ 3 by decide) e hj
     ·exact own_unlike hr hsub.1.ocS (show 48 ≠ 3 by decide) e hj
     ·exact own_unlike hr hsub.1.oD (show 48 ≠ 3 by decide) e hj
    ·obtain ⟨i, hi⟩ := List.mem_iff_getElem?.1 hy
     rw [List.getElem?_take] at hi
     split at hi
     ·rename_i hik
      have hp := List.pairwise_iff_getElem.1 H.out.nod i k (List.getElem?_eq_some_iff.1 hi).1 (List.getElem?_eq_some_iff.1 hx).1 hik j
      rw [(List.getElem?_eq_some_iff.1 hi).2, (List.getElem?_eq_some_iff.1 hx).2] at hp
      exact hp e hj
     ·cases hi
   have HM : Hid (MsgNew B wr x.1 x.2) := hsub.1.kept fun j hj hl => HT.out.block j hl (hno j hj)
   have HA : Hid (MsgAp x.2) := hsub.2.1
   have HF : Hid (MsgFew 1000000 x.2) := hsub.2.2
   have HFAR : Hid (∀ j, (Value.slice (some ⟨g, 0, none⟩) n c).ownBlock = some j → ¬ x.2.has j) := by show ∀ j, _; exact fun j hj hx => hno j hx (.inl hj)
   have HXM : Hid (x ∈ ms.take (k + 1)) := List.mem_of_getElem? (by rw [List.getElem?_take, if_pos (Nat.lt_succ_self k)]; exact hx)
   have i1 : (k : Int) < (n : Int) := by omega
   clear hx hxm hcell ho hsub hno hBg
   have c6 : wr.cell? ⟨g, k * 18 + 6, none⟩ = some (.slice x.2.AL x.2.nL x.2.cL) := HAT.out wr HR0.out 6 _ rfl
   have HSL := Lib.hid (spoilTxs_far B (.slice x.2.AL x.2.nL x.2.cL) x.2.nL _ wr HM.out.oL HF.out.sL)
   go_upto_region 4 with (go_at_call 50; refine HSL.out.mono ?_; rintro e w2 ⟨rfl, ht2⟩)
   have ht2' : Touch (fun j => (Value.slice x.2.AL x.2.nL x.2.cL).ownBlock = some j) wr w2 := ht2
   have HR2 : Hid (w2.ownsRow B 48 18 (.slice (some ⟨g, 0, none⟩) n c) n (pre ++ (msgC x.1 x.2 ++ cellsM (ms.drop (k + 1))))) := own_kept HR0.out fun j hj hl => ht2'.block j hl fun e => HFAR.out j hj (.inl e)
   have oB2 := own_kept HM.out.ohB fun j hj hl => ht2'.block j hl fun e => own_unlike HM.out.oL HM.out.ohB (show 40 ≠ 3 by decide) e hj
   have oP2 := own_kept HM.out.ohP fun j hj hl => ht2'.block j hl fun e => own_unlike HM.out.oL HM.out.ohP (show 40 ≠ 3 by decide) e hj
   have ocB2 := own_kept HM.out.ocB fun j hj hl => ht2'.block j hl fun e => own_unlike HM.out.oL HM.out.ocB (show 40 ≠ 3 by decide) e hj
   have ocP2 := own_kept HM.out.ocP fun j hj hl => ht2'.block j hl fun e => own_unlike HM.out.oL HM.out.ocP (show 40 ≠ 3 by decide) e hj
   have ocS2 := own_kept HM.out.ocS fun j hj hl => ht2'.block j hl fun e => own_unlike HM.out.oL HM.out.ocS (show 40 ≠ 3 by decide) e hj
   have oD2 := own_kept HM.out.oD fun j hj hl => ht2'.block j hl fun e => own_unlike HM.out.oL HM.out.oD (show 40 ≠ 3 by decide) e hj
   have HSH := Lib.hid (spoilHdr_far x.1.ha x.1.hr x.2.AhB x.2.nhB x.2.chB x.1.hB x.2.AhP x.2.nhP x.2.chP x.1.hP B w2 HF.out.shB oB2 HF.out.shP oP2 HA.out.1 (fun j => (Value.slice x.2.AhB x.2.nhB x.2.chB).ownBlock = some j ∨ (Value.slice x.2.AhP x.2.nhP x.2.chP).ownBlock = some j) (fun j hj => hj))
   have HT2 := Lib.hid ht2'
   have HO2 : Hid (w2.ownsRow B 3 1 (.slice x.2.AcB x.2.ncB x.2.ccB) x.2.ncB (i64s x.1.cB) ∧ w2.ownsRow B 3 1 (.slice x.2.AcP x.2.ncP x.2.ccP) x.2.ncP (i64s x.1.cP) ∧ w2.ownsRow B 3 1 (.slice x.2.AcS x.2.ncS x.2.ccS) x.2.ncS (i64s x.1.cS) ∧ w2.ownsRow B 3 1 (.slice x.2.AD x.2.nD x.2.cD) x.2.nD (i64s x.1.D)) := ⟨ocB2, ocP2, ocS2, oD2⟩
   clear c6 ht2 ht2' oB2 oP2 ocB2 ocP2 ocS2 oD2
   have c7 : w2.cell? ⟨g, k * 18 + 7, none⟩ = some (.int .i64 x.1.ha) := HAT.out w2 HR2.out 7 _ rfl
   have c8 : w2.cell? ⟨g, k * 18 + 8, none⟩ = some (.int .i64 x.1.hr) := HAT.out w2 HR2.out 8 _ rfl
   have c9 : w2.cell? ⟨g, k * 18 + 9, none⟩ = some (.slice x.2.AhB x.2.nhB x.2.chB) := HAT.out w2 HR2.out 9 _ rfl
   have c10 : w2.cell? ⟨g, k * 18 + 10, none⟩ = some (.slice x.2.AhP x.2.nhP x.2.chP) := HAT.out w2 HR2.out 10 _ rfl
   go_upto_region 5 with (go_at_call 106; refine HSH.out.mono ?_; rintro e w3 ⟨rfl, ht3⟩)
   have ht3' : Touch (fun j => (Value.slice x.2.AhB x.2.nhB x.2.chB).ownBlock = some j ∨ (Value.slice x.2.AhP x.2.nhP x.2.chP).ownBlock = some j) w2 w3 := ht3
   have HR3 : Hid (w3.ownsRow B 48 18 (.slice (some ⟨g, 0, none⟩) n c) n (pre ++ (msgC x.1 x.2 ++ cellsM (ms.drop (k + 1))))) := own_kept HR2.out fun j hj hl => ht3'.block j hl fun e => HFAR.out j hj (.inr (e.imp id .inl))
   have ocB3 := own_kept HO2.out.1 fun j hj hl => ht3'.block j hl fun e => e.elim (fun e => HA.out.2.1 j e hj) (fun e => HA.out.2.2.2.2.1 j e hj)
   have ocP3 := own_kept HO2.out.2.1 fun j hj hl => ht3'.block j hl fun e => e.elim (fun e => HA.out.2.2.1 j e hj) (fun e => HA.out.2.2.2.2.2.1 j e hj)
   have ocS3 := own_kept HO2.out.2.2.1 fun j hj hl => ht3'.block j hl fun e => e.elim (fun e => HA.out.2.2.2.1 j e hj) (fun e => HA.out.2.2.2.2.2.2.1 j e hj)
   have oD3 := own_kept HO2.out.2.2.2 fun j hj hl => ht3'.block j hl fun e => e.elim (fun e => HM.out.ahB j hj e) (fun e => HM.out.ahP j hj e)
   have HSC := Lib.hid (spoilCert_far x.1.ca x.1.cr x.1.cd x.2.AcB x.2.ncB x.2.ccB x.1.cB x.2.AcP x.2.ncP x.2.ccP x.1.cP x.2.AcS x.2.ncS x.2.ccS x.1.cS B w3 HF.out.scB ocB3 HF.out.scP ocP3 HF.out.scS ocS3 HA.out.2.2.2.2.2.2.2.1 HA.out.2.2.2.2.2.2.2.2.1 HA.out.2.2.2.2.2.2.2.2.2 (fun j => (Value.slice x.2.AcB x.2.ncB x.2.ccB).ownBlock = some j ∨ (Value.slice x.2.AcP x.2.ncP x.2.ccP).ownBlock = some j ∨ (Value.slice x.2.AcS x.2.ncS x.2.ccS).ownBlock = some j) (fun j hj => hj))
   have HT3 := Lib.hid ht3'
   have HO3 := Lib.hid oD3
   clear c7 c8 c9 c10 ht3 ht3' ocB3 ocP3 ocS3 oD3 HO2
   have c11 : w3.cell? ⟨g, k * 18 + 11, none⟩ = some (.int .i64 x.1.ca) := HAT.out w3 HR3.out 11 _ rfl
   have c12 : w3.cell? ⟨g, k * 18 + 12, none⟩ = some (.int .i64 x.1.cr) := HAT.out w3 HR3.out 12 _ rfl
   have c13 : w3.cell? ⟨g, k * 18 + 13, none⟩ = some (.slice x.2.AcB x.2.ncB x.2.ccB) := HAT.out w3 HR3.out 13 _ rfl
   have c14 : w3.cell? ⟨g, k * 18 + 14, none⟩ = some (.slice x.2.AcP x.2.ncP x.2.ccP) := HAT.out w3 HR3.out 14 _ rfl
   have c15 : w3.cell? ⟨g, k * 18 + 15, none⟩ = some (.int .i64 x.1.cd) := HAT.out w3 HR3.out 15 _ rfl
   have c16 : w3.cell? ⟨g, k * 18 + 16, none⟩ = some (.slice x.2.AcS x.2.ncS x.2.ccS) := HAT.out w3 HR3.out 16 _ rfl
   go_upto_region 6 with (go_at_call 107; refine HSC.out.mono ?_; rintro e w4 ⟨rfl, ht4⟩)
   have ht4' : Touch (fun j => (Value.slice x.2.AcB x.2.ncB x.2.ccB).ownBlock = some j ∨ (Value.slice x.2.AcP x.2.ncP x.2.ccP).ownBlock = some j ∨ (Value.slice x.2.AcS x.2.ncS x.2.ccS).ownBlock = some j) w3 w4 := ht4
   have HR4 : Hid (w4.ownsRow B 48 18 (.slice (some ⟨g, 0, none⟩) n c) n (pre ++ (msgC x.1 x.2 ++ cellsM (ms.drop (k + 1))))) := own_kept HR3.out fun j hj hl => ht4'.block j hl fun e => HFAR.out j hj (.inr (.inr (.inr (e.imp id (·.imp id .inl)))))
   have HSD := Lib.hid (spoilNums_far B (.slice x.2.AD x.2.nD x.2.cD) x.2.nD _ w4 (own_kept HO3.out fun j hj hl => ht4'.block j hl (by
    rintro (e | e | e)
    ·exact HM.out.acB j hj e
    ·exact HM.out.acP j hj e
    ·exact HM.out.acS j hj e)) (by have := HF.out.sD; omega))
   have HT4 := Lib.hid ht4'
   clear c11 c12 c13 c14 c15 c16 ht4 ht4'
   have c17 : w4.cell? ⟨g, k * 18 + 17, none⟩ = some (.slice x.2.AD x.2.nD x.2.cD) := HAT.out w4 HR4.out 17 _ rfl
   go_upto_region 7 with (go_at_call 108; refine HSD.out.mono ?_; rintro e w5 ⟨rfl, ht5⟩)
   have ht5' : Touch (fun j => (Value.slice x.2.AD x.2.nD x.2.cD).ownBlock = some j) w4 w5 := ht5
   have HR5 : Hid (w5.ownsRow B 48 18 (.slice (some ⟨g, 0, none⟩) n c) n (pre ++ (msgC x.1 x.2 ++ cellsM (ms.drop (k + 1))))) := own_kept HR4.out fun j hj hl => ht5'.block j hl fun e => HFAR.out j hj (.inr (.inr (.inr (.inr (.inr (.inr e))))))
   have hT5 : Touch (fun j => (Value.slice (some ⟨g, 0, none⟩) n c).ownBlock = some j ∨ ∃ y ∈ ms.take (k + 1), y.2.has j) w w5 := ((((HT.out.mono fun j hj => hj.imp id (fun ⟨y, hy, e⟩ => ⟨y, List.take_subset_take_left ms (Nat.le_succ k) hy, e⟩)).on (HT2.out.mono fun j hj => .inr ⟨x, HXM.out, .inl hj⟩)).on (HT3.out.mono fun j hj => .inr ⟨x, HXM.out, .inr (hj.imp id .inl)⟩)).on (HT4.out.mono fun j hj => .inr ⟨x, HXM.out, .inr (.inr (.inr (hj.imp id (·.imp id .inl))))⟩)).on (ht5'.mono fun j hj => .inr ⟨x, HXM.out, .inr (.inr (.inr (.inr (.inr (.inr hj)))))⟩)
   have HT5 := Lib.hid hT5
   have hlen5 : k * 18 + 18 ≤ (pre ++ (msgC x.1 x.2 ++ cellsM (ms.drop (k + 1)))).length := by rw [HR5.out.1]; omega
   clear c17 ht5 ht5' hT5
   go_wp2_with (refine wpList_store_row rfl 48 _ _ rfl B n c g 18 (k * 18) 48 ZC (pre ++ (msgC x.1 x.2 ++ cellsM (ms.drop (k + 1)))) rfl rfl HR5.out hlen5 size_mes rfl ?_; intro w6 hr6 T6)
   have hr6' : w6.ownsRow B 48 18 (.slice (some ⟨g, 0, none⟩) n c) n ((pre ++ ZC) ++ cellsM (ms.drop (k + 1))) := by
    have e : List.take (k * 18) (pre ++ (msgC x.1 x.2 ++ cellsM (ms.drop (k + 1)))) ++ ZC ++ List.drop (k * 18 + ZC.length) (pre ++ (msgC x.1 x.2 ++ cellsM (ms.drop (k + 1)))) = (pre ++ ZC) ++ cellsM (ms.drop (k + 1)) := by
     rw [← HP.out, List.take_left', ← List.append_assoc pre, List.drop_left']
     ·rw [List.length_append]; rfl
     ·rfl
    rw [e] at hr6
    exact hr6
   have HR6 := Lib.hid hr6'
   have hT6 := HT5.out.on (T6 (fun j => (Value.slice (some ⟨g, 0, none⟩) n c).ownBlock = some j ∨ ∃ y ∈ ms.take (k + 1), y.2.has j) (.inl rfl))
   have HT6 := Lib.hid hT6
   clear hr6 hr6' T6 hT6
   go_roundw
   case rel =>
    refine ⟨k + 1, pre ++ ZC, by go_num, by omega, ?_, HR6, HT6⟩
    show _ = _
    rw [List.length_append, HP.out]
    show k * 18 + 18 = (k + 1) * 18
    omega
   case measure => simp [intOf]; omega
  ·have i1 : ¬ ((k : Int) < (n : Int)) := by omega
   obtain rfl : k = n := by omega
   have hall : Touch (fun j => (Value.slice A k c).ownBlock = some j ∨ ∃ y ∈ ms, y.2.has j) w wr := HT.out.mono fun j hj => hj.imp id (fun ⟨y, hy, e⟩ => ⟨y, List.mem_of_mem_take hy, e⟩)
   have hsw := hall.size
   have HALL := Lib.hid hall
   have ho := HO.out
   obtain ⟨A6, c6, w6, hr6, ho6, hg6, -⟩ := run_app_rowsZ (P := Tryz.prog) (wr.alloc (.cells (msgC zeroM zeroA).toArray 48)) 73 73 B 48 (msgV zeroM zeroA) 18 256 Tryz.underlying73 info_mesZ rfl (by decide) (by decide) (.slice A k c) k _ (ho.alloc _) (some ⟨wr.heap.size, 0, none⟩) 1 1 (msgC zeroM zeroA) rfl (rd_new wr _ 48) (fun u hu => List.all_eq_true.1 (show (msgC zeroM zeroA).all (·.oneCell') = true from rfl) u hu) (by omega) (by have := HBB.out; simp; omega)
   have HR6 := Lib.hid hr6
   have hb6 : Touch (fun j => (Value.slice A k c).ownBlock = some j ∨ ∃ y ∈ ms, y.2.has j) w w6 := (HALL.out.alloc (.cells (msgC zeroM zeroA).toArray 48)).on (Touch.grown hg6 fun j hj => .inl hj)
   have HB6 := Lib.hid hb6
   clear hr6 ho6 hg6 hall ho hb6
   go_wp2_with (at_builtin; refine wpList_app_run (v := .slice A k c) (u := .slice (some ⟨wr.heap.size, 0, none⟩) 1 1) _ rfl _ _ 73 73 rfl rfl rfl HR6.out ?_)
   go_end0
   exact ⟨rfl, HB6.out⟩
theorem spoilMsgs_any (B : Nat) (o : Ad) (ms : List (MsgD × MsgA)) (w : World) (h : RowM B w o ms) (hn : ms.length ≤ 1000000) (hB : B ≤ w.heap.size) :
  Calls Tryz.prog 58 #[o.v] w fun e w' => e = .returned (.tuple #[]) ∧ Below B w w' :=
 (spoilMsgs_far B o ms w h hn hB).mono fun e w' ⟨he, ht⟩ => ⟨he, ht.below (fun k hk => by
  rcases hk with hk | ⟨y, hy, hk⟩
  ·exact (own_lt h.row hk).2
  ·exact ((h.sub y hy).1.lt hk).2) hB⟩

end Go.Proofs.YteepobghdpnabaaGreat
