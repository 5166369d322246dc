/-
  The laws' spoils of a header and of a certificate: only their own lists turn.
-/
import Derived.Test.YteepobghdpnabaaGreatKWorkerTicksy
import Derived.Test.YteepobghdpnabaaGreatKWorkerTicksf
import Derived.Test.YteepobghdpnabaaGreatKWorkerTickso
namespace Go.Proofs.YteepobghdpnabaaGreat
open Go.RowKit

set_option maxRecDepth 100000 in
set_option maxHeartbeats 4000000 in
theorem spoilHdr_far (a r : Int) (AB : Option Addr) (nB cB : Nat) (LB : List Int) (AP : Option Addr) (nP cP : Nat) (LP : List Int) (B0 : Nat) (w : World) (hnB : nB ≤ 1000000) (hoB : w.ownsRow B0 3 1 (.slice AB nB cB) nB (i64s LB)) (hnP : nP ≤ 1000000) (hoP : w.ownsRow B0 3 1 (.slice AP nP cP) nP (i64s LP)) (hd : (∀ k, (Value.slice AB nB cB).ownBlock = some k → (Value.slice AP nP cP).ownBlock ≠ some k)) (F : Nat → Prop) (hF : ∀ k, ((Value.slice AB nB cB).ownBlock = some k ∨ (Value.slice AP nP cP).ownBlock = some k) → F k) :
    Calls Tryz.prog 106 #[.agg #[.int .i64 a, .int .i64 r, .slice AB nB cB, .slice AP nP cP]] w fun e w' => e = .returned (.tuple #[]) ∧ Touch F w w' := by
  obtain ⟨g, hg⟩ : ∃ g, g = w.heap.size := ⟨_, rfl⟩
  obtain ⟨wa0, hwa0⟩ : ∃ wa0, wa0 = w.alloc (.cells #[.int .i64 a, .int .i64 r, .slice AB nB cB, .slice AP nP cP] 44) := ⟨_, rfl⟩
  have hs0 : wa0.heap.size = g + 1 := by rw [hwa0]; simp; omega
  have bn0 : Box wa0 (g) ([.int .i64 a, .int .i64 r, .slice AB nB cB, .slice AP nP cP]) := by rw [hwa0, hg]; exact box_new w ([.int .i64 a, .int .i64 r, .slice AB nB cB, .slice AP nP cP]) 44
  have hb0 : Below g w wa0 := by rw [hwa0]; exact (Below.refl _ _).alloc (by omega) _
  have HX0 : Hid (Box wa0 (g) ([.int .i64 a, .int .i64 r, .slice AB nB cB, .slice AP nP cP])) := bn0
  obtain ⟨w0, hw0⟩ : ∃ w0, w0 = wa0 := ⟨_, rfl⟩
  rw [← hw0] at HX0
  have hsz0 : w0.heap.size = g + 1 := by rw [hw0]; exact hs0
  have hb0w : Below g w w0 := by rw [hw0]; exact hb0
  have HW0 : Hid (w.alloc (.cells #[.int .i64 a, .int .i64 r, .slice AB nB cB, .slice AP nP cP] 44) = w0) := by show w.alloc (.cells #[.int .i64 a, .int .i64 r, .slice AB nB cB, .slice AP nP cP] 44) = w0; rw [hw0, hwa0]
  have HG : Hid (w.heap.size = g) := hg.symm
  have HS0 := Lib.hid hsz0
  have HB0 := Lib.hid hb0w
  have hl0 : g < w0.heap.size := by omega
  have hgw : g ≤ w0.heap.size := by omega
  have HFF := Lib.hid hF
  have hbw0 : Below w.heap.size w w0 := by rw [HG.out]; exact HB0.out
  have hoB' := ownS_below hoB hbw0
  have hoP' := ownS_below hoP hbw0
  have HLB : Hid (∀ k, (Value.slice AB nB cB).ownBlock = some k → k < g) := by show ∀ k, _; intro k hk; rw [← HG.out]; exact (own_lt hoB hk).1
  have HLP : Hid (∀ k, (Value.slice AP nP cP).ownBlock = some k → k < g) := by show ∀ k, _; intro k hk; rw [← HG.out]; exact (own_lt hoP hk).1
  have HSB := Lib.hid (spoilNums_far B0 (.slice AB nB cB) nB LB w0 hoB' (by omega))
  have HOP := Lib.hid hoP'
  have HD := Lib.hid hd
  clear hg hsz0 hb0w hw0 hwa0 hs0 bn0 hb0
  clear hF hbw0 hoB hoP hoB' hoP' hd
  go_enter Tryz.func106, Tryz.ntmps106
  go_upto_region 1 with fail
  rw [HG.out, HW0.out]
  have k2 : w0.cell? ⟨g, 2, none⟩ = some (.slice AB nB cB) := (HX0.out.2 2 _ rfl).1
  go_upto_region 2 with (go_at_call 108; refine HSB.out.mono ?_; rintro e w1 ⟨rfl, ht1⟩)
  have HT1 : Hid (Touch (fun k => (Value.slice AB nB cB).ownBlock = some k) w0 w1) := ht1
  have hbx1 := HX0.out.touch ht1 (fun e => by have := HLB.out g e; omega)
  have k3 : w1.cell? ⟨g, 3, none⟩ = some (.slice AP nP cP) := (hbx1.2 3 _ rfl).1
  have hg1 : g < w1.heap.size := hbx1.1
  have HSP := Lib.hid (spoilNums_far B0 (.slice AP nP cP) nP LP w1 (own_kept HOP.out fun j hj hl => ht1.block j hl fun e => HD.out j e hj) (by omega))
  clear ht1 hbx1 k2
  go_wp2_with (go_at_call 108; refine HSP.out.mono ?_; rintro e w2 ⟨rfl, ht2⟩)
  have hT : Touch F w w2 := ((Touch.of (show Below w.heap.size w w0 by rw [HG.out]; exact HB0.out)).on (HT1.out.mono fun j hj => HFF.out j (.inl hj))).on (ht2.mono fun j hj => HFF.out j (.inr hj))
  go_end0
  exact ⟨rfl, hT⟩
set_option maxRecDepth 100000 in
set_option maxHeartbeats 4000000 in
theorem spoilCert_far (a r d : Int) (AB : Option Addr) (nB cB : Nat) (LB : List Int) (AP : Option Addr) (nP cP : Nat) (LP : List Int) (AS : Option Addr) (nS cS : Nat) (LS : List Int) (B0 : Nat) (w : World) (hnB : nB ≤ 1000000) (hoB : w.ownsRow B0 3 1 (.slice AB nB cB) nB (i64s LB)) (hnP : nP ≤ 1000000) (hoP : w.ownsRow B0 3 1 (.slice AP nP cP) nP (i64s LP)) (hnS : nS ≤ 1000000) (hoS : w.ownsRow B0 3 1 (.slice AS nS cS) nS (i64s LS)) (hd1 : (∀ k, (Value.slice AB nB cB).ownBlock = some k → (Value.slice AP nP cP).ownBlock ≠ some k)) (hd2 : (∀ k, (Value.slice AB nB cB).ownBlock = some k → (Value.slice AS nS cS).ownBlock ≠ some k)) (hd3 : (∀ k, (Value.slice AP nP cP).ownBlock = some k → (Value.slice AS nS cS).ownBlock ≠ some k)) (F : Nat → Prop) (hF : ∀ k, ((Value.slice AB nB cB).ownBlock = some k ∨ (Value.slice AP nP cP).ownBlock = some k ∨ (Value.slice AS nS cS).ownBlock = some k) → F k) :
    Calls Tryz.prog 107 #[.agg #[.int .i64 a, .int .i64 r, .slice AB nB cB, .slice AP nP cP, .int .i64 d, .slice AS nS cS]] w fun e w' => e = .returned (.tuple #[]) ∧ Touch F w w' := by
  obtain ⟨g, hg⟩ : ∃ g, g = w.heap.size := ⟨_, rfl⟩
  obtain ⟨wa0, hwa0⟩ : ∃ wa0, wa0 = w.alloc (.cells #[.int .i64 a, .int .i64 r, .slice AB nB cB, .slice AP nP cP, .int .i64 d, .slice AS nS cS] 46) := ⟨_, rfl⟩
  have hs0 : wa0.heap.size = g + 1 := by rw [hwa0]; simp; omega
  have bn0 : Box wa0 (g) ([.int .i64 a, .int .i64 r, .slice AB nB cB, .slice AP nP cP, .int .i64 d, .slice AS nS cS]) := by rw [hwa0, hg]; exact box_new w ([.int .i64 a, .int .i64 r, .slice AB nB cB, .slice AP nP cP, .int .i64 d, .slice AS nS cS]) 46
  have hb0 : Below g w wa0 := by rw [hwa0]; exact (Below.refl _ _).alloc (by omega) _
  have HX0 : Hid (Box wa0 (g) ([.int .i64 a, .int .i64 r, .slice AB nB cB, .slice AP nP cP, .int .i64 d, .slice AS nS cS])) := bn0
  obtain ⟨w0, hw0⟩ : ∃ w0, w0 = wa0 := ⟨_, rfl⟩
  rw [← hw0] at HX0
  have hsz0 : w0.heap.size = g + 1 := by rw [hw0]; exact hs0
  have hb0w : Below g w w0 := by rw [hw0]; exact hb0
  have HW0 : Hid (w.alloc (.cells #[.int .i64 a, .int .i64 r, .slice AB nB cB, .slice AP nP cP, .int .i64 d, .slice AS nS cS] 46) = w0) := by show w.alloc (.cells #[.int .i64 a, .int .i64 r, .slice AB nB cB, .slice AP nP cP, .int .i64 d, .slice AS nS cS] 46) = w0; rw [hw0, hwa0]
  have HG : Hid (w.heap.size = g) := hg.symm
  have HS0 := Lib.hid hsz0
  have HB0 := Lib.hid hb0w
  have hl0 : g < w0.heap.size := by omega
  have hgw : g ≤ w0.heap.size := by omega
  have HFF := Lib.hid hF
  have hbw0 : Below w.heap.size w w0 := by rw [HG.out]; exact HB0.out
  have hoB' := ownS_below hoB hbw0
  have hoP' := ownS_below hoP hbw0
  have hoS' := ownS_below hoS hbw0
  have HLB : Hid (∀ k, (Value.slice AB nB cB).ownBlock = some k → k < g) := by show ∀ k, _; intro k hk; rw [← HG.out]; exact (own_lt hoB hk).1
  have HLP : Hid (∀ k, (Value.slice AP nP cP).ownBlock = some k → k < g) := by show ∀ k, _; intro k hk; rw [← HG.out]; exact (own_lt hoP hk).1
  have HSH := Lib.hid (spoilHdr_far a r AB nB cB LB AP nP cP LP B0 w0 hnB hoB' hnP hoP' hd1 (fun k => (Value.slice AB nB cB).ownBlock = some k ∨ (Value.slice AP nP cP).ownBlock = some k) (fun k hk => hk))
  have HOS := Lib.hid hoS'
  have HD2 := Lib.hid hd2
  have HD3 := Lib.hid hd3
  clear hg hsz0 hb0w hw0 hwa0 hs0 bn0 hb0
  clear hF hbw0 hoB hoP hoS hoB' hoP' hoS' hd1 hd2 hd3
  go_enter Tryz.func107, Tryz.ntmps107
  go_upto_region 1 with fail
  rw [HG.out, HW0.out]
  have k0 : w0.cell? ⟨g, 0, none⟩ = some (.int .i64 a) := (HX0.out.2 0 _ rfl).1
  have k1 : w0.cell? ⟨g, 1, none⟩ = some (.int .i64 r) := (HX0.out.2 1 _ rfl).1
  have k2 : w0.cell? ⟨g, 2, none⟩ = some (.slice AB nB cB) := (HX0.out.2 2 _ rfl).1
  have k3 : w0.cell? ⟨g, 3, none⟩ = some (.slice AP nP cP) := (HX0.out.2 3 _ rfl).1
  go_upto_region 2 with (go_at_call 106; refine HSH.out.mono ?_; rintro e w1 ⟨rfl, ht1⟩)
  have ht1' : Touch (fun k => (Value.slice AB nB cB).ownBlock = some k ∨ (Value.slice AP nP cP).ownBlock = some k) w0 w1 := ht1
  have HT1 := Lib.hid ht1'
  have hbx1 := HX0.out.touch ht1' (by
    rintro (e | e)
    · have := HLB.out g e; omega
    · have := HLP.out g e; omega)
  have k5 : w1.cell? ⟨g, 5, none⟩ = some (.slice AS nS cS) := (hbx1.2 5 _ rfl).1
  have hg1 : g < w1.heap.size := hbx1.1
  have HSS := Lib.hid (spoilNums_far B0 (.slice AS nS cS) nS LS w1 (own_kept HOS.out fun j hj hl => ht1'.block j hl (by
    rintro (e | e)
    · exact HD2.out j e hj
    · exact HD3.out j e hj)) (by omega))
  clear ht1 ht1' hbx1 k0 k1 k2 k3
  go_wp2_with (go_at_call 108; refine HSS.out.mono ?_; rintro e w2 ⟨rfl, ht2⟩)
  have hT : Touch F w w2 := ((Touch.of (show Below w.heap.size w w0 by rw [HG.out]; exact HB0.out)).on (HT1.out.mono fun j hj => HFF.out j (hj.imp id .inl))).on (ht2.mono fun j hj => HFF.out j (.inr (.inr hj)))
  go_end0
  exact ⟨rfl, hT⟩

end Go.Proofs.YteepobghdpnabaaGreat
namespace Go.Proofs.YteepobghdpnabaaGreat
open Go.RowKit

/-- a message's lists of numbers lie apart (MsgNew tells it of the last) -/
def MsgAp (a : MsgA) : Prop := (∀ k, (Value.slice a.AhB a.nhB a.chB).ownBlock = some k → (Value.slice a.AhP a.nhP a.chP).ownBlock ≠ some k) ∧ (∀ k, (Value.slice a.AhB a.nhB a.chB).ownBlock = some k → (Value.slice a.AcB a.ncB a.ccB).ownBlock ≠ some k) ∧ (∀ k, (Value.slice a.AhB a.nhB a.chB).ownBlock = some k → (Value.slice a.AcP a.ncP a.ccP).ownBlock ≠ some k) ∧ (∀ k, (Value.slice a.AhB a.nhB a.chB).ownBlock = some k → (Value.slice a.AcS a.ncS a.ccS).ownBlock ≠ some k) ∧ (∀ k, (Value.slice a.AhP a.nhP a.chP).ownBlock = some k → (Value.slice a.AcB a.ncB a.ccB).ownBlock ≠ some k) ∧ (∀ k, (Value.slice a.AhP a.nhP a.chP).ownBlock = some k → (Value.slice a.AcP a.ncP a.ccP).ownBlock ≠ some k) ∧ (∀ k, (Value.slice a.AhP a.nhP a.chP).ownBlock = some k → (Value.slice a.AcS a.ncS a.ccS).ownBlock ≠ some k) ∧ (∀ k, (Value.slice a.AcB a.ncB a.ccB).ownBlock = some k → (Value.slice a.AcP a.ncP a.ccP).ownBlock ≠ some k) ∧ (∀ k, (Value.slice a.AcB a.ncB a.ccB).ownBlock = some k → (Value.slice a.AcS a.ncS a.ccS).ownBlock ≠ some k) ∧ (∀ k, (Value.slice a.AcP a.ncP a.ccP).ownBlock = some k → (Value.slice a.AcS a.ncS a.ccS).ownBlock ≠ some k)

end Go.Proofs.YteepobghdpnabaaGreat
namespace Go.Proofs.YteepobghdpnabaaGreat
open Go.RowKit

theorem own_setCells {B n c g s : Nat} {e : TypeId} : ∀ (cs : List Value) (j : Nat) (xs : List Value) (w : World), w.ownsRow B e s (.slice (some ⟨g, 0, none⟩) n c) n xs → j + cs.length ≤ xs.length → (w.setCells g j cs).ownsRow B e s (.slice (some ⟨g, 0, none⟩) n c) n (xs.take j ++ cs ++ xs.drop (j + cs.length))
  | [], j, xs, _, h, _ => by
    have e : xs.take j ++ [] ++ xs.drop (j + ([] : List Value).length) = xs := by simp
    rw [e]
    exact h
  | v :: r, j, xs, w, h, hl => by
    simp only [List.length_cons] at hl
    have ih := own_setCells r (j + 1) (xs.set j v) (w.setCell ⟨g, j, none⟩ v) (h.stored j v).1 (by rw [List.length_set]; omega)
    rw [take_set_up (by omega), drop_set_up (by omega)] at ih
    have e : xs.take j ++ (v :: r) ++ xs.drop (j + (v :: r).length) = xs.take j ++ [v] ++ r ++ xs.drop (j + 1 + r.length) := by
      simp only [List.length_cons, List.append_assoc, List.cons_append, List.nil_append]
      rw [show j + (r.length + 1) = j + 1 + r.length by omega]
    rw [e]
    exact ih
theorem row_box {w : World} {B n c g s : Nat} {e : TypeId} {xs : List Value} (h : w.ownsRow B e s (.slice (some ⟨g, 0, none⟩) n c) n xs) : Box w g xs :=
  ⟨(own_lt h rfl).1, fun j v hj => by
    obtain ⟨hl, he⟩ := List.getElem?_eq_some_iff.1 hj
    have hl' : j < n * s := by have := h.1; omega
    exact ⟨(h.cellAt j hl').trans hj, h.frozenAt j⟩⟩
section
variable {P : Program} {w : World}
theorem wpList_store_row {ops : Array Oper} {rest : List Oper} {op : Oper} {a : Act} {Q : Exit → Act → World → Prop} (hgd : op.guard = none) (ty : TypeId) (x y : Operand) (ho : op.op = .store ty x y)
    (B n c g s j : Nat) (e : TypeId) (cs xs : List Value) (hx : a.eval x = .pointer (some ⟨g, j, none⟩)) (hy : a.eval y = .agg cs.toArray) (hb : w.ownsRow B e s (.slice (some ⟨g, 0, none⟩) n c) n xs) (hl : j + cs.length ≤ xs.length)
    (hi : (P.info? ty).map (·.size) = some cs.length) (h1 : cs.all (·.oneCell') = true)
    (h : ∀ w', w'.ownsRow B e s (.slice (some ⟨g, 0, none⟩) n c) n (xs.take j ++ cs ++ xs.drop (j + cs.length)) → (∀ F : Nat → Prop, F g → Touch F w w') → wpList P ops Q rest (a.put op.dst undef) w') : wpList P ops Q (op :: rest) a w :=
  wpList_store_mid hgd ty x y ho g j cs.toArray hx hy (by rw [List.size_toArray]; exact there_box (row_box hb) hl) (by rw [List.size_toArray]; exact hi) (all_oneCell_toArray fun v hv => List.all_eq_true.1 h1 v hv)
    (h _ (own_setCells cs j xs w hb hl) (fun F hF => touch_setCells hF cs j w w (Touch.refl F w)))
end
def cellsM (ms : List (MsgD × MsgA)) : List Value := ms.flatMap fun x => msgC x.1 x.2
/-- a row of messages that is the call's own, every list apart -/
structure RowM (B : Nat) (w : World) (o : Ad) (ms : List (MsgD × MsgA)) : Prop where
  row : w.ownsRow B 48 18 o.v o.n (cellsM ms)
  len : ms.length = o.n
  sub : ∀ x ∈ ms, MsgNew B w x.1 x.2 ∧ MsgAp x.2 ∧ MsgFew 1000000 x.2
  nod : ms.Pairwise fun x y => ∀ k, x.2.has k → ¬ y.2.has k
theorem own_nil (w : World) (B : Nat) (e : TypeId) (s : Nat) : w.ownsRow B e s (.slice none 0 0) 0 [] := ⟨by simp, .inl ⟨rfl, rfl⟩⟩
/-- the workers' messages as such a row -/
theorem RowOwn.rowM {B : Nat} {w : World} {o : Ad} {ms : List (OtD × Ad)} (h : RowOwn KM B w o ms) (hf : ∀ y ∈ ms, y.1.L.length ≤ 1000000) : RowM B w o (ms.map fun x => (x.1.m, x.2.m)) := by
  have hhas : ∀ (x : Ad) (k : Nat), x.m.has k → x.v.ownBlock = some k := by
    intro x k hk
    rcases hk with hk | hk | hk | hk | hk | hk | hk
    · exact hk
    all_goals cases hk
  refine ⟨?_, by rw [List.length_map, h.len], fun z hz => ?_, ?_⟩
  · have e : cellsM (ms.map fun x => (x.1.m, x.2.m)) = cellsK KM ms := by
      unfold cellsM cellsK
      rw [List.flatMap_map]
      rfl
    rw [e]
    exact h.row
  · obtain ⟨y, hy, rfl⟩ := List.mem_map.1 hz
    have hs := h.sub y hy
    have hn := own_nil w B 3 1
    refine ⟨⟨hs.1, hn, hn, hn, hn, hn, hn, ?_, ?_, ?_, ?_, ?_, ?_⟩, ?_, ⟨?_, Nat.zero_le _, Nat.zero_le _, Nat.zero_le _, Nat.zero_le _, Nat.zero_le _, Nat.zero_le _⟩⟩
    all_goals first | (intro k hk; cases hk; done) | skip
    · refine ⟨?_, ?_, ?_, ?_, ?_, ?_, ?_, ?_, ?_, ?_⟩
      all_goals (intro k hk; cases hk)
    · have h1 := hf y hy
      have h2 : y.1.L.length = y.2.n := hs.2
      show y.2.n ≤ 1000000
      omega
  · rw [List.pairwise_map]
    exact h.nod.imp fun hxy k h1 h2 => hxy k (hhas _ k h1) (hhas _ k h2)

end Go.Proofs.YteepobghdpnabaaGreat
