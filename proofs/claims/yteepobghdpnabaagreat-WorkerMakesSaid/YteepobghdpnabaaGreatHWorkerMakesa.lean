/-
 A whole struct out of a block and into it, at once, however many its cells. Of no program.
-/
import Derived.WalkKit
import Derived.Below
import Derived.Deep.Draws
import Derived.Deep.AppendLies
import Derived.Lib.AppendStr
import Derived.Lib.ConvBytes
import Derived.Lib.Hide
import Derived.Test.YteepobghdpnabaaGreatRows
import Derived.WalkSpells
import Derived.WalkLawsBesides
import Derived.Deep.QuietTactic
import Derived.BigQuiet
import Derived.LoopTactic
import Derived.Outline
import Derived.Laws.StructEq
import Derived.Deep.RegionHeld3
import Derived.OneCell
import Derived.IntWalk
import Derived.ProofKit
import Derived.OpenShut
import Derived.SliceStrings
import Derived.ChangeSlices
import Derived.Deep.Slices
import Derived.Deep.Fields
import Derived.ChangeOld
import Derived.Carry
import Derived.SizedLaws
import Derived.Deep.MidRow
import Derived.ScopeJumps
import Derived.Deep.DeepCutAuto
import Derived.Deep.CutRange
import Derived.Deep.RegionLaw
import Derived.BigRegion
import Derived.Laws.Rows
import Derived.Laws.CopyRow
import Derived.Lib.AppendZerosOnto
import Derived.Lib.Overlaps
import Derived.StillTailTactics
import Derived.Laws.Externs
import Derived.Deep.CutBlock
import Derived.Maps.OwnSet
import Derived.Great.BuildSlice
import Derived.Lib.MinMax
import Derived.Test.YteepobghdpnabaaGreatKWorkerTicksa
import Derived.Test.YteepobghdpnabaaGreatKWorkerTicksb
import Derived.Test.YteepobghdpnabaaGreatKWorkerTicksc
import Derived.Test.YteepobghdpnabaaGreatKWorkerTicksd
import Derived.Test.YteepobghdpnabaaGreatKWorkerTickse
import Derived.Test.YteepobghdpnabaaGreatKWorkerTicksf
import Derived.Test.YteepobghdpnabaaGreatKWorkerTicksg
import Derived.Test.YteepobghdpnabaaGreatKWorkerTicksh
import Derived.Test.YteepobghdpnabaaGreatKWorkerTicksi
import Derived.Test.YteepobghdpnabaaGreatKWorkerTicksj
import Derived.Test.YteepobghdpnabaaGreatKWorkerTicksk
import Derived.Test.YteepobghdpnabaaGreatKWorkerTicksl
import Derived.Test.YteepobghdpnabaaGreatKWorkerTicksm
import Derived.Test.YteepobghdpnabaaGreatKWorkerTicksn
import Derived.Test.YteepobghdpnabaaGreatKWorkerTickso
import Derived.Test.YteepobghdpnabaaGreatKWorkerTicksp
import Derived.Test.YteepobghdpnabaaGreatKWorkerTicksq
import Derived.Test.YteepobghdpnabaaGreatKWorkerTicksr
import Derived.Test.YteepobghdpnabaaGreatKWorkerTickss
import Derived.Test.YteepobghdpnabaaGreatKWorkerTickst
import Derived.Test.YteepobghdpnabaaGreatKWorkerTicksu
import Derived.Test.YteepobghdpnabaaGreatKWorkerTicksv
import Derived.Test.YteepobghdpnabaaGreatKWorkerTicksw
import Derived.Test.YteepobghdpnabaaGreatKWorkerTicksx
import Derived.Test.YteepobghdpnabaaGreatKWorkerTicksy
import Derived.Test.YteepobghdpnabaaGreatKWorkerTicksz
import Derived.Test.YteepobghdpnabaaGreatKWorkerTicksaa
import Derived.Test.YteepobghdpnabaaGreatKWorkerTicksab
import Derived.Test.YteepobghdpnabaaGreatKWorkerTicksac
import Derived.Test.YteepobghdpnabaaGreatKWorkerTicksad
import Derived.Test.YteepobghdpnabaaGreatKWorkerTicksae
import Derived.Test.YteepobghdpnabaaGreatKWorkerTicksaf
import Derived.Test.YteepobghdpnabaaGreatKWorkerTicksag
import Derived.Test.YteepobghdpnabaaGreatKWorkerTicksah
import Derived.Test.YteepobghdpnabaaGreatKWorkerTicksai
import Derived.Test.YteepobghdpnabaaGreatKWorkerTicksaj
import Derived.Test.YteepobghdpnabaaGreatKWorkerTicksak
import Derived.Test.YteepobghdpnabaaGreatKWorkerTicksal
import Derived.Test.YteepobghdpnabaaGreatKWorkerTicksam
import Derived.Test.YteepobghdpnabaaGreatKWorkerTicksan
import Derived.Test.YteepobghdpnabaaGreatKWorkerTicksao
import Derived.Test.YteepobghdpnabaaGreatKWorkerTicksap
import Derived.Test.YteepobghdpnabaaGreatKWorkerTicksaq
import Derived.Test.YteepobghdpnabaaGreatKWorkerTicksar
namespace Go.Proofs.YteepobghdpnabaaGreat
open Go.RowKit

section
variable {P : Program} {w : World}
theorem wp_load_box {op : Oper} {a : Act} {K : Act → World → Prop} {Q : Exit → Act → World → Prop} (ty : TypeId) (x : Operand) (ho : op.op = .load ty x)
  (g : Nat) (hx : a.eval x = .pointer (some ⟨g, 0, none⟩)) (cs : List Value) (hb : Box w g cs) (d : TypeDesc) (hu : P.underlying ty = some d) (hd : d.isRow = true) (hi : (P.info? ty).map (·.size) = some cs.length)
  (h : K (a.put op.dst (.agg cs.toArray)) w) : op.wp P a w K Q :=
 wp_load_mid ty x ho g 0 hx cs d (fun j v hv => by rw [Nat.zero_add]; exact (hb.2 j v hv).1) hu hd hi h
theorem wpList_load_boxG {ops : Array Oper} {rest : List Oper} {op : Oper} {a : Act} {Q : Exit → Act → World → Prop} (ty : TypeId) (x : Operand) (ho : op.op = .load ty x)
  (g : Nat) (hx : a.eval x = .pointer (some ⟨g, 0, none⟩)) (hw : Region.wanted op (yielded ops a.tmps) = true) (cs : List Value) (hb : Box w g cs) (d : TypeDesc) (hu : P.underlying ty = some d) (hd : d.isRow = true) (hi : (P.info? ty).map (·.size) = some cs.length)
  (h : wpList P ops Q rest (a.put op.dst (.agg cs.toArray)) w) : wpList P ops Q (op :: rest) a w := by
 rw [wpList, if_pos hw]
 exact .inl (wp_load_box ty x ho g hx cs hb d hu hd hi h)
end

end Go.Proofs.YteepobghdpnabaaGreat
namespace Go.Proofs.YteepobghdpnabaaGreat
open Go

theorem yready_9 {P : Program} {md : Region.Mode} {Q : Exit → Act → World → Prop} {S : World → Prop} {o0 o1 o2 o3 o4 o5 o6 o7 o8 o9 : Oper} {rest : List Oper} {fuel : Nat} {listed : Array Bool} {a : Act} {w : World}
  (hr : Region.ready md (o0 :: o1 :: o2 :: o3 :: o4 :: o5 :: o6 :: o7 :: o8 :: o9 :: rest).toArray listed = [9])
  (h : ∀ K' : Act → World → Prop, Shut (∀ a w, S w → (S w → wpAnyH P md (o0 :: o1 :: o2 :: o3 :: o4 :: o5 :: o6 :: o7 :: o8 :: o9 :: rest).toArray Q S fuel (listed.setIfInBounds 9 true) a w) → K' a w) → if Region.wanted o9 (yielded (o0 :: o1 :: o2 :: o3 :: o4 :: o5 :: o6 :: o7 :: o8 :: o9 :: rest).toArray a.tmps) = true then Oper.wp P o9 a w K' Q else K' (a.put o9.dst undef) w) :
  wpAnyH P md (o0 :: o1 :: o2 :: o3 :: o4 :: o5 :: o6 :: o7 :: o8 :: o9 :: rest).toArray Q S (fuel + 1) listed a w :=
 wpAnyH_ready hr (by simp) (AllReadyH.cons (i := 9) (o := o9) rfl h AllReadyH.nil)
theorem yready_11 {P : Program} {md : Region.Mode} {Q : Exit → Act → World → Prop} {S : World → Prop} {o0 o1 o2 o3 o4 o5 o6 o7 o8 o9 o10 o11 : Oper} {rest : List Oper} {fuel : Nat} {listed : Array Bool} {a : Act} {w : World}
  (hr : Region.ready md (o0 :: o1 :: o2 :: o3 :: o4 :: o5 :: o6 :: o7 :: o8 :: o9 :: o10 :: o11 :: rest).toArray listed = [11])
  (h : ∀ K' : Act → World → Prop, Shut (∀ a w, S w → (S w → wpAnyH P md (o0 :: o1 :: o2 :: o3 :: o4 :: o5 :: o6 :: o7 :: o8 :: o9 :: o10 :: o11 :: rest).toArray Q S fuel (listed.setIfInBounds 11 true) a w) → K' a w) → if Region.wanted o11 (yielded (o0 :: o1 :: o2 :: o3 :: o4 :: o5 :: o6 :: o7 :: o8 :: o9 :: o10 :: o11 :: rest).toArray a.tmps) = true then Oper.wp P o11 a w K' Q else K' (a.put o11.dst undef) w) :
  wpAnyH P md (o0 :: o1 :: o2 :: o3 :: o4 :: o5 :: o6 :: o7 :: o8 :: o9 :: o10 :: o11 :: rest).toArray Q S (fuel + 1) listed a w :=
 wpAnyH_ready hr (by simp) (AllReadyH.cons (i := 11) (o := o11) rfl h AllReadyH.nil)
end Go.Proofs.YteepobghdpnabaaGreat
namespace Go.Proofs.YteepobghdpnabaaGreat
open Go.RowKit

theorem makeL_lenL (P : WkD) : (makeL P).length ≤ 8 := by unfold makeL; rw [List.length_take]; omega
/-! ### what is handed out -/
/-! ### a step stands while only one block of another sort turns -/
end Go.Proofs.YteepobghdpnabaaGreat
namespace Go.Proofs.YteepobghdpnabaaGreat
open Go.RowKit

theorem txs_take : ∀ (L : List TxD) (k : Nat), (txs L).take (k * 4) = txs (L.take k)
 | [], k => by simp [txs]
 | t :: r, 0 => by simp [txs]
 | t :: r, k + 1 => by
  have e : txs (t :: r) = t.cells ++ txs r := rfl
  have e2 : txs ((t :: r).take (k + 1)) = t.cells ++ txs (r.take k) := rfl
  rw [e, e2, List.take_append, List.take_of_length_le (by show 4 ≤ (k + 1) * 4; omega), show (k + 1) * 4 - t.cells.length = k * 4 by show (k + 1) * 4 - 4 = k * 4; omega, txs_take r k]

theorem wp_store_boxZ {op : Oper} {a : Act} {w : World} {K : Act → World → Prop} {Q : Exit → Act → World → Prop} (ty : TypeId) (x y : Operand) (ho : op.op = .store ty x y)
  (g j : Nat) (cs vs us : List Value) (hx : a.eval x = .pointer (some ⟨g, j, none⟩)) (hy : a.eval y = .agg cs.toArray) (hb : Box w g vs) (hl : j + cs.length ≤ vs.length) (hus : us = vs.take j ++ cs ++ vs.drop (j + cs.length))
  (hi : (Tryz.prog.info? ty).map (·.size) = some cs.length) (h1 : cs.all (·.oneCell') = true)
  (h : ∀ w', Box w' g us → (∀ F : Nat → Prop, F g → Touch F w w') → K (a.put op.dst undef) w') : op.wp Tryz.prog a w K Q :=
 wp_store_mid ty x y ho g j cs.toArray hx hy (by rw [List.size_toArray]; exact there_box hb hl) (by rw [List.size_toArray]; exact hi) (all_oneCell_toArray fun v hv => List.all_eq_true.1 h1 v hv)
  (h _ (by rw [hus]; exact box_setCells cs j vs w hb hl) (fun F hF => touch_setCells hF cs j w w (Touch.refl F w)))
set_option maxRecDepth 100000 in
set_option maxHeartbeats 16000000 in
theorem rmake_any (P : WkD) (a : WkA) (w : World) (h : WIn w P a) (hf : WFew P 1000000) : Calls Tryz.prog 46 #[wkV P a] w (RetB P.i P.x (makeL P) (makeE P) w) := by
 obtain ⟨g, hg⟩ : ∃ g, g = w.heap.size := ⟨_, rfl⟩
 obtain ⟨wa0, hwa0⟩ : ∃ wa0, wa0 = w.alloc (.cells #[.int .i64 P.i, .int .i64 P.N, .int .i64 P.x, .slice a.O.A a.O.n a.O.c, .int .i64 P.g, .int .i64 P.c, .slice a.W.A a.W.n a.W.c, .slice a.H.A a.H.n a.H.c, .slice a.R.A a.R.n a.R.c] 27) := ⟨_, rfl⟩
 have hs0 : wa0.heap.size = g + 1 := by rw [hwa0]; simp; omega
 have bn0 : Box wa0 (g) (wkC P a) := by rw [hwa0, hg]; exact box_new w (wkC P a) 27
 have hb0 : Below g w wa0 := by rw [hwa0]; exact (Below.refl _ _).alloc (by omega) _
 obtain ⟨wa1, hwa1⟩ : ∃ wa1, wa1 = wa0.alloc (.cells #[.int .i64 0, .int .i64 0, .slice none 0 0] 42) := ⟨_, rfl⟩
 have hs1 : wa1.heap.size = g + 2 := by rw [hwa1]; simp; omega
 have bn1 : Box wa1 (g + 1) (zeroBC) := by rw [hwa1, ← hs0]; exact box_new wa0 (zeroBC) 42
 have hb1 : Below g w wa1 := by rw [hwa1]; exact hb0.alloc (by omega) _
 have HX0 : Hid (Box wa1 (g) (wkC P a)) := (bn0.below (show Below wa0.heap.size wa0 wa1 by rw [hwa1]; exact (Below.refl _ _).alloc (Nat.le_refl _) _) (by omega))
 have HX1 : Hid (Box wa1 (g + 1) (zeroBC)) := bn1
 obtain ⟨w0, hw0⟩ : ∃ w0, w0 = wa1 := ⟨_, rfl⟩
 rw [← hw0] at HX0
 rw [← hw0] at HX1
 have hsz0 : w0.heap.size = g + 2 := by rw [hw0]; exact hs1
 have hb0w : Below g w w0 := by rw [hw0]; exact hb1
 have HW0 : Hid ((w.alloc (.cells #[.int .i64 P.i, .int .i64 P.N, .int .i64 P.x, .slice a.O.A a.O.n a.O.c, .int .i64 P.g, .int .i64 P.c, .slice a.W.A a.W.n a.W.c, .slice a.H.A a.H.n a.H.c, .slice a.R.A a.R.n a.R.c] 27)).alloc (.cells #[.int .i64 0, .int .i64 0, .slice none 0 0] 42) = w0) := by show (w.alloc (.cells #[.int .i64 P.i, .int .i64 P.N, .int .i64 P.x, .slice a.O.A a.O.n a.O.c, .int .i64 P.g, .int .i64 P.c, .slice a.W.A a.W.n a.W.c, .slice a.H.A a.H.n a.H.c, .slice a.R.A a.R.n a.R.c] 27)).alloc (.cells #[.int .i64 0, .int .i64 0, .slice none 0 0] 42) = w0; rw [hw0, hwa1, hwa0]
 have HG : Hid (w.heap.size = g) := hg.symm
 have HS0 := Lib.hid hsz0
 have HB0 := Lib.hid hb0w
 have hl0 : g < w0.heap.size := by omega
 have hl1 : g + 1 < w0.heap.size := by omega
 have hgw : g ≤ w0.heap.size := by omega
 obtain ⟨E, hE⟩ : ∃ E, E = makeE P := ⟨_, rfl⟩
 rw [← hE]
 have hlen : P.O.length = a.O.n := h.open_.len
 have hcapO := h.open_.cap
 have hlenH : P.H.length = a.H.n := by rw [← h.eH, List.length_map]; exact h.held.row.len
 have hin0 := h.below' HB0.out HG.out
 have HIN : Hid (∀ wX, Below w0.heap.size w0 wX → WIn wX P a) := by show ∀ wX, _; exact fun wX hX => hin0.below hX
 have hO6 := hf.o
 obtain ⟨k0, k1, k2, k3, k4, k5, k6, k7, k8⟩ := wk_cells HX0.out
 clear h hf hin0
 clear hg hsz0 hb0w hw0 hwa0 hs0 bn0 hb0 hwa1 hs1 bn1 hb1
 unfold wkV Ad.v
 by_cases h0 : (a.O.n : Int) < 8
 ·by_cases h1 : (0 : Int) < (a.O.n : Int)
  ·by_cases h2 : (4 : Int) ≤ P.g
   ·by_cases h3 : (1099511627776 : Int) ≤ P.x
    ·have q1 : decide ((a.O.n : Int) < 8) = true := decide_eq_true (by omega)
     have l1 : (a.O.n : Int) < 8 := by omega
     have q2 : decide ((0 : Int) < (a.O.n : Int)) = true := decide_eq_true (by omega)
     have l2 : (0 : Int) < (a.O.n : Int) := by omega
     have q3 : decide ((4 : Int) ≤ P.g) = true := decide_eq_true (by omega)
     have l3 : (4 : Int) ≤ P.g := by omega
     have q4 : decide ((1099511627776 : Int) ≤ P.x) = true := decide_eq_true (by omega)
     have l4 : (1099511627776 : Int) ≤ P.x := by omega
     have HE : Hid (E = 10) := by show E = 10; rw [hE, makeE, if_neg (by rw [dueW, decide_eq_true_eq]; rintro ⟨h1, h2⟩; omega)]
     clear hE hlenH hlen
     go_enter Tryz.func46, Tryz.ntmps46
     go_upto_region 1 with fail
     rw [HG.out, HW0.out]
     go_wp2_with (first
      | (refine wpList_store_box rfl 42 _ _ rfl (g + 1) 0 zeroBC zeroBC zeroBC rfl rfl HX1.out (show 0 + 3 ≤ 3 by decide) rfl size_batch rfl ?_; intro w9 bx9 T9))
     obtain ⟨r0, r1, r2⟩ := bat_cells bx9
     have t9 := T9 (fun k => k = g + 1) rfl
     refine bodyPost_ret (v := .tuple #[.agg #[.int .i64 0, .int .i64 0, noAd.v], .int .i64 10]) (by simp [results, Tryz.results46, go_sem, r0, r1, r2, Ad.v, noAd]) rfl ⟨noAd, by rw [HE.out]; rfl, by rw [HE.out]; exact World.ownsRow_nil _ _ _ _, by rw [HE.out]; rfl, ?_⟩
     rw [HG.out]
     exact HB0.out.trans (t9.below (fun k hk => by omega) (by omega))
    ·by_cases h4 : 1024 ≤ a.H.n
     ·have q1 : decide ((a.O.n : Int) < 8) = true := decide_eq_true (by omega)
      have l1 : (a.O.n : Int) < 8 := by omega
      have q2 : decide ((0 : Int) < (a.O.n : Int)) = true := decide_eq_true (by omega)
      have l2 : (0 : Int) < (a.O.n : Int) := by omega
      have q3 : decide ((4 : Int) ≤ P.g) = true := decide_eq_true (by omega)
      have l3 : (4 : Int) ≤ P.g := by omega
      have q4 : decide ((1099511627776 : Int) ≤ P.x) = false := decide_eq_false (by omega)
      have l4 : ¬ ((1099511627776 : Int) ≤ P.x) := by omega
      have HE : Hid (E = 8) := by show E = 8; rw [hE, makeE, if_pos (by rw [dueW, decide_eq_true_eq]; omega), if_pos (by omega)]
      have l9 : (1024 : Int) ≤ (a.H.n : Int) := by omega
      have q9 : decide ((1024 : Int) ≤ (a.H.n : Int)) = true := decide_eq_true l9
      clear hE hlenH hlen
      go_enter Tryz.func46, Tryz.ntmps46
      go_upto_region 1 with fail
      rw [HG.out, HW0.out]
      go_wp2_with (first
       | (refine wpList_store_box rfl 42 _ _ rfl (g + 1) 0 zeroBC zeroBC zeroBC rfl rfl HX1.out (show 0 + 3 ≤ 3 by decide) rfl size_batch rfl ?_; intro w9 bx9 T9))
      obtain ⟨r0, r1, r2⟩ := bat_cells bx9
      have t9 := T9 (fun k => k = g + 1) rfl
      refine bodyPost_ret (v := .tuple #[.agg #[.int .i64 0, .int .i64 0, noAd.v], .int .i64 8]) (by simp [results, Tryz.results46, go_sem, r0, r1, r2, Ad.v, noAd]) rfl ⟨noAd, by rw [HE.out]; rfl, by rw [HE.out]; exact World.ownsRow_nil _ _ _ _, by rw [HE.out]; rfl, ?_⟩
      rw [HG.out]
      exact HB0.out.trans (t9.below (fun k hk => by omega) (by omega))
     ·have q1 : decide ((a.O.n : Int) < 8) = true := decide_eq_true (by omega)
      have l1 : (a.O.n : Int) < 8 := by omega
      have q2 : decide ((0 : Int) < (a.O.n : Int)) = true := decide_eq_true (by omega)
      have l2 : (0 : Int) < (a.O.n : Int) := by omega
      have q3 : decide ((4 : Int) ≤ P.g) = true := decide_eq_true (by omega)
      have l3 : (4 : Int) ≤ P.g := by omega
      have q4 : decide ((1099511627776 : Int) ≤ P.x) = false := decide_eq_false (by omega)
      have l4 : ¬ ((1099511627776 : Int) ≤ P.x) := by omega
      have HE : Hid (E = 0) := by show E = 0; rw [hE, makeE, if_pos (by rw [dueW, decide_eq_true_eq]; omega), if_neg (by omega)]
      have l9 : ¬ ((1024 : Int) ≤ (a.H.n : Int)) := by omega
      have q9 : decide ((1024 : Int) ≤ (a.H.n : Int)) = false := decide_eq_false l9
      obtain ⟨m, hm⟩ : ∃ m : Nat, m = min a.O.n 8 := ⟨_, rfl⟩
      have hmi : min (a.O.n : Int) 8 = (m : Int) := by omega
      have hmn : m ≤ a.O.n := by omega
      have hmc : m ≤ a.O.c := by omega
      have hi1 : (0 : Int) ≤ (m : Int) := by omega
      have hi2 : (m : Int) ≤ (a.O.n : Int) := by omega
      have hi3 : (m : Int) ≤ (a.O.c : Int) := by omega
      have HTL : Hid ((P.O.take 8).length = m) := by show _ = m; rw [List.length_take]; omega
      have HTR : Hid (∀ wX, Below w0.heap.size w0 wX → Rd wX a.O.A (txs (P.O.take 8))) := by
       show ∀ wX, _
       intro wX hX
       have h1 := rd_takeZ (HIN.out wX hX).open_.rd (8 * 4)
       have e : (txs P.O).take (8 * 4) = txs (P.O.take 8) := txs_take P.O 8
       rw [e] at h1
       exact h1
      have hm6 : m ≤ 1000000 := by omega
      clear hE hlenH hlen hm
      go_enter Tryz.func46, Tryz.ntmps46
      go_upto_region 1 with fail
      rw [HG.out, HW0.out]
      go_upto_region 6 with fail
      have hSS : Box w0.drew g (wkC P a) := HX0.out
      refine wp_region_held_drew (S := fun w' => Box w' g (wkC P a)) (by kernel_rfl) hSS (fun _ => ?_)
      refine ytake_0 (v := ?vv1) (by kernel_rfl) (by kernel_rfl) (by kernel_rfl) (fun _ _ _ h => h) (Or.inl ⟨by rfl, ?hy1⟩) hSS ?_
      case hy1 =>
       intro wX hSw
       go_simp
       try with_reducible rfl
      try simp only [Act.put, List.setIfInBounds_toArray, List.set_cons_zero, List.set_cons_succ]
      refine ytake_1 (v := ?vv2) (by kernel_rfl) (by kernel_rfl) (by kernel_rfl) (fun _ _ _ h => h) (Or.inl ⟨by rfl, ?hy2⟩) hSS ?_
      case hy2 =>
       intro wX hSw
       have c0 := (hSw.2 0 _ rfl).1
       go_simp
       try with_reducible rfl
      try simp only [Act.put, List.setIfInBounds_toArray, List.set_cons_zero, List.set_cons_succ]
      refine ytake_2 (v := ?vv3) (by kernel_rfl) (by kernel_rfl) (by kernel_rfl) (fun _ _ _ h => h) (Or.inl ⟨by rfl, ?hy3⟩) hSS ?_
      case hy3 =>
       intro wX hSw
       go_simp
       try with_reducible rfl
      try simp only [Act.put, List.setIfInBounds_toArray, List.set_cons_zero, List.set_cons_succ]
      refine ytake_3 (v := ?vv4) (by kernel_rfl) (by kernel_rfl) (by kernel_rfl) (fun _ _ _ h => h) (Or.inl ⟨by rfl, ?hy4⟩) hSS ?_
      case hy4 =>
       intro wX hSw
       have c2 := (hSw.2 2 _ rfl).1
       go_simp
       try with_reducible rfl
      try simp only [Act.put, List.setIfInBounds_toArray, List.set_cons_zero, List.set_cons_succ]
      refine ytake_4 (v := ?vv5) (by kernel_rfl) (by kernel_rfl) (by kernel_rfl) (fun _ _ _ h => h) (Or.inl ⟨by rfl, ?hy5⟩) hSS ?_
      case hy5 =>
       intro wX hSw
       go_simp
       try with_reducible rfl
      try simp only [Act.put, List.setIfInBounds_toArray, List.set_cons_zero, List.set_cons_succ]
      refine ytake_5 (v := ?vv6) (by kernel_rfl) (by kernel_rfl) (by kernel_rfl) (fun _ _ _ h => h) (Or.inl ⟨by rfl, ?hy6⟩) hSS ?_
      case hy6 =>
       intro wX hSw
       have c3 : wX.cell? ⟨g, 3, none⟩ = some (.slice a.O.A a.O.n a.O.c) := (hSw.2 3 _ rfl).1
       go_simp
       try with_reducible rfl
      try simp only [Act.put, List.setIfInBounds_toArray, List.set_cons_zero, List.set_cons_succ]
      refine ytake_6 (v := ?vv7) (by kernel_rfl) (by kernel_rfl) (by kernel_rfl) (fun _ _ _ h => h) (Or.inl ⟨by rfl, ?hy7⟩) hSS ?_
      case hy7 =>
       intro wX hSw
       go_simp
       try with_reducible rfl
      try simp only [Act.put, List.setIfInBounds_toArray, List.set_cons_zero, List.set_cons_succ]
      refine ytake_7 (v := ?vv8) (by kernel_rfl) (by kernel_rfl) (by kernel_rfl) (fun _ _ _ h => h) (Or.inl ⟨by rfl, ?hy8⟩) hSS ?_
      case hy8 =>
       intro wX hSw
       go_simp
       try with_reducible rfl
      try simp only [Act.put, List.setIfInBounds_toArray, List.set_cons_zero, List.set_cons_succ]
      refine ytake_8 (v := ?vv9) (by kernel_rfl) (by kernel_rfl) (by kernel_rfl) (fun _ _ _ h => h) (Or.inl ⟨by rfl, ?hy9⟩) hSS ?_
      case hy9 =>
       intro wX hSw
       go_simp
       try with_reducible rfl
      try simp only [Act.put, List.setIfInBounds_toArray, List.set_cons_zero, List.set_cons_succ]
      refine yready_9 (by kernel_rfl) ?_
      intro KQ hK
      rw [if_pos (by rfl)]
      try go_simp
      refine (copyTxs_any a.O.A a.O.c m (P.O.take 8) _ HTL.out (HTR.out _ ((Below.refl _ _).drew)) (by omega) (by omega)).mono ?_
      rintro e w5 ⟨v, rfl, hoO, hbv⟩
      obtain ⟨AO, cO, rfl, _, _, _, _, _⟩ := ownS_slice hoO
      have hb5 : Below w0.heap.size w0 w5 := ((Below.refl _ _).drew).trans hbv
      have hS5 : Box w5 g (wkC P a) := HX0.out.below hb5 hl0
      have HR5 : Hid (Box w5 (g + 1) zeroBC) := HX1.out.below hb5 hl1
      have HO5 : Hid (w5.ownsRow w0.heap.size 40 4 (.slice AO m cO) m (txs (P.O.take 8))) := hoO
      have HB5 := Lib.hid hb5
      clear hoO hbv hb5
      refine hK.out _ _ hS5 (fun _ => ?_)
      clear hK KQ
      try simp only [Act.put, List.setIfInBounds_toArray, List.set_cons_zero, List.set_cons_succ]
      refine ytake_10 (v := ?vv10) (by kernel_rfl) (by kernel_rfl) (by kernel_rfl) (fun _ _ _ h => h) (Or.inl ⟨by rfl, ?hy10⟩) hS5 ?_
      case hy10 =>
       intro wX hSw
       go_simp
       try with_reducible rfl
      try simp only [Act.put, List.setIfInBounds_toArray, List.set_cons_zero, List.set_cons_succ]
      refine yready_11 (by kernel_rfl) ?_
      intro KQ hK
      rw [if_pos (by rfl)]
      refine wp_store_boxZ 42 _ _ rfl (g + 1) 0 [.int .i64 P.i, .int .i64 P.x, .slice AO m cO] zeroBC [.int .i64 P.i, .int .i64 P.x, .slice AO m cO] rfl rfl HR5.out (show 0 + 3 ≤ 3 by decide) rfl size_batch rfl ?_
      intro w6 bx6 T6
      have t6 := T6 (fun k => k = g + 1) rfl
      have hS6 : Box w6 g (wkC P a) := hS5.touch t6 (by omega)
      refine hK.out _ _ hS6 (fun _ => ?_)
      clear hK KQ
      try simp only [Act.put]
      refine ytake_12 (v := ?vv11) (by kernel_rfl) (by kernel_rfl) (by kernel_rfl) (fun _ _ _ h => h) (Or.inl ⟨by rfl, ?hy11⟩) hS6 ?_
      case hy11 =>
       intro wX hSw
       go_simp
       try with_reducible rfl
      try simp only [Act.put, List.setIfInBounds_toArray, List.set_cons_zero, List.set_cons_succ]
      refine wpAnyH_done (by kernel_rfl) ?_ _
      have r0 := (bx6.2 0 _ rfl).1
      have r1 := (bx6.2 1 _ rfl).1
      have r2 := (bx6.2 2 _ rfl).1
      have hs6 := t6.size
      have hs5 := HB5.out.size
      go_wp2_with fail
      refine bodyPost_ret (v := .tuple #[.agg #[.int .i64 P.i, .int .i64 P.x, .slice AO m cO], .int .i64 0]) (by simp [results, Tryz.results46, go_sem, r0, r1, r2]) rfl ⟨⟨AO, m, cO⟩, by rw [HE.out]; rfl, ?_, by rw [HE.out]; exact HTL.out, ?_⟩
      ·rw [HE.out, HG.out]
       exact ownS_more (own_kept HO5.out fun k hk hl => t6.block k hl (by have := (own_lt HO5.out hk).2; omega)) (by omega)
      ·rw [HG.out]
       exact (HB0.out.trans (HB5.out.mono hgw)).trans (t6.below (fun k hk => by omega) (by omega))
   ·have q1 : decide ((a.O.n : Int) < 8) = true := decide_eq_true (by omega)
    have l1 : (a.O.n : Int) < 8 := by omega
    have q2 : decide ((0 : Int) < (a.O.n : Int)) = true := decide_eq_true (by omega)
    have l2 : (0 : Int) < (a.O.n : Int) := by omega
    have q3 : decide ((4 : Int) ≤ P.g) = false := decide_eq_false (by omega)
    have l3 : ¬ ((4 : Int) ≤ P.g) := by omega
    have HE : Hid (E = 10) := by show E = 10; rw [hE, makeE, if_neg (by rw [dueW, decide_eq_true_eq]; rintro ⟨h1, h2⟩; omega)]
    clear hE hlenH hlen
    go_enter Tryz.func46, Tryz.ntmps46
    go_upto_region 1 with fail
    rw [HG.out, HW0.out]
    go_wp2_with (first
     | (refine wpList_store_box rfl 42 _ _ rfl (g + 1) 0 zeroBC zeroBC zeroBC rfl rfl HX1.out (show 0 + 3 ≤ 3 by decide) rfl size_batch rfl ?_; intro w9 bx9 T9))
    obtain ⟨r0, r1, r2⟩ := bat_cells bx9
    have t9 := T9 (fun k => k = g + 1) rfl
    refine bodyPost_ret (v := .tuple #[.agg #[.int .i64 0, .int .i64 0, noAd.v], .int .i64 10]) (by simp [results, Tryz.results46, go_sem, r0, r1, r2, Ad.v, noAd]) rfl ⟨noAd, by rw [HE.out]; rfl, by rw [HE.out]; exact World.ownsRow_nil _ _ _ _, by rw [HE.out]; rfl, ?_⟩
    rw [HG.out]
    exact HB0.out.trans (t9.below (fun k hk => by omega) (by omega))
  ·have q1 : decide ((a.O.n : Int) < 8) = true := decide_eq_true (by omega)
   have l1 : (a.O.n : Int) < 8 := by omega
   have q2 : decide ((0 : Int) < (a.O.n : Int)) = false := decide_eq_false (by omega)
   have l2 : ¬ ((0 : Int) < (a.O.n : Int)) := by omega
   have HE : Hid (E = 10) := by show E = 10; rw [hE, makeE, if_neg (by rw [dueW, decide_eq_true_eq]; rintro ⟨h1, h2⟩; omega)]
   clear hE hlenH hlen
   go_enter Tryz.func46, Tryz.ntmps46
   go_upto_region 1 with fail
   rw [HG.out, HW0.out]
   go_wp2_with (first
    | (refine wpList_store_box rfl 42 _ _ rfl (g + 1) 0 zeroBC zeroBC zeroBC rfl rfl HX1.out (show 0 + 3 ≤ 3 by decide) rfl size_batch rfl ?_; intro w9 bx9 T9))
   obtain ⟨r0, r1, r2⟩ := bat_cells bx9
   have t9 := T9 (fun k => k = g + 1) rfl
   refine bodyPost_ret (v := .tuple #[.agg #[.int .i64 0, .int .i64 0, noAd.v], .int .i64 10]) (by simp [results, Tryz.results46, go_sem, r0, r1, r2, Ad.v, noAd]) rfl ⟨noAd, by rw [HE.out]; rfl, by rw [HE.out]; exact World.ownsRow_nil _ _ _ _, by rw [HE.out]; rfl, ?_⟩
   rw [HG.out]
   exact HB0.out.trans (t9.below (fun k hk => by omega) (by omega))
 ·by_cases h3 : (1099511627776 : Int) ≤ P.x
  ·have q1 : decide ((a.O.n : Int) < 8) = false := decide_eq_false (by omega)
   have l1 : ¬ ((a.O.n : Int) < 8) := by omega
   have q4 : decide ((1099511627776 : Int) ≤ P.x) = true := decide_eq_true (by omega)
   have l4 : (1099511627776 : Int) ≤ P.x := by omega
   have HE : Hid (E = 10) := by show E = 10; rw [hE, makeE, if_neg (by rw [dueW, decide_eq_true_eq]; rintro ⟨h1, h2⟩; omega)]
   clear hE hlenH hlen
   go_enter Tryz.func46, Tryz.ntmps46
   go_upto_region 1 with fail
   rw [HG.out, HW0.out]
   go_wp2_with (first
    | (refine wpList_store_box rfl 42 _ _ rfl (g + 1) 0 zeroBC zeroBC zeroBC rfl rfl HX1.out (show 0 + 3 ≤ 3 by decide) rfl size_batch rfl ?_; intro w9 bx9 T9))
   obtain ⟨r0, r1, r2⟩ := bat_cells bx9
   have t9 := T9 (fun k => k = g + 1) rfl
   refine bodyPost_ret (v := .tuple #[.agg #[.int .i64 0, .int .i64 0, noAd.v], .int .i64 10]) (by simp [results, Tryz.results46, go_sem, r0, r1, r2, Ad.v, noAd]) rfl ⟨noAd, by rw [HE.out]; rfl, by rw [HE.out]; exact World.ownsRow_nil _ _ _ _, by rw [HE.out]; rfl, ?_⟩
   rw [HG.out]
   exact HB0.out.trans (t9.below (fun k hk => by omega) (by omega))
  ·by_cases h4 : 1024 ≤ a.H.n
   ·have q1 : decide ((a.O.n : Int) < 8) = false := decide_eq_false (by omega)
    have l1 : ¬ ((a.O.n : Int) < 8) := by omega
    have q4 : decide ((1099511627776 : Int) ≤ P.x) = false := decide_eq_false (by omega)
    have l4 : ¬ ((1099511627776 : Int) ≤ P.x) := by omega
    have HE : Hid (E = 8) := by show E = 8; rw [hE, makeE, if_pos (by rw [dueW, decide_eq_true_eq]; omega), if_pos (by omega)]
    have l9 : (1024 : Int) ≤ (a.H.n : Int) := by omega
    have q9 : decide ((1024 : Int) ≤ (a.H.n : Int)) = true := decide_eq_true l9
    clear hE hlenH hlen
    go_enter Tryz.func46, Tryz.ntmps46
    go_upto_region 1 with fail
    rw [HG.out, HW0.out]
    go_wp2_with (first
     | (refine wpList_store_box rfl 42 _ _ rfl (g + 1) 0 zeroBC zeroBC zeroBC rfl rfl HX1.out (show 0 + 3 ≤ 3 by decide) rfl size_batch rfl ?_; intro w9 bx9 T9))
    obtain ⟨r0, r1, r2⟩ := bat_cells bx9
    have t9 := T9 (fun k => k = g + 1) rfl
    refine bodyPost_ret (v := .tuple #[.agg #[.int .i64 0, .int .i64 0, noAd.v], .int .i64 8]) (by simp [results, Tryz.results46, go_sem, r0, r1, r2, Ad.v, noAd]) rfl ⟨noAd, by rw [HE.out]; rfl, by rw [HE.out]; exact World.ownsRow_nil _ _ _ _, by rw [HE.out]; rfl, ?_⟩
    rw [HG.out]
    exact HB0.out.trans (t9.below (fun k hk => by omega) (by omega))
   ·have q1 : decide ((a.O.n : Int) < 8) = false := decide_eq_false (by omega)
    have l1 : ¬ ((a.O.n : Int) < 8) := by omega
    have q4 : decide ((1099511627776 : Int) ≤ P.x) = false := decide_eq_false (by omega)
    have l4 : ¬ ((1099511627776 : Int) ≤ P.x) := by omega
    have HE : Hid (E = 0) := by show E = 0; rw [hE, makeE, if_pos (by rw [dueW, decide_eq_true_eq]; omega), if_neg (by omega)]
    have l9 : ¬ ((1024 : Int) ≤ (a.H.n : Int)) := by omega
    have q9 : decide ((1024 : Int) ≤ (a.H.n : Int)) = false := decide_eq_false l9
    obtain ⟨m, hm⟩ : ∃ m : Nat, m = min a.O.n 8 := ⟨_, rfl⟩
    have hmi : min (a.O.n : Int) 8 = (m : Int) := by omega
    have hmn : m ≤ a.O.n := by omega
    have hmc : m ≤ a.O.c := by omega
    have hi1 : (0 : Int) ≤ (m : Int) := by omega
    have hi2 : (m : Int) ≤ (a.O.n : Int) := by omega
    have hi3 : (m : Int) ≤ (a.O.c : Int) := by omega
    have HTL : Hid ((P.O.take 8).length = m) := by show _ = m; rw [List.length_take]; omega
    have HTR : Hid (∀ wX, Below w0.heap.size w0 wX → Rd wX a.O.A (txs (P.O.take 8))) := by
     show ∀ wX, _
     intro wX hX
     have h1 := rd_takeZ (HIN.out wX hX).open_.rd (8 * 4)
     have e : (txs P.O).take (8 * 4) = txs (P.O.take 8) := txs_take P.O 8
     rw [e] at h1
     exact h1
    have hm6 : m ≤ 1000000 := by omega
    clear hE hlenH hlen hm
    go_enter Tryz.func46, Tryz.ntmps46
    go_upto_region 1 with fail
    rw [HG.out, HW0.out]
    go_upto_region 6 with fail
    have hSS : Box w0.drew g (wkC P a) := HX0.out
    refine wp_region_held_drew (S := fun w' => Box w' g (wkC P a)) (by kernel_rfl) hSS (fun _ => ?_)
    refine ytake_0 (v := ?vv12) (by kernel_rfl) (by kernel_rfl) (by kernel_rfl) (fun _ _ _ h => h) (Or.inl ⟨by rfl, ?hy12⟩) hSS ?_
    case hy12 =>
     intro wX hSw
     go_simp
     try with_reducible rfl
    try simp only [Act.put, List.setIfInBounds_toArray, List.set_cons_zero, List.set_cons_succ]
    refine ytake_1 (v := ?vv13) (by kernel_rfl) (by kernel_rfl) (by kernel_rfl) (fun _ _ _ h => h) (Or.inl ⟨by rfl, ?hy13⟩) hSS ?_
    case hy13 =>
     intro wX hSw
     have c0 := (hSw.2 0 _ rfl).1
     go_simp
     try with_reducible rfl
    try simp only [Act.put, List.setIfInBounds_toArray, List.set_cons_zero, List.set_cons_succ]
    refine ytake_2 (v := ?vv14) (by kernel_rfl) (by kernel_rfl) (by kernel_rfl) (fun _ _ _ h => h) (Or.inl ⟨by rfl, ?hy14⟩) hSS ?_
    case hy14 =>
     intro wX hSw
     go_simp
     try with_reducible rfl
    try simp only [Act.put, List.setIfInBounds_toArray, List.set_cons_zero, List.set_cons_succ]
    refine ytake_3 (v := ?vv15) (by kernel_rfl) (by kernel_rfl) (by kernel_rfl) (fun _ _ _ h => h) (Or.inl ⟨by rfl, ?hy15⟩) hSS ?_
    case hy15 =>
     intro wX hSw
     have c2 := (hSw.2 2 _ rfl).1
     go_simp
     try with_reducible rfl
    try simp only [Act.put, List.setIfInBounds_toArray, List.set_cons_zero, List.set_cons_succ]
    refine ytake_4 (v := ?vv16) (by kernel_rfl) (by kernel_rfl) (by kernel_rfl) (fun _ _ _ h => h) (Or.inl ⟨by rfl, ?hy16⟩) hSS ?_
    case hy16 =>
     intro wX hSw
     go_simp
     try with_reducible rfl
    try simp only [Act.put, List.setIfInBounds_toArray, List.set_cons_zero, List.set_cons_succ]
    refine ytake_5 (v := ?vv17) (by kernel_rfl) (by kernel_rfl) (by kernel_rfl) (fun _ _ _ h => h) (Or.inl ⟨by rfl, ?hy17⟩) hSS ?_
    case hy17 =>
     intro wX hSw
     have c3 : wX.cell? ⟨g, 3, none⟩ = some (.slice a.O.A a.O.n a.O.c) := (hSw.2 3 _ rfl).1
     go_simp
     try with_reducible rfl
    try simp only [Act.put, List.setIfInBounds_toArray, List.set_cons_zero, List.set_cons_succ]
    refine ytake_6 (v := ?vv18) (by kernel_rfl) (by kernel_rfl) (by kernel_rfl) (fun _ _ _ h => h) (Or.inl ⟨by rfl, ?hy18⟩) hSS ?_
    case hy18 =>
     intro wX hSw
     go_simp
     try with_reducible rfl
    try simp only [Act.put, List.setIfInBounds_toArray, List.set_cons_zero, List.set_cons_succ]
    refine ytake_7 (v := ?vv19) (by kernel_rfl) (by kernel_rfl) (by kernel_rfl) (fun _ _ _ h => h) (Or.inl ⟨by rfl, ?hy19⟩) hSS ?_
    case hy19 =>
     intro wX hSw
     go_simp
     try with_reducible rfl
    try simp only [Act.put, List.setIfInBounds_toArray, List.set_cons_zero, List.set_cons_succ]
    refine ytake_8 (v := ?vv20) (by kernel_rfl) (by kernel_rfl) (by kernel_rfl) (fun _ _ _ h => h) (Or.inl ⟨by rfl, ?hy20⟩) hSS ?_
    case hy20 =>
     intro wX hSw
     go_simp
     try with_reducible rfl
    try simp only [Act.put, List.setIfInBounds_toArray, List.set_cons_zero, List.set_cons_succ]
    refine yready_9 (by kernel_rfl) ?_
    intro KQ hK
    rw [if_pos (by rfl)]
    try go_simp
    refine (copyTxs_any a.O.A a.O.c m (P.O.take 8) _ HTL.out (HTR.out _ ((Below.refl _ _).drew)) (by omega) (by omega)).mono ?_
    rintro e w5 ⟨v, rfl, hoO, hbv⟩
    obtain ⟨AO, cO, rfl, _, _, _, _, _⟩ := ownS_slice hoO
    have hb5 : Below w0.heap.size w0 w5 := ((Below.refl _ _).drew).trans hbv
    have hS5 : Box w5 g (wkC P a) := HX0.out.below hb5 hl0
    have HR5 : Hid (Box w5 (g + 1) zeroBC) := HX1.out.below hb5 hl1
    have HO5 : Hid (w5.ownsRow w0.heap.size 40 4 (.slice AO m cO) m (txs (P.O.take 8))) := hoO
    have HB5 := Lib.hid hb5
    clear hoO hbv hb5
    refine hK.out _ _ hS5 (fun _ => ?_)
    clear hK KQ
    try simp only [Act.put, List.setIfInBounds_toArray, List.set_cons_zero, List.set_cons_succ]
    refine ytake_10 (v := ?vv21) (by kernel_rfl) (by kernel_rfl) (by kernel_rfl) (fun _ _ _ h => h) (Or.inl ⟨by rfl, ?hy21⟩) hS5 ?_
    case hy21 =>
     intro wX hSw
     go_simp
     try with_reducible rfl
    try simp only [Act.put, List.setIfInBounds_toArray, List.set_cons_zero, List.set_cons_succ]
    refine yready_11 (by kernel_rfl) ?_
    intro KQ hK
    rw [if_pos (by rfl)]
    refine wp_store_boxZ 42 _ _ rfl (g + 1) 0 [.int .i64 P.i, .int .i64 P.x, .slice AO m cO] zeroBC [.int .i64 P.i, .int .i64 P.x, .slice AO m cO] rfl rfl HR5.out (show 0 + 3 ≤ 3 by decide) rfl size_batch rfl ?_
    intro w6 bx6 T6
    have t6 := T6 (fun k => k = g + 1) rfl
    have hS6 : Box w6 g (wkC P a) := hS5.touch t6 (by omega)
    refine hK.out _ _ hS6 (fun _ => ?_)
    clear hK KQ
    try simp only [Act.put]
    refine ytake_12 (v := ?vv22) (by kernel_rfl) (by kernel_rfl) (by kernel_rfl) (fun _ _ _ h => h) (Or.inl ⟨by rfl, ?hy22⟩) hS6 ?_
    case hy22 =>
     intro wX hSw
     go_simp
     try with_reducible rfl
    try simp only [Act.put, List.setIfInBounds_toArray, List.set_cons_zero, List.set_cons_succ]
    refine wpAnyH_done (by kernel_rfl) ?_ _
    have r0 := (bx6.2 0 _ rfl).1
    have r1 := (bx6.2 1 _ rfl).1
    have r2 := (bx6.2 2 _ rfl).1
    have hs6 := t6.size
    have hs5 := HB5.out.size
    go_wp2_with fail
    refine bodyPost_ret (v := .tuple #[.agg #[.int .i64 P.i, .int .i64 P.x, .slice AO m cO], .int .i64 0]) (by simp [results, Tryz.results46, go_sem, r0, r1, r2]) rfl ⟨⟨AO, m, cO⟩, by rw [HE.out]; rfl, ?_, by rw [HE.out]; exact HTL.out, ?_⟩
    ·rw [HE.out, HG.out]
     exact ownS_more (own_kept HO5.out fun k hk hl => t6.block k hl (by have := (own_lt HO5.out hk).2; omega)) (by omega)
    ·rw [HG.out]
     exact (HB0.out.trans (HB5.out.mono hgw)).trans (t6.below (fun k hk => by omega) (by omega))

end Go.Proofs.YteepobghdpnabaaGreat
