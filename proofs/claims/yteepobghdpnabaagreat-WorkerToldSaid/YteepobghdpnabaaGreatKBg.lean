/-
 A statement whose order is open, whose operations read and whose calls may make memory, but each yields one value whatever came ahead of it: walked once. Of no program.
-/
import Derived.Deep.QuietTactic
import Derived.BigQuiet
import Derived.BigRegion
import Derived.Laws.Rows
import Derived.Laws.CopyRow
import Derived.Lib.AppendZerosOnto
import Derived.Lib.Overlaps
import Derived.Test.YteepobghdpnabaaGreatRows
import Derived.WalkSpells
import Derived.WalkLawsBesides
import Derived.LoopTactic
import Derived.Outline
import Derived.Deep.RegionLaw
import Derived.StillTailTactics
import Derived.Laws.Externs
import Derived.Test.YteepobghdpnabaaGreatKBa
import Derived.Test.YteepobghdpnabaaGreatKBf
import Derived.Test.YteepobghdpnabaaGreatKBc
import Derived.Test.YteepobghdpnabaaGreatKBb
import Derived.Test.YteepobghdpnabaaGreatKBd
namespace Go.Proofs.YteepobghdpnabaaGreat
open Go.RowKit

structure Calm (w : World) where
 val : World
 ok : Below w.heap.size w val

instance (w : World) : Nonempty (Calm w) := ⟨⟨w, Below.refl _ _⟩⟩

theorem wp_region_calm {P : Program} {id : Nat} {Q : Exit → Act → World → Prop} {a : Act} {w : World} {l : List Oper} (hm : P.follows .mixedOrders = true) (hB : Region.lexB .any l.toArray = true)
  (h : wpQuiet P l.toArray (fun w' => ∃ x : Calm w, w' = x.val) (fun a' => ∀ w', (∃ x : Calm w, w' = x.val) → Q .normal a' w') l a) : (Code.region id l.toArray true).wp P Q a w :=
 wp_region_quiet (C := fun w' => ∃ x : Calm w, w' = x.val) hm hB ⟨⟨_, (Below.refl _ _).drew⟩, rfl⟩ (by simpa using h)

theorem calm_tells {P : Program} {f : FuncId} {args : Array Value} {w : World} {x : Calm w} {v : Value} (h : Calls P f args x.val (Tells x.val.heap.size x.val v)) :
  Calls P f args x.val fun e w'' => e = .returned v ∧ ∃ y : Calm w, w'' = y.val :=
 h.mono fun _ w'' ⟨he, hb⟩ => ⟨he, ⟨w'', x.ok.trans (hb.mono x.ok.size)⟩, rfl⟩
theorem calm_same {P : Program} {f : FuncId} {args : Array Value} {w : World} {x : Calm w} {v : Value} (h : Calls P f args x.val fun e w' => e = .returned v ∧ x.val = w') :
  Calls P f args x.val fun e w'' => e = .returned v ∧ ∃ y : Calm w, w'' = y.val :=
 h.mono fun _ _ ⟨he, hw⟩ => ⟨he, x, hw.symm⟩
theorem calm_drew {P : Program} {f : FuncId} {args : Array Value} {w : World} {x : Calm w} {v : Value} (h : Calls P f args x.val fun e w' => e = .returned v ∧ ∃ d, w' = x.val.drewN d) :
  Calls P f args x.val fun e w'' => e = .returned v ∧ ∃ y : Calm w, w'' = y.val :=
 h.mono fun _ w'' ⟨he, d, hw⟩ => ⟨he, ⟨w'', by rw [hw]; exact below_n x.ok d⟩, rfl⟩

end Go.Proofs.YteepobghdpnabaaGreat
namespace Go.Proofs.YteepobghdpnabaaGreat
open Go.RowKit

theorem rd_takeZ {w : World} {A : Option Addr} {xs : List Value} (h : Rd w A xs) (n : Nat) : Rd w A (xs.take n) := fun hx => by
 have hl : 0 < xs.length := by
  cases xs with
  | nil => simp at hx
  | cons x r => simp
 obtain ⟨b, off, e, hb, hc⟩ := h.open_ hl
 refine ⟨b, off, e, hb, fun i v hv => hc i v ?_⟩
 rw [List.getElem?_take] at hv
 split at hv
 ·exact hv
 ·cases hv
theorem p_facts (p : Nat) (hn : p ≤ 1000000) : IntKind.i64.wrap ((p : Int) + 1 - 1) = (p : Int) ∧ wrap64 ((p : Int) + 1 - 1) = (p : Int) ∧ IntKind.i64.wrap (p : Int) = (p : Int) ∧ wrap64 (p : Int) = (p : Int) := by
 have e : IntKind.i64.wrap (p : Int) = (p : Int) := IntWalk.i64_in _ (by omega)
 have e2 : wrap64 (p : Int) = (p : Int) := by rw [wrap64]; omega
 rw [show (p : Int) + 1 - 1 = p by omega]
 exact ⟨e, e2, e, e2⟩
def idxI (l : List Int) (d : Int) : Int := match firstI l d with
 | some k => (k : Int)
 | none => -1
theorem idxI_no {l : List Int} {d : Int} (h : d ∉ l) : idxI l d = -1 := by rw [idxI, firstI_none h]
theorem idxI_at {l : List Int} {d : Int} {k : Nat} (h : l[k]? = some d) (hb : ∀ (j : Nat) (y : Int), j < k → l[j]? = some y → y ≠ d) : idxI l d = k := by rw [idxI, firstI_some h hb]
theorem idxI_ex {l : List Int} {d : Int} (h : d ∈ l) : ∃ k : Nat, idxI l d = k ∧ k < l.length ∧ l[k]? = some d := by
 induction l with
 | nil => simp at h
 | cons y r ih =>
  by_cases hy : y = d
  ·exact ⟨0, by rw [idxI, firstI, if_pos hy], by simp, by simp [hy]⟩
  ·have hr : d ∈ r := by
    rcases List.mem_cons.1 h with e | e
    ·exact absurd e.symm hy
    ·exact e
   obtain ⟨k, h1, h2, h3⟩ := ih hr
   refine ⟨k + 1, ?_, by simp; omega, by simpa using h3⟩
   rw [idxI] at h1 ⊢
   rw [firstI, if_neg hy]
   cases hf : firstI r d with
   | none => rw [hf] at h1; simp only at h1 <;> omega
   | some j => rw [hf] at h1; simp at h1 ⊢ <;> omega
theorem idxI_ge {l : List Int} {d : Int} : 0 ≤ idxI l d ↔ d ∈ l := by
 by_cases h : d ∈ l
 ·obtain ⟨k, h1, _⟩ := idxI_ex h
  simp [h, h1]
 ·rw [idxI_no h]; simp [h]

set_option maxHeartbeats 2000000 in
theorem rin_is (A : Option Addr) (n c : Nat) (l : List Int) (t : Int) (w : World) (hz : l.length = n) (hr : Rd w A (i64s l)) (hn : n ≤ 1000000) :
  Calls Tryz.prog 75 #[.slice A n c, .int .i64 t] w fun e w' => e = .returned (.int .i64 (idxI l t)) ∧ w = w' := by
 have HZ := Lib.hid hz
 have HRD := Lib.hid hr
 clear hz hr
 go_enter Tryz.func75, Tryz.ntmps75
 go_wp2
 go_loop [5] (fun i => ∃ k : Nat, i = .int .i64 k ∧ k ≤ n ∧ Hid (∀ (j : Nat) (y : Int), j < k → l[j]? = some y → y ≠ t)) (fun i => n - (intOf i).toNat)
 case atStart => exact ⟨0, rfl, by omega, by show ∀ (j : Nat), _; exact fun j y hj => by omega⟩
 case round =>
  obtain ⟨k, rfl, hk, HT⟩ := hrel
  by_cases hlt : k < n
  ·obtain ⟨b, off, rfl, hbl, hcell⟩ := HRD.out.open_ (by rw [i64s_length, HZ.out]; omega)
   have hc1 := hcell k _ (i64s_at (by rw [HZ.out]; exact hlt))
   have hm : l[k]? = some (l[k]?.getD 0) := at_some (by rw [HZ.out]; exact hlt)
   obtain ⟨m, hme⟩ : ∃ m, m = l[k]?.getD 0 := ⟨_, rfl⟩
   rw [← hme] at hc1 hm
   have HM := Lib.hid hm
   clear hm hme hcell
   have i0 : (0 : Int) ≤ (k : Int) := by omega
   have i1 : (k : Int) < (n : Int) := by omega
   by_cases htm : m = t
   ·have j1 : (m == t) = true := by simp [htm]
    have HI : Hid (idxI l t = k) := idxI_at (by rw [HM.out, htm]) HT.out
    clear htm
    go_wp2_with fail
    go_ret
    exact ⟨by rw [HI.out]; rfl, rfl⟩
   ·have j1 : (m == t) = false := by simp [htm]
    have HN : Hid (∀ (j : Nat) (y : Int), j < k + 1 → l[j]? = some y → y ≠ t) := by
     show ∀ (j : Nat), _
     intro j y hj hy
     rcases Nat.lt_or_ge j k with h1 | h1
     ·exact HT.out j y h1 hy
     ·obtain rfl : j = k := by omega
      rw [HM.out] at hy
      cases hy
      exact htm
    clear htm
    go_wp2_with fail
    go_round
    case rel => exact ⟨k + 1, by go_num, by omega, HN⟩
    case measure => simp [intOf]; omega
  ·have i1 : ¬ ((k : Int) < (n : Int)) := by omega
   have HN : Hid (idxI l t = -1) := idxI_no fun h => by
    obtain ⟨j, hj⟩ := List.mem_iff_getElem?.1 h
    have := (List.getElem?_eq_some_iff.1 hj).1
    rw [HZ.out] at this
    exact HT.out j t (by omega) hj rfl
   go_wp2_with fail
   go_ret
   exact ⟨by rw [HN.out]; rfl, rfl⟩

set_option maxRecDepth 100000 in
set_option maxHeartbeats 4000000 in
theorem runlike_is (b : Bool) (A : Option Addr) (c n : Nat) (l : List Int) (w : World) (h : b = true ↔ OnceOk l) (hz : l.length = n) (hc : n ≤ c) (hr : Rd w A (i64s l)) (hn : n ≤ 1000000) :
  Calls Tryz.prog 35 #[.slice A n c] w (Tells w.heap.size w (.bool b)) := by
 have HZ := Lib.hid hz
 have HH := Lib.hid h
 have HR := Lib.hid hr
 clear hz h hr
 go_enter Tryz.func35, Tryz.ntmps35
 go_wp2
 go_loopw [3] (fun i wr => ∃ k : Nat, i = .int .i64 k ∧ k ≤ n ∧ Hid (∀ (i : Nat) (x : Int), i < k → l[i]? = some x → x ∉ l.take i) ∧ Below w.heap.size w wr) (fun i _ => n - (intOf i).toNat)
 case atStart => exact ⟨0, rfl, by omega, by show ∀ (i : Nat), _; exact fun i x hi => by omega, Below.refl _ _⟩
 case round =>
  obtain ⟨k, rfl, hk, HT, hb⟩ := hrel
  have i0 : (0 : Int) ≤ (k : Int) := by omega
  have i2 : (k : Int) ≤ (n : Int) := by omega
  have i3 : (k : Int) ≤ (c : Int) := by omega
  by_cases hlt : k < n
  ·have hrw := HR.out.below hb
   obtain ⟨bq, off, rfl, hbl, hcell⟩ := hrw.open_ (by rw [i64s_length, HZ.out]; omega)
   have hc1 := hcell k _ (i64s_at (by rw [HZ.out]; exact hlt))
   have hm : l[k]? = some (l[k]?.getD 0) := at_some (by rw [HZ.out]; exact hlt)
   obtain ⟨m, hme⟩ : ∃ m, m = l[k]?.getD 0 := ⟨_, rfl⟩
   rw [← hme] at hc1 hm
   have HM := Lib.hid hm
   have i1 : (k : Int) < (n : Int) := by omega
   have hlen : (l.take k).length = k := by rw [List.length_take, HZ.out]; omega
   have hrt : Rd wr (some ⟨bq, off, none⟩) (i64s (l.take k)) := by
    have e : i64s (l.take k) = (i64s l).take k := by simp [i64s, List.map_take]
    rw [e]
    exact rd_takeZ hrw k
   have HIN : Hid (∀ z : Calm wr, Calls Tryz.prog 75 #[.slice (some ⟨bq, off, none⟩) k c, .int .i64 m] z.val fun e w' => e = .returned (.int .i64 (idxI (l.take k) m)) ∧ z.val = w') := fun z => rin_is _ k c (l.take k) m z.val hlen (hrt.below z.ok) (by omega)
   have y1 : ∀ z : Calm wr, z.val.cell? ⟨bq, off + k, none⟩ = some (.int .i64 m) := fun z => (z.ok.cell (p := ⟨bq, off + k, none⟩) hbl).trans hc1
   clear hcell hc1 hm hme hlen hrt hrw
   obtain ⟨r, hr⟩ : ∃ r, r = idxI (l.take k) m := ⟨_, rfl⟩
   rw [← hr] at HIN
   by_cases hin : m ∈ l.take k
   ·have h0 : 0 ≤ r := by rw [hr]; exact idxI_ge.2 hin
    have j0 : decide (0 ≤ r) = true := decide_eq_true h0
    have HB : Hid (b = false) := by
     show b = false
     cases b with
     | false => rfl
     | true => exact absurd hin (HH.out.1 rfl k m HM.out)
    clear hin hr
    go_upto_region 4 with fail
    refine wp_region_calm (by kernel_rfl) (by kernel_rfl) ?_
    repeat (go_big_quiet_step (first
     | (go_at_call 75; exact calm_same (HIN.out _))))
    refine wpQuiet_nil ?_
    rintro _ ⟨z, rfl⟩
    have hz := z.ok
    clear y1
    go_wp2_with fail
    go_ret
    exact ⟨ret_bool HB.out.symm, hb.trans (hz.mono hb.size)⟩
   ·have h0 : ¬ (0 ≤ r) := by rw [hr]; exact fun h => hin (idxI_ge.1 h)
    have j0 : decide (0 ≤ r) = false := decide_eq_false h0
    have HN : Hid (∀ (i : Nat) (x : Int), i < k + 1 → l[i]? = some x → x ∉ l.take i) := by
     show ∀ (i : Nat), _
     intro i x hi hx
     rcases Nat.lt_or_ge i k with h1 | h1
     ·exact HT.out i x h1 hx
     ·obtain rfl : i = k := by omega
      rw [HM.out] at hx
      cases hx
      exact hin
    clear hin hr
    go_upto_region 4 with fail
    refine wp_region_calm (by kernel_rfl) (by kernel_rfl) ?_
    repeat (go_big_quiet_step (first
     | (go_at_call 75; exact calm_same (HIN.out _))))
    refine wpQuiet_nil ?_
    rintro _ ⟨z, rfl⟩
    have hz := z.ok
    clear y1
    go_wp2_with fail
    go_roundw
    case rel => exact ⟨k + 1, by go_num, by omega, HN, hb.trans (hz.mono hb.size)⟩
    case measure => simp [intOf]; omega
  ·have i1 : ¬ ((k : Int) < (n : Int)) := by omega
   have HB : Hid (b = true) := HH.out.2 fun i x hx => HT.out i x (by have := (List.getElem?_eq_some_iff.1 hx).1; rw [HZ.out] at this; omega) hx
   go_wp2_with fail
   go_ret
   exact ⟨ret_bool HB.out.symm, hb⟩

def HeldTo (l : List HlD) (k : Nat) : Prop := ∀ (i : Nat) (x : HlD), i < k → l[i]? = some x → digB x.d = true ∧ batB x.a x.n x.L = true ∧ ∀ y, 0 < i → l[i - 1]? = some y → y.d < x.d
theorem heldTo_next {l : List HlD} {k : Nat} {x : HlD} (h : HeldTo l k) (hx : l[k]? = some x) (h1 : digB x.d = true) (h2 : batB x.a x.n x.L = true) (h3 : ∀ y, 0 < k → l[k - 1]? = some y → y.d < x.d) : HeldTo l (k + 1) := by
 intro i y hi hy
 rcases Nat.lt_or_ge i k with h4 | h4
 ·exact h i y h4 hy
 ·obtain rfl : i = k := by omega
  rw [hx] at hy
  cases hy
  exact ⟨h1, h2, h3⟩
theorem heldTo_all {l : List HlD} {k : Nat} (h : HeldTo l k) (hk : l.length ≤ k) : HeldOk l := fun i x hx => h i x (by have := (List.getElem?_eq_some_iff.1 hx).1; omega) hx

set_option maxRecDepth 100000 in
set_option maxHeartbeats 8000000 in
theorem rheld_is (b : Bool) (a : Ad) (hs : List (HlD × Ad)) (w : World) (h : b = true ↔ HeldOk (hs.map Prod.fst)) (hi : RowIn KH w a hs) (hn : hs.length ≤ 1000000) :
  Calls Tryz.prog 33 #[a.v] w (Tells w.heap.size w (.bool b)) := by
 obtain ⟨A, n, c⟩ := a
 have hz : hs.length = n := hi.row.len
 have HZ := Lib.hid hz
 have HH := Lib.hid h
 have HR := Lib.hid hi
 unfold Ad.v
 have hn2 : n ≤ 1000000 := by omega
 clear hz h hi hn
 go_enter Tryz.func33, Tryz.ntmps33
 go_wp2
 go_loopw [3] (fun i wr => ∃ k : Nat, i = .int .i64 k ∧ k ≤ n ∧ Hid (HeldTo (hs.map Prod.fst) k) ∧ Below w.heap.size w wr) (fun i _ => n - (intOf i).toNat)
 case atStart => exact ⟨0, rfl, by omega, fun i x hi => by omega, Below.refl _ _⟩
 case round =>
  obtain ⟨k, rfl, hk, HT, hb⟩ := hrel
  have i0 : (0 : Int) ≤ (k : Int) := by omega
  by_cases hlt : k < n
  ·have i1 : (k : Int) < (n : Int) := by omega
   obtain ⟨x, hx⟩ : ∃ x, hs[k]? = some x := ⟨hs[k]'(by rw [HZ.out]; exact hlt), by simp⟩
   obtain ⟨bq, off, rfl, hbl, hcl⟩ := (HR.out.row.rd.below hb).open_ (by rw [cellsK_length, HZ.out]; show 0 < n * 4; omega)
   have hce := fun j v hv => hcl (k * 4 + j) v (cellsK_at KH hx (j := j) (v := v) hv)
   have e0 : wr.cell? ⟨bq, off + k * 4, none⟩ = some (.int .i64 x.1.d) := hce 0 _ rfl
   have e1 : wr.cell? ⟨bq, off + k * 4 + 1, none⟩ = some (.int .i64 x.1.a) := by have := hce 1 _ rfl; rw [← Nat.add_assoc] at this; exact this
   have e2 : wr.cell? ⟨bq, off + k * 4 + 2, none⟩ = some (.int .i64 x.1.n) := by have := hce 2 _ rfl; rw [← Nat.add_assoc] at this; exact this
   have e3 : wr.cell? ⟨bq, off + k * 4 + 3, none⟩ = some (.slice x.2.A x.2.n x.2.c) := by have := hce 3 _ rfl; rw [← Nat.add_assoc] at this; exact this
   have hx1 : (hs.map Prod.fst)[k]? = some x.1 := by rw [List.getElem?_map, hx]; rfl
   have HX1 := Lib.hid hx1
   have hsub := (HR.out.sub x (List.mem_of_getElem? hx)).below hb
   have HSB := Lib.hid hsub
   have y0 : ∀ z : Calm wr, z.val.cell? ⟨bq, off + k * 4, none⟩ = some (.int .i64 x.1.d) := fun z => (z.ok.cell (p := ⟨bq, off + k * 4, none⟩) hbl).trans e0
   have y1 : ∀ z : Calm wr, z.val.cell? ⟨bq, off + k * 4 + 1, none⟩ = some (.int .i64 x.1.a) := fun z => (z.ok.cell (p := ⟨bq, off + k * 4 + 1, none⟩) hbl).trans e1
   have y2 : ∀ z : Calm wr, z.val.cell? ⟨bq, off + k * 4 + 2, none⟩ = some (.int .i64 x.1.n) := fun z => (z.ok.cell (p := ⟨bq, off + k * 4 + 2, none⟩) hbl).trans e2
   have y3 : ∀ z : Calm wr, z.val.cell? ⟨bq, off + k * 4 + 3, none⟩ = some (.slice x.2.A x.2.n x.2.c) := fun z => (z.ok.cell (p := ⟨bq, off + k * 4 + 3, none⟩) hbl).trans e3
   clear e0 e1 e2 e3 hx1
   have HDG : Hid (∀ (b : Bool), digB x.1.d = b → ∀ z : Calm wr, Calls Tryz.prog 36 #[.int .i64 x.1.d] z.val fun e w' => e = .returned (.bool b) ∧ z.val = w') := fun b hb z => rdigest_is b x.1.d hb z.val
   have HBT : Hid (∀ (b : Bool), batB x.1.a x.1.n x.1.L = b → ∀ z : Calm wr, Calls Tryz.prog 74 #[.agg #[.int .i64 x.1.a, .int .i64 x.1.n, .slice x.2.A x.2.n x.2.c]] z.val (Tells z.val.heap.size z.val (.bool b))) := fun b hb z => rbatch_is b x.1.a x.1.n x.2.A x.2.c x.2.n x.1.L z.val hb (HSB.out.below z.ok).len (HSB.out.below z.ok).rd
   have HNO : Hid ((¬ (digB x.1.d = true ∧ batB x.1.a x.1.n x.1.L = true ∧ ∀ y, 0 < k → (hs.map Prod.fst)[k - 1]? = some y → y.d < x.1.d)) → b = false) := by
    intro hne
    cases b with
    | false => rfl
    | true => exact absurd (HH.out.1 rfl k x.1 HX1.out) hne
   cases hdg : digB x.1.d with
   | false =>
    have HD := Lib.hid hdg
    have HB : Hid (b = false) := HNO.out fun h => by rw [HD.out] at h; exact absurd h.1 (by decide)
    clear hdg hcl hce hx hsub
    go_upto_region 4 with fail
    refine wp_region_calm (by kernel_rfl) (by kernel_rfl) ?_
    repeat (go_big_quiet_step (first
     | (go_at_call 36; exact calm_same (HDG.out false HD.out _))))
    refine wpQuiet_nil ?_
    rintro _ ⟨z, rfl⟩
    have hz := z.ok
    clear y0 y1 y2 y3
    go_wp2_with fail
    go_ret
    exact ⟨ret_bool HB.out.symm, hb.trans (hz.mono hb.size)⟩
   | true =>
    have HD := Lib.hid hdg
    clear hdg
    cases hbt : batB x.1.a x.1.n x.1.L with
    | false =>
     have HBA := Lib.hid hbt
     have HB : Hid (b = false) := HNO.out fun h => by rw [HBA.out] at h; exact absurd h.2.1 (by decide)
     clear hbt hcl hce hx hsub
     go_upto_region 4 with fail
     refine wp_region_calm (by kernel_rfl) (by kernel_rfl) ?_
     repeat (go_big_quiet_step (first
      | (go_at_call 36; exact calm_same (HDG.out true HD.out _))
      | (go_at_call 74; exact calm_tells (HBT.out _ HBA.out _))))
     refine wpQuiet_nil ?_
     rintro _ ⟨z, rfl⟩
     have hz := z.ok
     clear y0 y1 y2 y3
     go_wp2_with fail
     go_ret
     exact ⟨ret_bool HB.out.symm, hb.trans (hz.mono hb.size)⟩
    | true =>
     have HBA := Lib.hid hbt
     clear hbt
     by_cases hk0 : k = 0
     ·have j0 : decide ((0 : Int) < (k : Int)) = false := decide_eq_false (by omega)
      have j1 : ¬ ((0 : Int) < (k : Int)) := by omega
      have j2 : ¬ (0 < k) := by omega
      have j3 : decide (0 < k) = false := decide_eq_false j2
      have HN : Hid (HeldTo (hs.map Prod.fst) (k + 1)) := heldTo_next HT.out HX1.out HD.out HBA.out (fun y hy => absurd hy j2)
      clear hk0 hcl hce hx hsub
      go_upto_region 4 with fail
      refine wp_region_calm (by kernel_rfl) (by kernel_rfl) ?_
      repeat (go_big_quiet_step (first
       | (go_at_call 36; exact calm_same (HDG.out true HD.out _))
       | (go_at_call 74; exact calm_tells (HBT.out _ HBA.out _))))
      refine wpQuiet_nil ?_
      rintro _ ⟨z, rfl⟩
      have hz := z.ok
      clear y0 y1 y2 y3
      go_wp2_with fail
      go_roundw
      case rel => exact ⟨k + 1, by go_num, by omega, HN, hb.trans (hz.mono hb.size)⟩
      case measure => simp [intOf]; omega
     ·obtain ⟨p, hp⟩ : ∃ p, k = p + 1 := ⟨k - 1, by omega⟩
      subst hp
      obtain ⟨y, hy⟩ : ∃ y, hs[p]? = some y := ⟨hs[p]'(by rw [HZ.out]; omega), by simp⟩
      have f0 : wr.cell? ⟨bq, off + p * 4, none⟩ = some (.int .i64 y.1.d) := hcl (p * 4 + 0) _ (cellsK_at KH hy (j := 0) rfl)
      have q0 : ∀ z : Calm wr, z.val.cell? ⟨bq, off + p * 4, none⟩ = some (.int .i64 y.1.d) := fun z => (z.ok.cell (p := ⟨bq, off + p * 4, none⟩) hbl).trans f0
      have hy1 : (hs.map Prod.fst)[p + 1 - 1]? = some y.1 := by rw [List.getElem?_map, Nat.add_sub_cancel, hy]; rfl
      have HY1 := Lib.hid hy1
      have i4 : (0 : Int) ≤ (p : Int) := by omega
      have i5 : (p : Int) < (n : Int) := by omega
      have j0 : decide ((0 : Int) < (p : Int) + 1) = true := decide_eq_true (by omega)
      have j1 : (0 : Int) < (p : Int) + 1 := by omega
      obtain ⟨hwp, hwp2, hwp3, hwp4⟩ := p_facts p (by omega)
      clear f0 hy1 hcl hce hx hsub hy hk0
      by_cases hge : x.1.d ≤ y.1.d
      ·have j5 : decide (x.1.d ≤ y.1.d) = true := decide_eq_true hge
       have HB : Hid (b = false) := HNO.out fun h => by have := h.2.2 y.1 (by omega) HY1.out; omega
       go_upto_region 4 with fail
       refine wp_region_calm (by kernel_rfl) (by kernel_rfl) ?_
       repeat (go_big_quiet_step (first
        | (go_at_call 36; exact calm_same (HDG.out true HD.out _))
        | (go_at_call 74; exact calm_tells (HBT.out _ HBA.out _))))
       refine wpQuiet_nil ?_
       rintro _ ⟨z, rfl⟩
       have hz := z.ok
       clear y0 y1 y2 y3
       go_wp2_with fail
       go_ret
       exact ⟨ret_bool HB.out.symm, hb.trans (hz.mono hb.size)⟩
      ·have j5 : decide (x.1.d ≤ y.1.d) = false := decide_eq_false hge
       have HN : Hid (HeldTo (hs.map Prod.fst) (p + 1 + 1)) := heldTo_next HT.out HX1.out HD.out HBA.out (fun v hv h => by rw [HY1.out] at h; cases h; omega)
       go_upto_region 4 with fail
       refine wp_region_calm (by kernel_rfl) (by kernel_rfl) ?_
       repeat (go_big_quiet_step (first
        | (go_at_call 36; exact calm_same (HDG.out true HD.out _))
        | (go_at_call 74; exact calm_tells (HBT.out _ HBA.out _))))
       refine wpQuiet_nil ?_
       rintro _ ⟨z, rfl⟩
       have hz := z.ok
       clear y0 y1 y2 y3
       go_wp2_with fail
       go_roundw
       case rel => exact ⟨p + 1 + 1, by go_num, by omega, HN, hb.trans (hz.mono hb.size)⟩
       case measure => simp [intOf]; omega
  ·have i1 : ¬ ((k : Int) < (n : Int)) := by omega
   have HB : Hid (b = true) := HH.out.2 (heldTo_all HT.out (by rw [List.length_map, HZ.out]; omega))
   go_wp2_with fail
   go_ret
   exact ⟨ret_bool HB.out.symm, hb⟩

end Go.Proofs.YteepobghdpnabaaGreat
namespace Go.Proofs.YteepobghdpnabaaGreat
open Go.RowKit

section
variable {P : Program} (w : World)

def over (cur : Array Value) (o : Nat) (cs : List Value) : Array Value := (cur.toList.take o ++ cs ++ cur.toList.drop (o + cs.length)).toArray
theorem over_nil (cur : Array Value) (o : Nat) : over cur o [] = cur := by simp [over]
theorem over_size {cur : Array Value} {o : Nat} {cs : List Value} (h : o + cs.length ≤ cur.size) : (over cur o cs).size = cur.size := by
 simp [over]; omega
theorem over_list {cur : Array Value} {o : Nat} {cs : List Value} : (over cur o cs).toList = cur.toList.take o ++ cs ++ cur.toList.drop (o + cs.length) := by simp [over]

theorem row_over {g : Nat} {cur : Array Value} {t : TypeId} (hg : w.heap[g]? = some (.cells cur t (0, 0))) (o : Nat) (cs : List Value) : (w.setRow g (over cur o cs)).heap[g]? = some (.cells (over cur o cs) t (0, 0)) :=
 setRow_heap w g cur _ t _ hg

theorem run_append_in {t ty e : TypeId} {i : TypeInfo} (ht : P.underlying t = some (.slice e)) (hi : P.info? e = some i)
  {g n cap : Nat} {cur : Array Value} {T : TypeId} (hg : w.heap[g]? = some (.cells cur T (0, 0))) {A : Option Addr} {k kc : Nat} {cs : List Value} (hl : cs.length = k * i.size)
  (hA : 0 < k → ∃ a, A = some a ∧ ∀ j v, cs[j]? = some v → w.cell? (a.add j) = some v) (hroom : n + k ≤ cap) (hfit : (n + k) * i.size ≤ cur.size) (h1 : ∀ v ∈ cs, v.oneCell' = true) :
  (Builtin.append_ #[t, t] ty #[.slice (some ⟨g, 0, none⟩) n cap, .slice A k kc]).run P w = .ok (.slice (some ⟨g, 0, none⟩) (n + k) cap) (w.setRow g (over cur (n * i.size) cs)) := by
 have hfirst : (Builtin.firstCells i.size k (.slice A k kc)).run P w = .ok cs.toArray w := by
  rcases Nat.eq_zero_or_pos k with h0 | h0
  ·subst h0
   have : cs = [] := List.eq_nil_of_length_eq_zero (by simpa using hl)
   subst this
   cases A with
   | none => simp [Builtin.firstCells]
   | some a =>
    have := run_loadCells_list (P := P) w a [] (by simp)
    simpa [Builtin.firstCells] using this
  ·obtain ⟨a, rfl, hc⟩ := hA h0
   have := run_loadCells_list (P := P) w a cs hc
   simp only [Builtin.firstCells, ← hl]
   exact this
 have hst := run_storeCells_at P g (n * i.size) T cs 0 cur w hg (by rw [hl, Nat.add_zero, ← Nat.add_mul]; exact hfit) h1
 have hadd : (⟨g, 0, none⟩ : Addr).add (n * i.size) = ⟨g, n * i.size, none⟩ := by rw [Addr.add_lit, Nat.zero_add]
 simp [Builtin.append_, run_underlying ht, sizeOf, typeInfo, hi, Builtin.lenOf, hroom, hfirst, hadd, hst, over]

theorem run_copy_in {t ty e : TypeId} {i : TypeInfo} (ht : P.underlying t = some (.slice e)) (hi : P.info? e = some i)
  {g o : Nat} {cur : Array Value} {T : TypeId} (hg : w.heap[g]? = some (.cells cur T (0, 0))) {D A : Option Addr} {dn dc k kc m : Nat} {cs : List Value} (hm : Nat.min k dn = m) (hl : cs.length = m * i.size)
  (hA : 0 < m → D = some ⟨g, o, none⟩ ∧ ∃ a, A = some a ∧ ∀ j v, cs[j]? = some v → w.cell? (a.add j) = some v) (hfit : o + m * i.size ≤ cur.size) (h1 : ∀ v ∈ cs, v.oneCell' = true) :
  (Builtin.copy_ #[t, t] ty #[.slice D dn dc, .slice A k kc]).run P w = .ok (goInt m) (w.setRow g (over cur o cs)) := by
 rcases Nat.eq_zero_or_pos m with h0 | h0
 ·subst h0
  have : cs = [] := List.eq_nil_of_length_eq_zero (by simpa using hl)
  subst this
  have hfirst : (Builtin.firstCells i.size 0 (.slice A k kc)).run P w = .ok #[] w := by
   cases A with
   | none => simp [Builtin.firstCells]
   | some a =>
    have := run_loadCells_list (P := P) w a [] (by simp)
    simpa [Builtin.firstCells] using this
  rw [over_nil, setRow_self w g cur T (0, 0) hg]
  cases D with
  | none => simp [Builtin.copy_, run_underlying ht, sizeOf, typeInfo, hi, Builtin.lenOf, hm, hfirst]
  | some d => simp [Builtin.copy_, run_underlying ht, sizeOf, typeInfo, hi, Builtin.lenOf, hm, hfirst, storeCells]
 ·obtain ⟨rfl, a, rfl, hc⟩ := hA h0
  have hfirst : (Builtin.firstCells i.size m (.slice (some a) k kc)).run P w = .ok cs.toArray w := by
   have := run_loadCells_list (P := P) w a cs hc
   simp only [Builtin.firstCells, ← hl]
   exact this
  have hst := run_storeCells_at P g o T cs 0 cur w hg (by rw [hl, Nat.add_zero]; exact hfit) h1
  simp [Builtin.copy_, run_underlying ht, sizeOf, typeInfo, hi, Builtin.lenOf, hm, hfirst, hst, over]

theorem run_clear_in {t ty e : TypeId} {i : TypeInfo} {z : Value} (ht : P.underlying t = some (.slice e)) (hi : P.info? e = some i) (hz : i.zero = some z)
  {g o : Nat} {cur : Array Value} {T : TypeId} (hg : w.heap[g]? = some (.cells cur T (0, 0))) {n c : Nat} (hfit : o + n * z.cells.size ≤ cur.size) (h1 : ∀ v ∈ z.cells.toList, v.oneCell' = true) (hzs : 0 < z.cells.size) (hn : 0 < n) :
  (Builtin.clear_ #[t] ty #[.slice (some ⟨g, o, none⟩) n c]).run P w = .ok (.tuple #[]) (w.setRow g (over cur o (Builtin.zeroCells z.cells n).toList)) := by
 have hl : (Builtin.zeroCells z.cells n).toList.length = n * z.cells.size := by rw [Array.length_toList, size_zeroCells]
 have hone : ∀ v ∈ (Builtin.zeroCells z.cells n).toList, v.oneCell' = true := fun v hv => by
  simp only [Builtin.zeroCells, Array.toList_map, List.mem_map] at hv
  obtain ⟨x, _, rfl⟩ := hv
  have hx : x % z.cells.size < z.cells.size := Nat.mod_lt _ hzs
  rw [getElem!_pos z.cells _ hx]
  exact h1 _ (by simp)
 have hst := run_storeCells_at P g o T (Builtin.zeroCells z.cells n).toList 0 cur w hg (by rw [hl, Nat.add_zero]; exact hfit) hone
 cases n with
 | zero => omega
 | succ n => simp [Builtin.clear_, run_underlying ht, zeroValue, typeInfo, hi, hz, hst, over]

theorem wp_call_run {o : Oper} {a : Act} {K : Act → World → Prop} {Q : Exit → Act → World → Prop} (s x : Operand) (t t' : TypeId) (ho : o.op = .call { callee := .builtin .append, args := #[s, x], argTypes := #[t, t'] })
  {v u v' : Value} {w' : World} (hs : a.eval s = v) (hx : a.eval x = u) (hr : (Builtin.append_ #[t, t'] o.type #[v, u]).run P w = .ok v' w') (h : K (a.put o.dst v') w') : o.wp P a w K Q := by
 unfold Oper.wp execOp
 simp only [ho, resolve, invoke, builtin, Sem.run_bind, Sem.run_pure, Result.andThen_ok, List.map_toArray, List.map_cons, List.map_nil, hs, hx, hr]
 exact h
theorem wpList_app_run {ops : Array Oper} {rest : List Oper} {o : Oper} {a : Act} {Q : Exit → Act → World → Prop} (hgd : o.guard = none) (s x : Operand) (t t' : TypeId) (ho : o.op = .call { callee := .builtin .append, args := #[s, x], argTypes := #[t, t'] })
  {v u v' : Value} {w' : World} (hs : a.eval s = v) (hx : a.eval x = u) (hr : (Builtin.append_ #[t, t'] o.type #[v, u]).run P w = .ok v' w') (h : wpList P ops Q rest (a.put o.dst v') w') : wpList P ops Q (o :: rest) a w :=
 wpList_plain hgd fun _ hK => wp_call_run w s x t t' ho hs hx hr (hK _ _ h)
theorem wp_copy_run {o : Oper} {a : Act} {K : Act → World → Prop} {Q : Exit → Act → World → Prop} (s x : Operand) (t t' : TypeId) (ho : o.op = .call { callee := .builtin .copy, args := #[s, x], argTypes := #[t, t'] })
  {v u v' : Value} {w' : World} (hs : a.eval s = v) (hx : a.eval x = u) (hr : (Builtin.copy_ #[t, t'] o.type #[v, u]).run P w = .ok v' w') (h : K (a.put o.dst v') w') : o.wp P a w K Q := by
 unfold Oper.wp execOp
 simp only [ho, resolve, invoke, builtin, Sem.run_bind, Sem.run_pure, Result.andThen_ok, List.map_toArray, List.map_cons, List.map_nil, hs, hx, hr]
 exact h
theorem wpList_copy_run {ops : Array Oper} {rest : List Oper} {o : Oper} {a : Act} {Q : Exit → Act → World → Prop} (hgd : o.guard = none) (s x : Operand) (t t' : TypeId) (ho : o.op = .call { callee := .builtin .copy, args := #[s, x], argTypes := #[t, t'] })
  {v u v' : Value} {w' : World} (hs : a.eval s = v) (hx : a.eval x = u) (hr : (Builtin.copy_ #[t, t'] o.type #[v, u]).run P w = .ok v' w') (h : wpList P ops Q rest (a.put o.dst v') w') : wpList P ops Q (o :: rest) a w :=
 wpList_plain hgd fun _ hK => wp_copy_run w s x t t' ho hs hx hr (hK _ _ h)
theorem wpList_clear_run {ops : Array Oper} {rest : List Oper} {o : Oper} {a : Act} {Q : Exit → Act → World → Prop} (hgd : o.guard = none) (s : Operand) (t : TypeId) (ho : o.op = .call { callee := .builtin .clear, args := #[s], argTypes := #[t] })
  {v v' : Value} {w' : World} (hs : a.eval s = v) (hr : (Builtin.clear_ #[t] o.type #[v]).run P w = .ok v' w') (h : wpList P ops Q rest (a.put o.dst v') w') : wpList P ops Q (o :: rest) a w :=
 wpList_plain hgd fun _ hK => by
  unfold Oper.wp execOp
  simp only [ho, resolve, invoke, builtin, Sem.run_bind, Sem.run_pure, Result.andThen_ok, List.map_toArray, List.map_cons, List.map_nil, hs, hr]
  exact hK _ _ h

theorem setRow_grown (g : Nat) (cs : Array Value) : w.grownBy (w.setRow g cs) (some g) :=
 ⟨rfl, rfl, rfl, by simp, fun k _ hk => setRow_other w g k cs (fun e => hk (by rw [e]))⟩
theorem grown_trans {w w' w'' : World} {r : Option Nat} (h : w.grownBy w' r) (k : w'.grownBy w'' r) : w.grownBy w'' r :=
 ⟨k.os.trans h.os, k.tape.trans h.tape, k.output.trans h.output, Nat.le_trans h.size k.size, fun i hi hn => (k.block i (Nat.lt_of_lt_of_le hi h.size) hn).trans (h.block i hi hn)⟩
end

end Go.Proofs.YteepobghdpnabaaGreat
namespace Go.Proofs.YteepobghdpnabaaGreat
open Go.RowKit

theorem row_open {w : World} {B g n cap s : Nat} {e : TypeId} {xs : List Value} (h : w.ownsRow B e s (.slice (some ⟨g, 0, none⟩) n cap) n xs) :
  ∃ cur : Array Value, w.heap[g]? = some (.cells cur e (0, 0)) ∧ B ≤ g ∧ n ≤ cap ∧ cap ≤ maxLen ∧ cur.size = cap * s ∧ cur.toList.take (n * s) = xs := by
 rcases h.2 with ⟨hv, _⟩ | ⟨g', cap', cur, hv, hb, hg, h1, h2, h3, h4⟩
 ·cases hv
 ·cases hv
  exact ⟨cur, hg, hb, h1, h2, h3, h4⟩
theorem row_shut {w : World} {B g n cap s : Nat} {e : TypeId} {xs : List Value} {cur : Array Value} (hg : w.heap[g]? = some (.cells cur e (0, 0))) (hb : B ≤ g) (hn : n ≤ cap) (hm : cap ≤ maxLen) (hs : cur.size = cap * s) (hx : cur.toList.take (n * s) = xs) :
  w.ownsRow B e s (.slice (some ⟨g, 0, none⟩) n cap) n xs :=
 ⟨by rw [← hx, List.length_take, Array.length_toList, hs]; exact Nat.min_eq_left (Nat.mul_le_mul_right _ hn), .inr ⟨g, cap, cur, rfl, hb, hg, hn, hm, hs, hx⟩⟩

theorem cells_part {w : World} {g : Nat} {cur : Array Value} {t : TypeId} (hg : w.heap[g]? = some (.cells cur t (0, 0))) (o k : Nat) : ∀ j v, ((cur.toList.drop o).take k)[j]? = some v → w.cell? ((⟨g, o, none⟩ : Addr).add j) = some v := by
 intro j v hv
 rw [Addr.add_lit, cell_of_row w g (o + j) cur t (0, 0) hg]
 rw [List.getElem?_take] at hv
 split at hv
 ·rw [List.getElem?_drop] at hv
  simpa using hv
 ·cases hv

end Go.Proofs.YteepobghdpnabaaGreat
namespace Go.Proofs.YteepobghdpnabaaGreat
open Go.RowKit

theorem one_part {cur : Array Value} (h1 : ∀ v ∈ cur.toList, v.oneCell' = true) {o k : Nat} : ∀ v ∈ (cur.toList.drop o).take k, v.oneCell' = true :=
 fun v hv => h1 v (List.mem_of_mem_drop (List.mem_of_mem_take hv))
theorem one_part_in {cur : Array Value} {xs : List Value} {N : Nat} (hx : cur.toList.take N = xs) (h1 : ∀ v ∈ xs, v.oneCell' = true) {o k : Nat} (h : o + k ≤ N) : ∀ v ∈ (cur.toList.drop o).take k, v.oneCell' = true := by
 intro v hv
 refine h1 v ?_
 rw [← hx]
 rw [List.mem_iff_getElem?] at hv ⊢
 obtain ⟨j, hj⟩ := hv
 refine ⟨o + j, ?_⟩
 rw [List.getElem?_take] at hj
 split at hj
 ·rw [List.getElem?_drop] at hj
  rw [List.getElem?_take, if_pos (by omega)]
  exact hj
 ·cases hj

end Go.Proofs.YteepobghdpnabaaGreat
