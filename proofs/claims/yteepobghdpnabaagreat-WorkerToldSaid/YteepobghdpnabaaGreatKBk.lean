/-
 Package header's looks at a header: lists of rising numbers, which headers may be, and Check.
-/
import Derived.BigRegion
import Derived.Deep.CutBlock
import Derived.Test.YteepobghdpnabaaGreatKBb
import Derived.Test.YteepobghdpnabaaGreatKBe
import Derived.Test.YteepobghdpnabaaGreatKBc
import Derived.Test.YteepobghdpnabaaGreatKBd
import Derived.Test.YteepobghdpnabaaGreatKBg
import Derived.Test.YteepobghdpnabaaGreatKBa
import Derived.Test.YteepobghdpnabaaGreatKBf
import Derived.Test.YteepobghdpnabaaGreatKBj
namespace Go.Proofs.YteepobghdpnabaaGreat
open Go.RowKit

/-! ### rising numbers, on plain lists -/
def upB (m most : Int) : List Int → Bool
 | [] => true
 | x :: r => decide (m < x ∧ x ≤ most) && upB x most r
theorem upB_cons (m most x : Int) (r : List Int) : upB m most (x :: r) = (decide (m < x ∧ x ≤ most) && upB x most r) := rfl
theorem ris_head : ∀ {x : Int} {r : List Int}, risB (x :: r) = true → risB r = true ∧ ∀ y ∈ r, x < y
 | x, [], _ => ⟨rfl, fun y h => by simp at h⟩
 | x, z :: r, h => by
  rw [risB_cons, Bool.and_eq_true, decide_eq_true_eq] at h
  obtain ⟨h0, h1⟩ := h
  obtain ⟨_, h3⟩ := ris_head h1
  refine ⟨h1, fun y hy => ?_⟩
  rcases List.mem_cons.1 hy with rfl | hy
  ·exact h0
  ·have := h3 y hy; omega
theorem ris_of_head {x : Int} {r : List Int} (h : risB r = true) (h0 : ∀ y ∈ r, x < y) : risB (x :: r) = true := by
 cases r with
 | nil => rfl
 | cons z r => rw [risB_cons, Bool.and_eq_true, decide_eq_true_eq]; exact ⟨h0 z (by simp), h⟩
theorem upB_iff : ∀ {m most : Int} {l : List Int}, upB m most l = true ↔ (∀ x ∈ l, m < x ∧ x ≤ most) ∧ risB l = true
 | m, most, [] => ⟨fun _ => ⟨fun x h => by simp at h, rfl⟩, fun _ => rfl⟩
 | m, most, x :: r => by
  have ih := upB_iff (m := x) (most := most) (l := r)
  rw [upB_cons, Bool.and_eq_true, decide_eq_true_eq, ih]
  constructor
  ·rintro ⟨⟨h0, h1⟩, h2, h3⟩
   refine ⟨fun y hy => ?_, ris_of_head h3 fun y hy => (h2 y hy).1⟩
   rcases List.mem_cons.1 hy with rfl | hy
   ·exact ⟨h0, h1⟩
   ·have := h2 y hy; omega
  ·rintro ⟨h1, h2⟩
   obtain ⟨h3, h4⟩ := ris_head h2
   exact ⟨h1 x (by simp), fun y hy => ⟨h4 y hy, (h1 y (by simp [hy])).2⟩, h3⟩
theorem upB_ris {most : Int} {l : List Int} : upB 0 most l = (betB 1 most l && risB l) := by
 have h : upB 0 most l = true ↔ (betB 1 most l && risB l) = true := by
  rw [upB_iff, Bool.and_eq_true, betB_iff]
  exact ⟨fun ⟨a, b⟩ => ⟨fun x hx => by have := a x hx; omega, b⟩, fun ⟨a, b⟩ => ⟨fun x hx => by have := a x hx; omega, b⟩⟩
 cases h1 : upB 0 most l <;> cases h2 : (betB 1 most l && risB l) <;> simp_all
theorem drop_at {l : List Int} {k : Nat} (h : k < l.length) : l.drop k = l[k]?.getD 0 :: l.drop (k + 1) := by
 rw [List.getElem?_eq_getElem h, Option.getD_some, ← List.drop_eq_getElem_cons h]

/-! ### which headers may be -/
/-! ### Check -/
def okV (b : Bool) : Int := if b then 0 else 1
end Go.Proofs.YteepobghdpnabaaGreat
namespace Go.Proofs.YteepobghdpnabaaGreat
open Go.RowKit

theorem isNum_is (b : Bool) (n : Int) (h : idB n = b) (w : World) : Calls Tryz.prog 77 #[.int .i64 n] w fun e w' => e = .returned (.bool b) ∧ w = w' := by
 cases b with
 | true =>
  obtain ⟨h1, h2⟩ : 1 ≤ n ∧ n ≤ 1099511627776 := by simpa [idB] using h
  clear h
  go_enter Tryz.func77, Tryz.ntmps77
  go_wp2
  go_ret
  exact ⟨ret_bool (by simp), rfl⟩
 | false =>
  have h0 : ¬ (1 ≤ n ∧ n ≤ 1099511627776) := by simpa [idB] using h
  clear h
  by_cases h1 : 1 ≤ n
  ·have h2 : ¬ (n ≤ 1099511627776) := by omega
   clear h0
   go_enter Tryz.func77, Tryz.ntmps77
   go_wp2
   go_ret
   exact ⟨ret_bool (by simp), rfl⟩
  ·clear h0
   go_enter Tryz.func77, Tryz.ntmps77
   go_wp2
   go_ret
   exact ⟨ret_bool (by simp), rfl⟩

set_option maxHeartbeats 1000000 in
theorem btx_yes (t : TxD) (w : World) (h : txB t = true) : Calls Tryz.prog 40 #[t.val] w (Tells w.heap.size w (.int .i64 0)) := by
 have hbel := (Below.refl w.heap.size w).alloc (Nat.le_refl _) (.cells t.cells.toArray 40)
 obtain ⟨h1, h2, h3, h4, h5⟩ : idB t.s = true ∧ idB t.q = true ∧ 1 ≤ t.k.size ∧ t.k.size ≤ 16 ∧ t.v.size ≤ 32 := by simpa [txB] using h
 obtain ⟨ts, tq, tk, tv⟩ := t
 simp only at h1 h2 h3 h4 h5
 have H1 := Lib.hid h1
 have H2 := Lib.hid h2
 have g3 : ¬ ((tk.size : Int) < 1) := by omega
 have g4 : ¬ (16 < (tk.size : Int)) := by omega
 have g5 : ¬ (32 < (tv.size : Int)) := by omega
 clear h h1 h2
 unfold TxD.val
 go_enter Tryz.func40, Tryz.ntmps40
 go_wp2_with (go_at_call 77; refine (isNum_is true _ (by first | exact H1.out | exact H2.out) _).mono ?_; rintro e w' ⟨rfl, rfl⟩)
 go_ret
 exact ⟨rfl, hbel⟩

set_option maxHeartbeats 1000000 in
theorem btx_no (t : TxD) (w : World) (h : txB t = false) : Calls Tryz.prog 40 #[t.val] w (Tells w.heap.size w (.int .i64 1)) := by
 have hbel := (Below.refl w.heap.size w).alloc (Nat.le_refl _) (.cells t.cells.toArray 40)
 have hn := txB_no h
 obtain ⟨ts, tq, tk, tv⟩ := t
 simp only at hn
 clear h
 unfold TxD.val
 rcases hn with h1 | ⟨h1, h2⟩ | ⟨h1, h2, h3⟩ | ⟨h1, h2, h3, h4⟩ | ⟨h1, h2, h3, h4, h5⟩
 ·have H1 := Lib.hid h1
  clear h1
  go_enter Tryz.func40, Tryz.ntmps40
  go_wp2_with fail
  refine (isNum_is false _ H1.out _).mono ?_
  rintro e w' ⟨rfl, rfl⟩
  go_wp2_with fail
  go_ret
  exact ⟨rfl, hbel⟩
 ·have H1 := Lib.hid h1
  have H2 := Lib.hid h2
  clear h1 h2
  go_enter Tryz.func40, Tryz.ntmps40
  go_wp2_with fail
  refine (isNum_is true _ H1.out _).mono ?_
  rintro e w' ⟨rfl, rfl⟩
  go_wp2_with fail
  refine (isNum_is false _ H2.out _).mono ?_
  rintro e w' ⟨rfl, rfl⟩
  go_wp2_with fail
  go_ret
  exact ⟨rfl, hbel⟩
 ·have H1 := Lib.hid h1
  have H2 := Lib.hid h2
  have g3 : (tk.size : Int) < 1 := by omega
  clear h1 h2 h3
  go_enter Tryz.func40, Tryz.ntmps40
  go_wp2_with fail
  refine (isNum_is true _ H1.out _).mono ?_
  rintro e w' ⟨rfl, rfl⟩
  go_wp2_with fail
  refine (isNum_is true _ H2.out _).mono ?_
  rintro e w' ⟨rfl, rfl⟩
  go_wp2_with fail
  go_ret
  exact ⟨rfl, hbel⟩
 ·have H1 := Lib.hid h1
  have H2 := Lib.hid h2
  have g3 : ¬ ((tk.size : Int) < 1) := by omega
  have g4 : 16 < (tk.size : Int) := by omega
  clear h1 h2 h3 h4
  go_enter Tryz.func40, Tryz.ntmps40
  go_wp2_with fail
  refine (isNum_is true _ H1.out _).mono ?_
  rintro e w' ⟨rfl, rfl⟩
  go_wp2_with fail
  refine (isNum_is true _ H2.out _).mono ?_
  rintro e w' ⟨rfl, rfl⟩
  go_wp2_with fail
  go_ret
  exact ⟨rfl, hbel⟩
 ·have H1 := Lib.hid h1
  have H2 := Lib.hid h2
  have g3 : ¬ ((tk.size : Int) < 1) := by omega
  have g4 : ¬ (16 < (tk.size : Int)) := by omega
  have g5 : 32 < (tv.size : Int) := by omega
  clear h1 h2 h3 h4 h5
  go_enter Tryz.func40, Tryz.ntmps40
  go_wp2_with fail
  refine (isNum_is true _ H1.out _).mono ?_
  rintro e w' ⟨rfl, rfl⟩
  go_wp2_with fail
  refine (isNum_is true _ H2.out _).mono ?_
  rintro e w' ⟨rfl, rfl⟩
  go_wp2_with fail
  go_ret
  exact ⟨rfl, hbel⟩

theorem all_or_first : ∀ L : List TxD, L.all txB = true ∨ ∃ (k : Nat) (t : TxD), L[k]? = some t ∧ txB t = false ∧ ∀ (i : Nat) (u : TxD), i < k → L[i]? = some u → txB u = true
 | [] => .inl rfl
 | t :: L => by
  cases ht : txB t with
  | false => exact .inr ⟨0, t, rfl, ht, fun i u h => absurd h (by omega)⟩
  | true =>
   rcases all_or_first L with h | ⟨k, u, h1, h2, h3⟩
   ·exact .inl (by simp [ht, h])
   ·refine .inr ⟨k + 1, u, h1, h2, fun i x hi hx => ?_⟩
    cases i with
    | zero => simp only [List.getElem?_cons_zero, Option.some.injEq] at hx; rw [← hx]; exact ht
    | succ i => exact h3 i x (by omega) hx
theorem all_at {L : List TxD} {k : Nat} {t : TxD} (h : L.all txB = true) (hk : L[k]? = some t) : txB t = true := List.all_eq_true.1 h t (List.mem_of_getElem? hk)

set_option maxHeartbeats 2000000 in
theorem bcheck_yes (a N : Int) (A : Option Addr) (c n : Nat) (L : List TxD) (w : World) (h : batB a N L = true) (hz : L.length = n) (hr : Rd w A (txs L)) :
  Calls Tryz.prog 43 #[.agg #[.int .i64 a, .int .i64 N, .slice A n c]] w (Tells w.heap.size w (.int .i64 0)) := by
 have hbel := (Below.refl w.heap.size w).alloc (Nat.le_refl _) (.cells #[.int .i64 a, .int .i64 N, .slice A n c] 42)
 obtain ⟨⟨a1, a2⟩, h2, h3, h4, h5⟩ := batB_yes h
 rw [hz] at h3 h4
 have HZ := Lib.hid hz
 have H2 := Lib.hid h2
 have H5 := Lib.hid h5
 have g1 : ¬ (a < 1) := by omega
 have g2 : ¬ (16 < a) := by omega
 have g3 : ¬ ((n : Int) < 1) := by omega
 have g4 : ¬ (8 < (n : Int)) := by omega
 clear h hz h2 h5
 go_enter Tryz.func43, Tryz.ntmps43
 go_wp2_with fail
 refine (isNum_is true _ H2.out _).mono ?_
 rintro e w' ⟨rfl, rfl⟩
 go_wp2_with fail
 go_loopw [33] (fun i wr => ∃ k : Nat, i = .int .i64 k ∧ k ≤ n ∧ Below w.heap.size w wr) (fun i _ => n - (intOf i).toNat)
 case atStart => exact ⟨0, rfl, by omega, hbel⟩
 case round =>
  obtain ⟨k, rfl, hk, hb⟩ := hrel
  clear hbel
  by_cases hlt : k < n
  ·obtain ⟨b, off, ⟨ts, tq, tk, tv⟩, rfl, hbl, hat, c0, c1, c2, c3⟩ := (hr.below hb).tx (i := k) (by rw [HZ.out]; exact hlt)
   simp only at c0 c1 c2 c3
   have i0 : (0 : Int) ≤ (k : Int) := by omega
   have i1 : (k : Int) < (n : Int) := by omega
   have HT := Lib.hid (all_at H5.out hat)
   clear hat
   go_wp2_with fail
   refine (btx_yes ⟨ts, tq, tk, tv⟩ _ HT.out).mono ?_
   rintro e w1 ⟨rfl, hb1⟩
   have hb2 := (hb.alloc hb.size (.cells #[.int .i64 ts, .int .i64 tq, .string tk, .string tv] 40)).trans (hb1.mono (by have := hb.size; simp; omega))
   clear hb1 hb
   go_wp2_with fail
   go_roundw
   case rel => exact ⟨k + 1, by go_num, by omega, hb2⟩
   case measure => simp [intOf]; omega
  ·have i1 : ¬ ((k : Int) < (n : Int)) := by omega
   go_wp2_with fail
   go_ret
   exact ⟨rfl, hb⟩

set_option maxHeartbeats 2000000 in
theorem bcheck_no (a N : Int) (A : Option Addr) (c n : Nat) (L : List TxD) (w : World) (h : batB a N L = false) (hz : L.length = n) (hr : Rd w A (txs L)) :
  Calls Tryz.prog 43 #[.agg #[.int .i64 a, .int .i64 N, .slice A n c]] w (Tells w.heap.size w (.int .i64 1)) := by
 have hbel := (Below.refl w.heap.size w).alloc (Nat.le_refl _) (.cells #[.int .i64 a, .int .i64 N, .slice A n c] 42)
 have hno := batB_no h
 rw [hz] at hno
 have HZ := Lib.hid hz
 clear h hz
 rcases hno with a1 | ⟨a1, a2⟩ | ⟨⟨a1, a2⟩, h2⟩ | ⟨⟨a1, a2⟩, h2, h3⟩ | ⟨⟨a1, a2⟩, h2, h3, h4⟩ | ⟨⟨a1, a2⟩, h2, h3, h4, h5⟩
 ·go_enter Tryz.func43, Tryz.ntmps43
  go_wp2_with fail
  go_ret
  exact ⟨rfl, hbel⟩
 ·have g1 : ¬ (a < 1) := by omega
  go_enter Tryz.func43, Tryz.ntmps43
  go_wp2_with fail
  go_ret
  exact ⟨rfl, hbel⟩
 ·have H2 := Lib.hid h2
  have g1 : ¬ (a < 1) := by omega
  have g2 : ¬ (16 < a) := by omega
  clear h2
  go_enter Tryz.func43, Tryz.ntmps43
  go_wp2_with fail
  refine (isNum_is false _ H2.out _).mono ?_
  rintro e w' ⟨rfl, rfl⟩
  go_wp2_with fail
  go_ret
  exact ⟨rfl, hbel⟩
 ·have H2 := Lib.hid h2
  have g1 : ¬ (a < 1) := by omega
  have g2 : ¬ (16 < a) := by omega
  have g3 : (n : Int) < 1 := by omega
  clear h2 h3
  go_enter Tryz.func43, Tryz.ntmps43
  go_wp2_with fail
  refine (isNum_is true _ H2.out _).mono ?_
  rintro e w' ⟨rfl, rfl⟩
  go_wp2_with fail
  go_ret
  exact ⟨rfl, hbel⟩
 ·have H2 := Lib.hid h2
  have g1 : ¬ (a < 1) := by omega
  have g2 : ¬ (16 < a) := by omega
  have g3 : ¬ ((n : Int) < 1) := by omega
  have g4 : 8 < (n : Int) := by omega
  clear h2 h3 h4
  go_enter Tryz.func43, Tryz.ntmps43
  go_wp2_with fail
  refine (isNum_is true _ H2.out _).mono ?_
  rintro e w' ⟨rfl, rfl⟩
  go_wp2_with fail
  go_ret
  exact ⟨rfl, hbel⟩
 ·have H2 := Lib.hid h2
  have g1 : ¬ (a < 1) := by omega
  have g2 : ¬ (16 < a) := by omega
  have g3 : ¬ ((n : Int) < 1) := by omega
  have g4 : ¬ (8 < (n : Int)) := by omega
  obtain ⟨q, tb, hq, htb, hfirst⟩ : ∃ (q : Nat) (tb : TxD), L[q]? = some tb ∧ txB tb = false ∧ ∀ (i : Nat) (u : TxD), i < q → L[i]? = some u → txB u = true := by
   rcases all_or_first L with h | h
   ·rw [h5] at h; cases h
   ·exact h
  have hql : q < n := by
   rw [← HZ.out]
   rcases Nat.lt_or_ge q L.length with h' | h'
   ·exact h'
   ·rw [List.getElem?_eq_none h'] at hq; cases hq
  have HQ := Lib.hid hq
  have HTB := Lib.hid htb
  have HF := Lib.hid hfirst
  clear h2 h5 hq htb hfirst
  go_enter Tryz.func43, Tryz.ntmps43
  go_wp2_with fail
  refine (isNum_is true _ H2.out _).mono ?_
  rintro e w' ⟨rfl, rfl⟩
  go_wp2_with fail
  go_loopw [33] (fun i wr => ∃ k : Nat, i = .int .i64 k ∧ k ≤ q ∧ Below w.heap.size w wr) (fun i _ => n - (intOf i).toNat)
  case atStart => exact ⟨0, rfl, by omega, hbel⟩
  case round =>
   obtain ⟨k, rfl, hk, hb⟩ := hrel
   clear hbel
   have hlt : k < n := by omega
   obtain ⟨b, off, ⟨ts, tq, tk, tv⟩, rfl, hbl, hat, c0, c1, c2, c3⟩ := (hr.below hb).tx (i := k) (by rw [HZ.out]; exact hlt)
   simp only at c0 c1 c2 c3
   have i0 : (0 : Int) ≤ (k : Int) := by omega
   have i1 : (k : Int) < (n : Int) := by omega
   by_cases hkq : k = q
   ·have HT : Hid (txB ⟨ts, tq, tk, tv⟩ = false) := by
     show txB ⟨ts, tq, tk, tv⟩ = false
     have h1 := HQ.out
     rw [← hkq, hat, Option.some.injEq] at h1
     rw [h1]; exact HTB.out
    clear hat hkq
    go_wp2_with fail
    refine (btx_no ⟨ts, tq, tk, tv⟩ _ HT.out).mono ?_
    rintro e w1 ⟨rfl, hb1⟩
    have hb2 := (hb.alloc hb.size (.cells #[.int .i64 ts, .int .i64 tq, .string tk, .string tv] 40)).trans (hb1.mono (by have := hb.size; simp; omega))
    clear hb1 hb
    go_wp2_with fail
    go_ret
    exact ⟨rfl, hb2⟩
   ·have HT := Lib.hid (HF.out k _ (by omega) hat)
    clear hat
    go_wp2_with fail
    refine (btx_yes ⟨ts, tq, tk, tv⟩ _ HT.out).mono ?_
    rintro e w1 ⟨rfl, hb1⟩
    have hb2 := (hb.alloc hb.size (.cells #[.int .i64 ts, .int .i64 tq, .string tk, .string tv] 40)).trans (hb1.mono (by have := hb.size; simp; omega))
    clear hb1 hb
    go_wp2_with fail
    go_roundw
    case rel => exact ⟨k + 1, by go_num, by omega, hb2⟩
    case measure => simp [intOf]; omega

end Go.Proofs.YteepobghdpnabaaGreat
namespace Go.Proofs.YteepobghdpnabaaGreat
open Go.RowKit

/-! ### nothing beside -/
theorem size_mes : (Tryz.prog.info? 48).map (·.size) = some 18 := by kernel_rfl
/-! ### hasForm -/
/-! ### Check -/
end Go.Proofs.YteepobghdpnabaaGreat
namespace Go.Proofs.YteepobghdpnabaaGreat
open Go.RowKit

theorem wpQuiet_load_midZ {P : Program} {ops : Array Oper} {C : World → Prop} {Q : Act → Prop} {o : Oper} {rest : List Oper} {a : Act} (ty : TypeId) (x : Operand) (ho : o.op = .load ty x) (b off : Nat) (hx : a.eval x = .pointer (some ⟨b, off, none⟩))
  (hw : Region.wanted o (yielded ops a.tmps) = true) (cs : List Value) (d : TypeDesc) (hc : ∀ w', C w' → w'.rangeAt b off cs) (hu : P.underlying ty = some d) (hd : d.isRow = true) (hi : (P.info? ty).map (·.size) = some cs.length)
  (h : wpQuiet P ops C Q rest (a.put o.dst (.agg cs.toArray))) : wpQuiet P ops C Q (o :: rest) a := by
 rw [wpQuiet, if_pos hw]
 refine ⟨.agg cs.toArray, fun w hC => ?_, h⟩
 unfold Oper.quietAt execOp
 simp only [ho, hx, Instr.loadAt, Instr.sureAddr, Sem.run_bind, Sem.run_pure, Result.andThen_ok, run_loadVar_mid w b off ty cs d (hc w hC) hu hd hi]
 exact ⟨rfl, rfl⟩

set_option maxHeartbeats 4000000 in
theorem reqWait_is (b : Bool) (x y : WtD) (o o' : Ad) (w : World) (h : decide (x = y) = b) (hi : SlIn w o x.S.length (i64s x.S)) (hi' : SlIn w o' y.S.length (i64s y.S)) (hn : x.S.length ≤ 1000000) (hn' : y.S.length ≤ 1000000) :
  Calls Tryz.prog 116 #[.agg #[.int .i64 x.d, .slice o.A o.n o.c], .agg #[.int .i64 y.d, .slice o'.A o'.n o'.c]] w (Tells w.heap.size w (.bool b)) := by
 obtain ⟨w2, hw2⟩ : ∃ w2, w2 = (w.alloc (.cells #[.int .i64 x.d, .slice o.A o.n o.c] 56)).alloc (.cells #[.int .i64 y.d, .slice o'.A o'.n o'.c] 56) := ⟨_, rfl⟩
 have hb2 : Below w.heap.size w w2 := by rw [hw2]; exact ((Below.refl _ _).alloc (Nat.le_refl _) _).alloc (by simp) _
 have bx : Box w2 w.heap.size [.int .i64 x.d, .slice o.A o.n o.c] := by rw [hw2]; exact (box_new w [.int .i64 x.d, .slice o.A o.n o.c] 56).below ((Below.refl _ _).alloc (Nat.le_refl _) _) (by simp)
 have by_ : Box w2 (w.heap.size + 1) [.int .i64 y.d, .slice o'.A o'.n o'.c] := by
  rw [hw2]
  have h := box_new (w.alloc (.cells #[.int .i64 x.d, .slice o.A o.n o.c] 56)) [.int .i64 y.d, .slice o'.A o'.n o'.c] 56
  have e : (w.alloc (.cells #[.int .i64 x.d, .slice o.A o.n o.c] 56)).heap.size = w.heap.size + 1 := by simp
  rw [e] at h
  exact h
 have x0 := (bx.2 0 _ rfl).1
 have y0 := (by_.2 0 _ rfl).1
 have x1 := (bx.2 1 _ rfl).1
 have y1 := (by_.2 1 _ rfl).1
 have hl := hi.len
 have hl' := hi'.len
 have HI := Lib.hid (hi.below hb2)
 have HI' := Lib.hid (hi'.below hb2)
 have HW := Lib.hid hw2
 have HH := Lib.hid h
 clear hw2 bx by_ hi hi' h
 by_cases hd : x.d = y.d
 ·have j0 : (x.d == y.d) = true := by simp [hd]
  have HV : Hid (decide (x.S = y.S) = b) := by
   show _ = b
   rw [← HH.out, decide_eq_decide]
   cases x; cases y
   simp only at hd
   subst hd
   simp
  clear hd
  go_enter Tryz.func116, Tryz.ntmps116
  go_upto_region 1 with fail
  rw [← HW.out]
  go_wp2_with fail
  refine (eqNumbers_any o.A o'.A o.c o'.c o.n o'.n x.S y.S _ HI.out.len HI'.out.len HI.out.rd HI'.out.rd (by omega) (by omega)).mono ?_
  rintro e w3 ⟨rfl, d, rfl⟩
  rw [HV.out]
  go_wp2_with fail
  go_ret
  exact ⟨rfl, below_n hb2 _⟩
 ·have j0 : (x.d == y.d) = false := by simp [hd]
  have HV : Hid (b = false) := by
   show b = false
   rw [← HH.out, decide_eq_false_iff_not]
   exact fun e => hd (by rw [e])
  clear hd
  go_enter Tryz.func116, Tryz.ntmps116
  go_upto_region 1 with fail
  rw [← HW.out]
  go_wp2_with fail
  go_ret
  exact ⟨ret_bool HV.out.symm, hb2⟩

set_option maxHeartbeats 4000000 in
theorem reqHeld_is (b : Bool) (x y : HlD) (o o' : Ad) (w : World) (h : decide (x = y) = b) (hi : SlIn w o x.L.length (txs x.L)) (hi' : SlIn w o' y.L.length (txs y.L)) (hn : x.L.length ≤ 1000000) (hn' : y.L.length ≤ 1000000) :
  Calls Tryz.prog 117 #[.agg #[.int .i64 x.d, .int .i64 x.a, .int .i64 x.n, .slice o.A o.n o.c], .agg #[.int .i64 y.d, .int .i64 y.a, .int .i64 y.n, .slice o'.A o'.n o'.c]] w (Tells w.heap.size w (.bool b)) := by
 obtain ⟨w2, hw2⟩ : ∃ w2, w2 = (w.alloc (.cells #[.int .i64 x.d, .int .i64 x.a, .int .i64 x.n, .slice o.A o.n o.c] 70)).alloc (.cells #[.int .i64 y.d, .int .i64 y.a, .int .i64 y.n, .slice o'.A o'.n o'.c] 70) := ⟨_, rfl⟩
 have hb2 : Below w.heap.size w w2 := by rw [hw2]; exact ((Below.refl _ _).alloc (Nat.le_refl _) _).alloc (by simp) _
 have bx : Box w2 w.heap.size [.int .i64 x.d, .int .i64 x.a, .int .i64 x.n, .slice o.A o.n o.c] := by rw [hw2]; exact (box_new w [.int .i64 x.d, .int .i64 x.a, .int .i64 x.n, .slice o.A o.n o.c] 70).below ((Below.refl _ _).alloc (Nat.le_refl _) _) (by simp)
 have by_ : Box w2 (w.heap.size + 1) [.int .i64 y.d, .int .i64 y.a, .int .i64 y.n, .slice o'.A o'.n o'.c] := by
  rw [hw2]
  have h := box_new (w.alloc (.cells #[.int .i64 x.d, .int .i64 x.a, .int .i64 x.n, .slice o.A o.n o.c] 70)) [.int .i64 y.d, .int .i64 y.a, .int .i64 y.n, .slice o'.A o'.n o'.c] 70
  have e : (w.alloc (.cells #[.int .i64 x.d, .int .i64 x.a, .int .i64 x.n, .slice o.A o.n o.c] 70)).heap.size = w.heap.size + 1 := by simp
  rw [e] at h
  exact h
 have x0 := (bx.2 0 _ rfl).1
 have y0 := (by_.2 0 _ rfl).1
 have x1 := (bx.2 1 _ rfl).1
 have y1 := (by_.2 1 _ rfl).1
 have x2 := (bx.2 2 _ rfl).1
 have y2 := (by_.2 2 _ rfl).1
 have x3 := (bx.2 3 _ rfl).1
 have y3 := (by_.2 3 _ rfl).1
 have hl := hi.len
 have hl' := hi'.len
 have HI := Lib.hid (hi.below hb2)
 have HI' := Lib.hid (hi'.below hb2)
 have HW := Lib.hid hw2
 have HH := Lib.hid h
 clear hw2 bx by_ hi hi' h
 by_cases hd : x.d = y.d
 ·have j0 : (x.d == y.d) = true := by simp [hd]
  have HV : Hid (decide (x.a = y.a ∧ x.n = y.n ∧ x.L = y.L) = b) := by
   show _ = b
   rw [← HH.out, decide_eq_decide]
   cases x; cases y
   simp only at hd
   subst hd
   simp
  clear hd
  go_enter Tryz.func117, Tryz.ntmps117
  go_upto_region 1 with fail
  rw [← HW.out]
  go_wp2_with fail
  refine (reqBat_is b x.a x.n o.A o.c o.n x.L y.a y.n o'.A o'.c o'.n y.L _ HV.out HI.out.len HI.out.rd (by omega) HI'.out.len HI'.out.rd (by omega)).mono ?_
  rintro e w3 ⟨rfl, hb3⟩
  go_wp2_with fail
  go_ret
  exact ⟨rfl, hb2.trans (hb3.mono hb2.size)⟩
 ·have j0 : (x.d == y.d) = false := by simp [hd]
  have HV : Hid (b = false) := by
   show b = false
   rw [← HH.out, decide_eq_false_iff_not]
   exact fun e => hd (by rw [e])
  clear hd
  go_enter Tryz.func117, Tryz.ntmps117
  go_upto_region 1 with fail
  rw [← HW.out]
  go_wp2_with fail
  go_ret
  exact ⟨ret_bool HV.out.symm, hb2⟩

set_option maxRecDepth 100000 in
set_option maxHeartbeats 8000000 in
theorem reqWaits_is (b : Bool) (a a' : Ad) (ms ms' : List (WtD × Ad)) (w : World) (h : decide (ms.map Prod.fst = ms'.map Prod.fst) = b) (hi : RowIn KW w a ms) (hi' : RowIn KW w a' ms') (hn : ms.length ≤ 1000000) (hn' : ms'.length ≤ 1000000) (hs : ∀ x ∈ ms, KW.len x.1 ≤ 1000000) (hs' : ∀ x ∈ ms', KW.len x.1 ≤ 1000000) :
  Calls Tryz.prog 82 #[a.v, a'.v] w (Tells w.heap.size w (.bool b)) := by
 obtain ⟨A, n, c⟩ := a
 obtain ⟨A', n', c'⟩ := a'
 have hz : ms.length = n := hi.row.len
 have hz' : ms'.length = n' := hi'.row.len
 have HB := Lib.hid h
 unfold Ad.v
 have hn2 : n ≤ 1000000 := by omega
 have hn2' : n' ≤ 1000000 := by omega
 by_cases hnn : n = n'
 ·subst hnn
  have HZ := Lib.hid hz
  have HZ' := Lib.hid hz'
  have HR := Lib.hid hi
  have HR' := Lib.hid hi'
  have HS := Lib.hid hs
  have HS' := Lib.hid hs'
  clear hz hz' hi hi' hs hs' h hn hn' hn2'
  go_enter Tryz.func82, Tryz.ntmps82
  go_wp2_with fail
  go_loopw [5] (fun i wr => ∃ k : Nat, i = .int .i64 k ∧ k ≤ n ∧ Below w.heap.size w wr ∧ Hid ((ms.map Prod.fst).take k = (ms'.map Prod.fst).take k)) (fun i _ => n - (intOf i).toNat)
  case atStart => exact ⟨0, rfl, by omega, Below.refl _ _, rfl⟩
  case round =>
   obtain ⟨k, rfl, hk, hb, HE⟩ := hrel
   have i0 : (0 : Int) ≤ (k : Int) := by omega
   by_cases hlt : k < n
   ·have i1 : (k : Int) < (n : Int) := by omega
    obtain ⟨x, hx⟩ : ∃ x, ms[k]? = some x := ⟨ms[k]'(by rw [HZ.out]; exact hlt), by simp⟩
    obtain ⟨y, hy⟩ : ∃ y, ms'[k]? = some y := ⟨ms'[k]'(by rw [HZ'.out]; exact hlt), by simp⟩
    obtain ⟨bq, off, rfl, hbl, hcl⟩ := (HR.out.row.rd.below hb).open_ (by rw [cellsK_length, HZ.out]; show 0 < n * 2; omega)
    obtain ⟨bq', off', rfl, hbl', hcl'⟩ := (HR'.out.row.rd.below hb).open_ (by rw [cellsK_length, HZ'.out]; show 0 < n * 2; omega)
    have hce := fun j v hv => hcl (k * 2 + j) v (cellsK_at KW hx (j := j) (v := v) hv)
    have hce' := fun j v hv => hcl' (k * 2 + j) v (cellsK_at KW hy (j := j) (v := v) hv)
    have HCE : Hid (∀ z : Calm wr, z.val.rangeAt bq (off + k * 2) (KW.cells x.1 x.2.v)) := fun z j v hv => by
     rw [z.ok.cell (p := ⟨bq, off + k * 2 + j, none⟩) hbl, Nat.add_assoc]
     exact hce j v hv
    have HCE' : Hid (∀ z : Calm wr, z.val.rangeAt bq' (off' + k * 2) (KW.cells y.1 y.2.v)) := fun z j v hv => by
     rw [z.ok.cell (p := ⟨bq', off' + k * 2 + j, none⟩) hbl', Nat.add_assoc]
     exact hce' j v hv
    have hm1 := List.mem_of_getElem? hx
    have hm2 := List.mem_of_getElem? hy
    have HX := Lib.hid ((HR.out.sub x hm1).below hb)
    have HY := Lib.hid ((HR'.out.sub y hm2).below hb)
    have HXN : Hid (KW.len x.1 ≤ 1000000) := HS.out x hm1
    have HYN : Hid (KW.len y.1 ≤ 1000000) := HS'.out y hm2
    have h1 : (ms.map Prod.fst)[k]? = some x.1 := by rw [List.getElem?_map, hx]; rfl
    have h2 : (ms'.map Prod.fst)[k]? = some y.1 := by rw [List.getElem?_map, hy]; rfl
    obtain ⟨B, hB⟩ : ∃ B, decide (x.1 = y.1) = B := ⟨_, rfl⟩
    have HBB : Hid ((B = true → (ms.map Prod.fst).take (k + 1) = (ms'.map Prod.fst).take (k + 1)) ∧ (B = false → decide (ms.map Prod.fst = ms'.map Prod.fst) = false)) := by
     constructor
     ·intro hB2
      rw [hB2, decide_eq_true_eq] at hB
      rw [take_nxt h1, take_nxt h2, HE.out, hB]
     ·intro hB2
      rw [hB2, decide_eq_false_iff_not] at hB
      rw [decide_eq_false_iff_not]
      intro h
      rw [h, h2] at h1
      simp only [Option.some.injEq] at h1
      exact hB h1.symm
    have hcall : ∀ z : Calm wr, Calls Tryz.prog 116 #[.agg #[.int .i64 x.1.d, .slice x.2.A x.2.n x.2.c], .agg #[.int .i64 y.1.d, .slice y.2.A y.2.n y.2.c]] z.val (Tells z.val.heap.size z.val (.bool B)) := fun z => reqWait_is B x.1 y.1 x.2 y.2 z.val hB (HX.out.below z.ok) (HY.out.below z.ok) HXN.out HYN.out
    have HCALL := Lib.hid hcall
    clear hcl hcl' hce hce' hm1 hm2 hx hy h1 h2 hB hcall hbl hbl'
    go_upto_region 6 with fail
    refine wp_region_calm (by kernel_rfl) (by kernel_rfl) ?_
    repeat (go_big_quiet_step (fail))
    refine wpQuiet_load_midZ 56 _ rfl bq (off + k * 2) rfl rfl (KW.cells x.1 x.2.v) _ (fun w' hx => by obtain ⟨z, rfl⟩ := hx; exact HCE.out z) Tryz.underlying56 rfl size_wait ?_
    simp only [Act.put, List.setIfInBounds_toArray, List.set_cons_succ, List.set_cons_zero]
    repeat (go_big_quiet_step (fail))
    refine wpQuiet_load_midZ 56 _ rfl bq' (off' + k * 2) rfl rfl (KW.cells y.1 y.2.v) _ (fun w' hx => by obtain ⟨z, rfl⟩ := hx; exact HCE'.out z) Tryz.underlying56 rfl size_wait ?_
    simp only [Act.put, List.setIfInBounds_toArray, List.set_cons_succ, List.set_cons_zero]
    repeat (go_big_quiet_step (first
     | (go_at_call 116; exact calm_tells (HCALL.out _))))
    refine wpQuiet_nil ?_
    rintro _ ⟨z, rfl⟩
    have hb5 : Below w.heap.size w z.val := hb.trans (z.ok.mono hb.size)
    obtain ⟨w3, hw3⟩ : ∃ w3, w3 = z.val := ⟨_, rfl⟩
    rw [← hw3] at hb5 ⊢
    clear hw3 HCE HCE' HCALL z
    cases B with
    | true =>
     have H1 := Lib.hid (HBB.out.1 rfl)
     clear HBB
     go_wp2_with fail
     go_roundw
     case rel => exact ⟨k + 1, by go_num, by omega, hb5, H1⟩
     case measure => simp [intOf]; omega
    | false =>
     have H2 : Hid (b = false) := HB.out.symm.trans (HBB.out.2 rfl)
     clear HBB
     go_wp2_with fail
     go_ret
     exact ⟨ret_bool H2.out.symm, hb5⟩
   ·have i1 : ¬ ((k : Int) < (n : Int)) := by omega
    have HT : Hid (b = true) := by
     show b = true
     rw [← HB.out, decide_eq_true_eq]
     have h := HE.out
     have h1 := HZ.out
     have h2 := HZ'.out
     rwa [List.take_of_length_le (by rw [List.length_map]; omega), List.take_of_length_le (by rw [List.length_map]; omega)] at h
    go_wp2_with fail
    go_ret
    exact ⟨ret_bool HT.out.symm, hb⟩
 ·have i1 : ((n : Int) != (n' : Int)) = true := by simp; omega
  have HV : Hid (b = false) := by
   show b = false
   rw [← HB.out, decide_eq_false_iff_not]
   intro h
   have := congrArg List.length h
   rw [List.length_map, List.length_map] at this
   omega
  clear hz hz' hi hi' hs hs' h hn hn'
  go_enter Tryz.func82, Tryz.ntmps82
  go_wp2_with fail
  go_ret
  exact ⟨ret_bool HV.out.symm, Below.refl _ _⟩

set_option maxRecDepth 100000 in
set_option maxHeartbeats 8000000 in
theorem reqHelds_is (b : Bool) (a a' : Ad) (ms ms' : List (HlD × Ad)) (w : World) (h : decide (ms.map Prod.fst = ms'.map Prod.fst) = b) (hi : RowIn KH w a ms) (hi' : RowIn KH w a' ms') (hn : ms.length ≤ 1000000) (hn' : ms'.length ≤ 1000000) (hs : ∀ x ∈ ms, KH.len x.1 ≤ 1000000) (hs' : ∀ x ∈ ms', KH.len x.1 ≤ 1000000) :
  Calls Tryz.prog 83 #[a.v, a'.v] w (Tells w.heap.size w (.bool b)) := by
 obtain ⟨A, n, c⟩ := a
 obtain ⟨A', n', c'⟩ := a'
 have hz : ms.length = n := hi.row.len
 have hz' : ms'.length = n' := hi'.row.len
 have HB := Lib.hid h
 unfold Ad.v
 have hn2 : n ≤ 1000000 := by omega
 have hn2' : n' ≤ 1000000 := by omega
 by_cases hnn : n = n'
 ·subst hnn
  have HZ := Lib.hid hz
  have HZ' := Lib.hid hz'
  have HR := Lib.hid hi
  have HR' := Lib.hid hi'
  have HS := Lib.hid hs
  have HS' := Lib.hid hs'
  clear hz hz' hi hi' hs hs' h hn hn' hn2'
  go_enter Tryz.func83, Tryz.ntmps83
  go_wp2_with fail
  go_loopw [5] (fun i wr => ∃ k : Nat, i = .int .i64 k ∧ k ≤ n ∧ Below w.heap.size w wr ∧ Hid ((ms.map Prod.fst).take k = (ms'.map Prod.fst).take k)) (fun i _ => n - (intOf i).toNat)
  case atStart => exact ⟨0, rfl, by omega, Below.refl _ _, rfl⟩
  case round =>
   obtain ⟨k, rfl, hk, hb, HE⟩ := hrel
   have i0 : (0 : Int) ≤ (k : Int) := by omega
   by_cases hlt : k < n
   ·have i1 : (k : Int) < (n : Int) := by omega
    obtain ⟨x, hx⟩ : ∃ x, ms[k]? = some x := ⟨ms[k]'(by rw [HZ.out]; exact hlt), by simp⟩
    obtain ⟨y, hy⟩ : ∃ y, ms'[k]? = some y := ⟨ms'[k]'(by rw [HZ'.out]; exact hlt), by simp⟩
    obtain ⟨bq, off, rfl, hbl, hcl⟩ := (HR.out.row.rd.below hb).open_ (by rw [cellsK_length, HZ.out]; show 0 < n * 4; omega)
    obtain ⟨bq', off', rfl, hbl', hcl'⟩ := (HR'.out.row.rd.below hb).open_ (by rw [cellsK_length, HZ'.out]; show 0 < n * 4; omega)
    have hce := fun j v hv => hcl (k * 4 + j) v (cellsK_at KH hx (j := j) (v := v) hv)
    have hce' := fun j v hv => hcl' (k * 4 + j) v (cellsK_at KH hy (j := j) (v := v) hv)
    have HCE : Hid (∀ z : Calm wr, z.val.rangeAt bq (off + k * 4) (KH.cells x.1 x.2.v)) := fun z j v hv => by
     rw [z.ok.cell (p := ⟨bq, off + k * 4 + j, none⟩) hbl, Nat.add_assoc]
     exact hce j v hv
    have HCE' : Hid (∀ z : Calm wr, z.val.rangeAt bq' (off' + k * 4) (KH.cells y.1 y.2.v)) := fun z j v hv => by
     rw [z.ok.cell (p := ⟨bq', off' + k * 4 + j, none⟩) hbl', Nat.add_assoc]
     exact hce' j v hv
    have hm1 := List.mem_of_getElem? hx
    have hm2 := List.mem_of_getElem? hy
    have HX := Lib.hid ((HR.out.sub x hm1).below hb)
    have HY := Lib.hid ((HR'.out.sub y hm2).below hb)
    have HXN : Hid (KH.len x.1 ≤ 1000000) := HS.out x hm1
    have HYN : Hid (KH.len y.1 ≤ 1000000) := HS'.out y hm2
    have h1 : (ms.map Prod.fst)[k]? = some x.1 := by rw [List.getElem?_map, hx]; rfl
    have h2 : (ms'.map Prod.fst)[k]? = some y.1 := by rw [List.getElem?_map, hy]; rfl
    obtain ⟨B, hB⟩ : ∃ B, decide (x.1 = y.1) = B := ⟨_, rfl⟩
    have HBB : Hid ((B = true → (ms.map Prod.fst).take (k + 1) = (ms'.map Prod.fst).take (k + 1)) ∧ (B = false → decide (ms.map Prod.fst = ms'.map Prod.fst) = false)) := by
     constructor
     ·intro hB2
      rw [hB2, decide_eq_true_eq] at hB
      rw [take_nxt h1, take_nxt h2, HE.out, hB]
     ·intro hB2
      rw [hB2, decide_eq_false_iff_not] at hB
      rw [decide_eq_false_iff_not]
      intro h
      rw [h, h2] at h1
      simp only [Option.some.injEq] at h1
      exact hB h1.symm
    have hcall : ∀ z : Calm wr, Calls Tryz.prog 117 #[.agg #[.int .i64 x.1.d, .int .i64 x.1.a, .int .i64 x.1.n, .slice x.2.A x.2.n x.2.c], .agg #[.int .i64 y.1.d, .int .i64 y.1.a, .int .i64 y.1.n, .slice y.2.A y.2.n y.2.c]] z.val (Tells z.val.heap.size z.val (.bool B)) := fun z => reqHeld_is B x.1 y.1 x.2 y.2 z.val hB (HX.out.below z.ok) (HY.out.below z.ok) HXN.out HYN.out
    have HCALL := Lib.hid hcall
    clear hcl hcl' hce hce' hm1 hm2 hx hy h1 h2 hB hcall hbl hbl'
    go_upto_region 6 with fail
    refine wp_region_calm (by kernel_rfl) (by kernel_rfl) ?_
    repeat (go_big_quiet_step (fail))
    refine wpQuiet_load_midZ 70 _ rfl bq (off + k * 4) rfl rfl (KH.cells x.1 x.2.v) _ (fun w' hx => by obtain ⟨z, rfl⟩ := hx; exact HCE.out z) Tryz.underlying70 rfl size_held ?_
    simp only [Act.put, List.setIfInBounds_toArray, List.set_cons_succ, List.set_cons_zero]
    repeat (go_big_quiet_step (fail))
    refine wpQuiet_load_midZ 70 _ rfl bq' (off' + k * 4) rfl rfl (KH.cells y.1 y.2.v) _ (fun w' hx => by obtain ⟨z, rfl⟩ := hx; exact HCE'.out z) Tryz.underlying70 rfl size_held ?_
    simp only [Act.put, List.setIfInBounds_toArray, List.set_cons_succ, List.set_cons_zero]
    repeat (go_big_quiet_step (first
     | (go_at_call 117; exact calm_tells (HCALL.out _))))
    refine wpQuiet_nil ?_
    rintro _ ⟨z, rfl⟩
    have hb5 : Below w.heap.size w z.val := hb.trans (z.ok.mono hb.size)
    obtain ⟨w3, hw3⟩ : ∃ w3, w3 = z.val := ⟨_, rfl⟩
    rw [← hw3] at hb5 ⊢
    clear hw3 HCE HCE' HCALL z
    cases B with
    | true =>
     have H1 := Lib.hid (HBB.out.1 rfl)
     clear HBB
     go_wp2_with fail
     go_roundw
     case rel => exact ⟨k + 1, by go_num, by omega, hb5, H1⟩
     case measure => simp [intOf]; omega
    | false =>
     have H2 : Hid (b = false) := HB.out.symm.trans (HBB.out.2 rfl)
     clear HBB
     go_wp2_with fail
     go_ret
     exact ⟨ret_bool H2.out.symm, hb5⟩
   ·have i1 : ¬ ((k : Int) < (n : Int)) := by omega
    have HT : Hid (b = true) := by
     show b = true
     rw [← HB.out, decide_eq_true_eq]
     have h := HE.out
     have h1 := HZ.out
     have h2 := HZ'.out
     rwa [List.take_of_length_le (by rw [List.length_map]; omega), List.take_of_length_le (by rw [List.length_map]; omega)] at h
    go_wp2_with fail
    go_ret
    exact ⟨ret_bool HT.out.symm, hb⟩
 ·have i1 : ((n : Int) != (n' : Int)) = true := by simp; omega
  have HV : Hid (b = false) := by
   show b = false
   rw [← HB.out, decide_eq_false_iff_not]
   intro h
   have := congrArg List.length h
   rw [List.length_map, List.length_map] at this
   omega
  clear hz hz' hi hi' hs hs' h hn hn'
  go_enter Tryz.func83, Tryz.ntmps83
  go_wp2_with fail
  go_ret
  exact ⟨ret_bool HV.out.symm, Below.refl _ _⟩

def OtD.m (x : OtD) : MsgD := { zeroM with k := x.k, f := x.f, t := x.t, d := x.d, ba := x.a, bn := x.n, L := x.L }
def Ad.m (o : Ad) : MsgA := { zeroA with AL := o.A, nL := o.n, cL := o.c }
theorem otd_m {x y : OtD} : x.m = y.m ↔ x = y := by
 constructor
 ·intro h
  cases x; cases y
  simp [OtD.m] at h
  obtain ⟨h1, h2, h3, h4, h5, h6, h7⟩ := h
  subst h1; subst h2; subst h3; subst h4; subst h5; subst h6; subst h7
  rfl
 ·rintro rfl; rfl
theorem otIn {w : World} {x : OtD} {o : Ad} (h : SlIn w o x.L.length (txs x.L)) : MsgIn w x.m o.m := by
 have z := msgIn_zero w
 exact ⟨h.len, h.rd, h.cap, h.max, z.zhB, z.rhB, z.khB, z.xhB, z.zhP, z.rhP, z.khP, z.xhP, z.zcB, z.rcB, z.kcB, z.xcB, z.zcP, z.rcP, z.kcP, z.xcP, z.zcS, z.rcS, z.kcS, z.xcS, z.zD, z.rD, z.kD, z.xD⟩
theorem otFew {o : Ad} {s : Nat} (h : o.n ≤ s) : MsgFew s o.m := ⟨h, Nat.zero_le _, Nat.zero_le _, Nat.zero_le _, Nat.zero_le _, Nat.zero_le _, Nat.zero_le _⟩

set_option maxRecDepth 100000 in
set_option maxHeartbeats 8000000 in
theorem reqMessages_is (b : Bool) (a a' : Ad) (ms ms' : List (OtD × Ad)) (w : World) (h : decide (ms.map Prod.fst = ms'.map Prod.fst) = b) (hi : RowIn KM w a ms) (hi' : RowIn KM w a' ms') (hn : ms.length ≤ 1000000) (hn' : ms'.length ≤ 1000000) (hs : ∀ x ∈ ms, KM.len x.1 ≤ 1000000) (hs' : ∀ x ∈ ms', KM.len x.1 ≤ 1000000) :
  Calls Tryz.prog 67 #[a.v, a'.v] w (Tells w.heap.size w (.bool b)) := by
 obtain ⟨A, n, c⟩ := a
 obtain ⟨A', n', c'⟩ := a'
 have hz : ms.length = n := hi.row.len
 have hz' : ms'.length = n' := hi'.row.len
 have HB := Lib.hid h
 unfold Ad.v
 have hn2 : n ≤ 1000000 := by omega
 have hn2' : n' ≤ 1000000 := by omega
 by_cases hnn : n = n'
 ·subst hnn
  have HZ := Lib.hid hz
  have HZ' := Lib.hid hz'
  have HR := Lib.hid hi
  have HR' := Lib.hid hi'
  have HS := Lib.hid hs
  have HS' := Lib.hid hs'
  clear hz hz' hi hi' hs hs' h hn hn' hn2'
  go_enter Tryz.func67, Tryz.ntmps67
  go_wp2_with fail
  go_loopw [5] (fun i wr => ∃ k : Nat, i = .int .i64 k ∧ k ≤ n ∧ Below w.heap.size w wr ∧ Hid ((ms.map Prod.fst).take k = (ms'.map Prod.fst).take k)) (fun i _ => n - (intOf i).toNat)
  case atStart => exact ⟨0, rfl, by omega, Below.refl _ _, rfl⟩
  case round =>
   obtain ⟨k, rfl, hk, hb, HE⟩ := hrel
   have i0 : (0 : Int) ≤ (k : Int) := by omega
   by_cases hlt : k < n
   ·have i1 : (k : Int) < (n : Int) := by omega
    obtain ⟨x, hx⟩ : ∃ x, ms[k]? = some x := ⟨ms[k]'(by rw [HZ.out]; exact hlt), by simp⟩
    obtain ⟨y, hy⟩ : ∃ y, ms'[k]? = some y := ⟨ms'[k]'(by rw [HZ'.out]; exact hlt), by simp⟩
    obtain ⟨bq, off, rfl, hbl, hcl⟩ := (HR.out.row.rd.below hb).open_ (by rw [cellsK_length, HZ.out]; show 0 < n * 18; omega)
    obtain ⟨bq', off', rfl, hbl', hcl'⟩ := (HR'.out.row.rd.below hb).open_ (by rw [cellsK_length, HZ'.out]; show 0 < n * 18; omega)
    have hce := fun j v hv => hcl (k * 18 + j) v (cellsK_at KM hx (j := j) (v := v) hv)
    have hce' := fun j v hv => hcl' (k * 18 + j) v (cellsK_at KM hy (j := j) (v := v) hv)
    have HCE : Hid (∀ z : Calm wr, z.val.rangeAt bq (off + k * 18) (KM.cells x.1 x.2.v)) := fun z j v hv => by
     rw [z.ok.cell (p := ⟨bq, off + k * 18 + j, none⟩) hbl, Nat.add_assoc]
     exact hce j v hv
    have HCE' : Hid (∀ z : Calm wr, z.val.rangeAt bq' (off' + k * 18) (KM.cells y.1 y.2.v)) := fun z j v hv => by
     rw [z.ok.cell (p := ⟨bq', off' + k * 18 + j, none⟩) hbl', Nat.add_assoc]
     exact hce' j v hv
    have hm1 := List.mem_of_getElem? hx
    have hm2 := List.mem_of_getElem? hy
    have HX := Lib.hid ((HR.out.sub x hm1).below hb)
    have HY := Lib.hid ((HR'.out.sub y hm2).below hb)
    have HXN : Hid (KM.len x.1 ≤ 1000000) := HS.out x hm1
    have HYN : Hid (KM.len y.1 ≤ 1000000) := HS'.out y hm2
    have h1 : (ms.map Prod.fst)[k]? = some x.1 := by rw [List.getElem?_map, hx]; rfl
    have h2 : (ms'.map Prod.fst)[k]? = some y.1 := by rw [List.getElem?_map, hy]; rfl
    obtain ⟨B, hB⟩ : ∃ B, decide (x.1 = y.1) = B := ⟨_, rfl⟩
    have HBB : Hid ((B = true → (ms.map Prod.fst).take (k + 1) = (ms'.map Prod.fst).take (k + 1)) ∧ (B = false → decide (ms.map Prod.fst = ms'.map Prod.fst) = false)) := by
     constructor
     ·intro hB2
      rw [hB2, decide_eq_true_eq] at hB
      rw [take_nxt h1, take_nxt h2, HE.out, hB]
     ·intro hB2
      rw [hB2, decide_eq_false_iff_not] at hB
      rw [decide_eq_false_iff_not]
      intro h
      rw [h, h2] at h1
      simp only [Option.some.injEq] at h1
      exact hB h1.symm
    have hcall : ∀ z : Calm wr, Calls Tryz.prog 57 #[.agg #[.int .i64 x.1.k, .int .i64 x.1.f, .int .i64 x.1.t, .int .i64 x.1.d, .int .i64 x.1.a, .int .i64 x.1.n, .slice x.2.A x.2.n x.2.c, .int .i64 0, .int .i64 0, .slice none 0 0, .slice none 0 0, .int .i64 0, .int .i64 0, .slice none 0 0, .slice none 0 0, .int .i64 0, .slice none 0 0, .slice none 0 0], .agg #[.int .i64 y.1.k, .int .i64 y.1.f, .int .i64 y.1.t, .int .i64 y.1.d, .int .i64 y.1.a, .int .i64 y.1.n, .slice y.2.A y.2.n y.2.c, .int .i64 0, .int .i64 0, .slice none 0 0, .slice none 0 0, .int .i64 0, .int .i64 0, .slice none 0 0, .slice none 0 0, .int .i64 0, .slice none 0 0, .slice none 0 0]] z.val (Tells z.val.heap.size z.val (.bool B)) := fun z => reqMsg_is B x.1.m y.1.m x.2.m y.2.m z.val (by rw [← hB]; exact decide_eq_decide.2 otd_m) (otIn (HX.out.below z.ok)) (otIn (HY.out.below z.ok)) (otFew (by rw [← HX.out.len]; exact HXN.out)) (otFew (by rw [← HY.out.len]; exact HYN.out))
    have HCALL := Lib.hid hcall
    clear hcl hcl' hce hce' hm1 hm2 hx hy h1 h2 hB hcall hbl hbl'
    go_upto_region 6 with fail
    refine wp_region_calm (by kernel_rfl) (by kernel_rfl) ?_
    repeat (go_big_quiet_step (fail))
    refine wpQuiet_load_midZ 48 _ rfl bq (off + k * 18) rfl rfl (KM.cells x.1 x.2.v) _ (fun w' hx => by obtain ⟨z, rfl⟩ := hx; exact HCE.out z) Tryz.underlying48 rfl size_mes ?_
    simp only [Act.put, List.setIfInBounds_toArray, List.set_cons_succ, List.set_cons_zero]
    repeat (go_big_quiet_step (fail))
    refine wpQuiet_load_midZ 48 _ rfl bq' (off' + k * 18) rfl rfl (KM.cells y.1 y.2.v) _ (fun w' hx => by obtain ⟨z, rfl⟩ := hx; exact HCE'.out z) Tryz.underlying48 rfl size_mes ?_
    simp only [Act.put, List.setIfInBounds_toArray, List.set_cons_succ, List.set_cons_zero]
    repeat (go_big_quiet_step (first
     | (go_at_call 57; exact calm_tells (HCALL.out _))))
    refine wpQuiet_nil ?_
    rintro _ ⟨z, rfl⟩
    have hb5 : Below w.heap.size w z.val := hb.trans (z.ok.mono hb.size)
    obtain ⟨w3, hw3⟩ : ∃ w3, w3 = z.val := ⟨_, rfl⟩
    rw [← hw3] at hb5 ⊢
    clear hw3 HCE HCE' HCALL z
    cases B with
    | true =>
     have H1 := Lib.hid (HBB.out.1 rfl)
     clear HBB
     go_wp2_with fail
     go_roundw
     case rel => exact ⟨k + 1, by go_num, by omega, hb5, H1⟩
     case measure => simp [intOf]; omega
    | false =>
     have H2 : Hid (b = false) := HB.out.symm.trans (HBB.out.2 rfl)
     clear HBB
     go_wp2_with fail
     go_ret
     exact ⟨ret_bool H2.out.symm, hb5⟩
   ·have i1 : ¬ ((k : Int) < (n : Int)) := by omega
    have HT : Hid (b = true) := by
     show b = true
     rw [← HB.out, decide_eq_true_eq]
     have h := HE.out
     have h1 := HZ.out
     have h2 := HZ'.out
     rwa [List.take_of_length_le (by rw [List.length_map]; omega), List.take_of_length_le (by rw [List.length_map]; omega)] at h
    go_wp2_with fail
    go_ret
    exact ⟨ret_bool HT.out.symm, hb⟩
 ·have i1 : ((n : Int) != (n' : Int)) = true := by simp; omega
  have HV : Hid (b = false) := by
   show b = false
   rw [← HB.out, decide_eq_false_iff_not]
   intro h
   have := congrArg List.length h
   rw [List.length_map, List.length_map] at this
   omega
  clear hz hz' hi hi' hs hs' h hn hn'
  go_enter Tryz.func67, Tryz.ntmps67
  go_wp2_with fail
  go_ret
  exact ⟨ret_bool HV.out.symm, Below.refl _ _⟩

end Go.Proofs.YteepobghdpnabaaGreat
