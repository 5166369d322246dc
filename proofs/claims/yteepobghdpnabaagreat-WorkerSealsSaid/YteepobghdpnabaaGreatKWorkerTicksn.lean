/-
  Package header's looks at a header: lists of rising numbers, which headers may be, and Check.
-/
import Derived.BigRegion
import Derived.Deep.CutBlock
import Derived.Test.YteepobghdpnabaaGreatKWorkerTicksb
import Derived.Test.YteepobghdpnabaaGreatKWorkerTickse
import Derived.Test.YteepobghdpnabaaGreatKWorkerTicksd
import Derived.Test.YteepobghdpnabaaGreatKWorkerTicksc
import Derived.Test.YteepobghdpnabaaGreatKWorkerTicksh
import Derived.Test.YteepobghdpnabaaGreatKWorkerTicksa
namespace Go.Proofs.YteepobghdpnabaaGreat
open Go.RowKit

/-! ### rising numbers, on plain lists -/
/-- each above the one ahead of it, the first above m, none above most -/
def upB (m most : Int) : List Int → Bool
  | [] => true
  | x :: r => decide (m < x ∧ x ≤ most) && upB x most r
theorem upB_cons (m most x : Int) (r : List Int) : upB m most (x :: r) = (decide (m < x ∧ x ≤ most) && upB x most r) := rfl
theorem ris_head : ∀ {x : Int} {r : List Int}, risB (x :: r) = true → risB r = true ∧ ∀ y ∈ r, x < y
  | x, [], _ => ⟨rfl, fun y h => by simp at h⟩
  | x, z :: r, h => by
    rw [risB_cons, Bool.and_eq_true, decide_eq_true_eq] at h
    obtain ⟨h0, h1⟩ := h
    obtain ⟨_, h3⟩ := ris_head h1
    refine ⟨h1, fun y hy => ?_⟩
    rcases List.mem_cons.1 hy with rfl | hy
    · exact h0
    · have := h3 y hy; omega
theorem ris_of_head {x : Int} {r : List Int} (h : risB r = true) (h0 : ∀ y ∈ r, x < y) : risB (x :: r) = true := by
  cases r with
  | nil => rfl
  | cons z r => rw [risB_cons, Bool.and_eq_true, decide_eq_true_eq]; exact ⟨h0 z (by simp), h⟩
theorem upB_iff : ∀ {m most : Int} {l : List Int}, upB m most l = true ↔ (∀ x ∈ l, m < x ∧ x ≤ most) ∧ risB l = true
  | m, most, [] => ⟨fun _ => ⟨fun x h => by simp at h, rfl⟩, fun _ => rfl⟩
  | m, most, x :: r => by
    have ih := upB_iff (m := x) (most := most) (l := r)
    rw [upB_cons, Bool.and_eq_true, decide_eq_true_eq, ih]
    constructor
    · rintro ⟨⟨h0, h1⟩, h2, h3⟩
      refine ⟨fun y hy => ?_, ris_of_head h3 fun y hy => (h2 y hy).1⟩
      rcases List.mem_cons.1 hy with rfl | hy
      · exact ⟨h0, h1⟩
      · have := h2 y hy; omega
    · rintro ⟨h1, h2⟩
      obtain ⟨h3, h4⟩ := ris_head h2
      exact ⟨h1 x (by simp), fun y hy => ⟨h4 y hy, (h1 y (by simp [hy])).2⟩, h3⟩
theorem upB_ris {most : Int} {l : List Int} : upB 0 most l = (betB 1 most l && risB l) := by
  have h : upB 0 most l = true ↔ (betB 1 most l && risB l) = true := by
    rw [upB_iff, Bool.and_eq_true, betB_iff]
    exact ⟨fun ⟨a, b⟩ => ⟨fun x hx => by have := a x hx; omega, b⟩, fun ⟨a, b⟩ => ⟨fun x hx => by have := a x hx; omega, b⟩⟩
  cases h1 : upB 0 most l <;> cases h2 : (betB 1 most l && risB l) <;> simp_all
/-- what stands behind the last one is another list -/
theorem drop_at {l : List Int} {k : Nat} (h : k < l.length) : l.drop k = l[k]?.getD 0 :: l.drop (k + 1) := by
  rw [List.getElem?_eq_getElem h, Option.getD_some, ← List.drop_eq_getElem_cons h]

/-! ### which headers may be -/
/-! ### Check -/
def okV (b : Bool) : Int := if b then 0 else 1
end Go.Proofs.YteepobghdpnabaaGreat
namespace Go.Proofs.YteepobghdpnabaaGreat
open Go.RowKit

theorem isNum_is (b : Bool) (n : Int) (h : idB n = b) (w : World) : Calls Tryz.prog 77 #[.int .i64 n] w fun e w' => e = .returned (.bool b) ∧ w = w' := by
  cases b with
  | true =>
    obtain ⟨h1, h2⟩ : 1 ≤ n ∧ n ≤ 1099511627776 := by simpa [idB] using h
    clear h
    go_enter Tryz.func77, Tryz.ntmps77
    go_wp2
    go_ret
    exact ⟨ret_bool (by simp), rfl⟩
  | false =>
    have h0 : ¬ (1 ≤ n ∧ n ≤ 1099511627776) := by simpa [idB] using h
    clear h
    by_cases h1 : 1 ≤ n
    · have h2 : ¬ (n ≤ 1099511627776) := by omega
      clear h0
      go_enter Tryz.func77, Tryz.ntmps77
      go_wp2
      go_ret
      exact ⟨ret_bool (by simp), rfl⟩
    · clear h0
      go_enter Tryz.func77, Tryz.ntmps77
      go_wp2
      go_ret
      exact ⟨ret_bool (by simp), rfl⟩

set_option maxHeartbeats 1000000 in
theorem btx_yes (t : TxD) (w : World) (h : txB t = true) : Calls Tryz.prog 40 #[t.val] w (Tells w.heap.size w (.int .i64 0)) := by
  have hbel := (Below.refl w.heap.size w).alloc (Nat.le_refl _) (.cells t.cells.toArray 40)
  obtain ⟨h1, h2, h3, h4, h5⟩ : idB t.s = true ∧ idB t.q = true ∧ 1 ≤ t.k.size ∧ t.k.size ≤ 16 ∧ t.v.size ≤ 32 := by simpa [txB] using h
  obtain ⟨ts, tq, tk, tv⟩ := t
  simp only at h1 h2 h3 h4 h5
  have H1 := Lib.hid h1
  have H2 := Lib.hid h2
  have g3 : ¬ ((tk.size : Int) < 1) := by omega
  have g4 : ¬ (16 < (tk.size : Int)) := by omega
  have g5 : ¬ (32 < (tv.size : Int)) := by omega
  clear h h1 h2
  unfold TxD.val
  go_enter Tryz.func40, Tryz.ntmps40
  go_wp2_with (go_at_call 77; refine (isNum_is true _ (by first | exact H1.out | exact H2.out) _).mono ?_; rintro e w' ⟨rfl, rfl⟩)
  go_ret
  exact ⟨rfl, hbel⟩

set_option maxHeartbeats 1000000 in
theorem btx_no (t : TxD) (w : World) (h : txB t = false) : Calls Tryz.prog 40 #[t.val] w (Tells w.heap.size w (.int .i64 1)) := by
  have hbel := (Below.refl w.heap.size w).alloc (Nat.le_refl _) (.cells t.cells.toArray 40)
  have hn := txB_no h
  obtain ⟨ts, tq, tk, tv⟩ := t
  simp only at hn
  clear h
  unfold TxD.val
  rcases hn with h1 | ⟨h1, h2⟩ | ⟨h1, h2, h3⟩ | ⟨h1, h2, h3, h4⟩ | ⟨h1, h2, h3, h4, h5⟩
  · have H1 := Lib.hid h1
    clear h1
    go_enter Tryz.func40, Tryz.ntmps40
    go_wp2_with fail
    refine (isNum_is false _ H1.out _).mono ?_
    rintro e w' ⟨rfl, rfl⟩
    go_wp2_with fail
    go_ret
    exact ⟨rfl, hbel⟩
  · have H1 := Lib.hid h1
    have H2 := Lib.hid h2
    clear h1 h2
    go_enter Tryz.func40, Tryz.ntmps40
    go_wp2_with fail
    refine (isNum_is true _ H1.out _).mono ?_
    rintro e w' ⟨rfl, rfl⟩
    go_wp2_with fail
    refine (isNum_is false _ H2.out _).mono ?_
    rintro e w' ⟨rfl, rfl⟩
    go_wp2_with fail
    go_ret
    exact ⟨rfl, hbel⟩
  · have H1 := Lib.hid h1
    have H2 := Lib.hid h2
    have g3 : (tk.size : Int) < 1 := by omega
    clear h1 h2 h3
    go_enter Tryz.func40, Tryz.ntmps40
    go_wp2_with fail
    refine (isNum_is true _ H1.out _).mono ?_
    rintro e w' ⟨rfl, rfl⟩
    go_wp2_with fail
    refine (isNum_is true _ H2.out _).mono ?_
    rintro e w' ⟨rfl, rfl⟩
    go_wp2_with fail
    go_ret
    exact ⟨rfl, hbel⟩
  · have H1 := Lib.hid h1
    have H2 := Lib.hid h2
    have g3 : ¬ ((tk.size : Int) < 1) := by omega
    have g4 : 16 < (tk.size : Int) := by omega
    clear h1 h2 h3 h4
    go_enter Tryz.func40, Tryz.ntmps40
    go_wp2_with fail
    refine (isNum_is true _ H1.out _).mono ?_
    rintro e w' ⟨rfl, rfl⟩
    go_wp2_with fail
    refine (isNum_is true _ H2.out _).mono ?_
    rintro e w' ⟨rfl, rfl⟩
    go_wp2_with fail
    go_ret
    exact ⟨rfl, hbel⟩
  · have H1 := Lib.hid h1
    have H2 := Lib.hid h2
    have g3 : ¬ ((tk.size : Int) < 1) := by omega
    have g4 : ¬ (16 < (tk.size : Int)) := by omega
    have g5 : 32 < (tv.size : Int) := by omega
    clear h1 h2 h3 h4 h5
    go_enter Tryz.func40, Tryz.ntmps40
    go_wp2_with fail
    refine (isNum_is true _ H1.out _).mono ?_
    rintro e w' ⟨rfl, rfl⟩
    go_wp2_with fail
    refine (isNum_is true _ H2.out _).mono ?_
    rintro e w' ⟨rfl, rfl⟩
    go_wp2_with fail
    go_ret
    exact ⟨rfl, hbel⟩

/-- the first one that may not be, behind ones that may -/
theorem all_or_first : ∀ L : List TxD, L.all txB = true ∨ ∃ (k : Nat) (t : TxD), L[k]? = some t ∧ txB t = false ∧ ∀ (i : Nat) (u : TxD), i < k → L[i]? = some u → txB u = true
  | [] => .inl rfl
  | t :: L => by
    cases ht : txB t with
    | false => exact .inr ⟨0, t, rfl, ht, fun i u h => absurd h (by omega)⟩
    | true =>
      rcases all_or_first L with h | ⟨k, u, h1, h2, h3⟩
      · exact .inl (by simp [ht, h])
      · refine .inr ⟨k + 1, u, h1, h2, fun i x hi hx => ?_⟩
        cases i with
        | zero => simp only [List.getElem?_cons_zero, Option.some.injEq] at hx; rw [← hx]; exact ht
        | succ i => exact h3 i x (by omega) hx
theorem all_at {L : List TxD} {k : Nat} {t : TxD} (h : L.all txB = true) (hk : L[k]? = some t) : txB t = true := List.all_eq_true.1 h t (List.mem_of_getElem? hk)

set_option maxHeartbeats 2000000 in
theorem bcheck_yes (a N : Int) (A : Option Addr) (c n : Nat) (L : List TxD) (w : World) (h : batB a N L = true) (hz : L.length = n) (hr : Rd w A (txs L)) :
    Calls Tryz.prog 43 #[.agg #[.int .i64 a, .int .i64 N, .slice A n c]] w (Tells w.heap.size w (.int .i64 0)) := by
  have hbel := (Below.refl w.heap.size w).alloc (Nat.le_refl _) (.cells #[.int .i64 a, .int .i64 N, .slice A n c] 42)
  obtain ⟨⟨a1, a2⟩, h2, h3, h4, h5⟩ := batB_yes h
  rw [hz] at h3 h4
  have HZ := Lib.hid hz
  have H2 := Lib.hid h2
  have H5 := Lib.hid h5
  have g1 : ¬ (a < 1) := by omega
  have g2 : ¬ (16 < a) := by omega
  have g3 : ¬ ((n : Int) < 1) := by omega
  have g4 : ¬ (8 < (n : Int)) := by omega
  clear h hz h2 h5
  go_enter Tryz.func43, Tryz.ntmps43
  go_wp2_with fail
  refine (isNum_is true _ H2.out _).mono ?_
  rintro e w' ⟨rfl, rfl⟩
  go_wp2_with fail
  go_loopw [33] (fun i wr => ∃ k : Nat, i = .int .i64 k ∧ k ≤ n ∧ Below w.heap.size w wr) (fun i _ => n - (intOf i).toNat)
  case atStart => exact ⟨0, rfl, by omega, hbel⟩
  case round =>
    obtain ⟨k, rfl, hk, hb⟩ := hrel
    clear hbel
    by_cases hlt : k < n
    · obtain ⟨b, off, ⟨ts, tq, tk, tv⟩, rfl, hbl, hat, c0, c1, c2, c3⟩ := (hr.below hb).tx (i := k) (by rw [HZ.out]; exact hlt)
      simp only at c0 c1 c2 c3
      have i0 : (0 : Int) ≤ (k : Int) := by omega
      have i1 : (k : Int) < (n : Int) := by omega
      have HT := Lib.hid (all_at H5.out hat)
      clear hat
      go_wp2_with fail
      refine (btx_yes ⟨ts, tq, tk, tv⟩ _ HT.out).mono ?_
      rintro e w1 ⟨rfl, hb1⟩
      have hb2 := (hb.alloc hb.size (.cells #[.int .i64 ts, .int .i64 tq, .string tk, .string tv] 40)).trans (hb1.mono (by have := hb.size; simp; omega))
      clear hb1 hb
      go_wp2_with fail
      go_roundw
      case rel => exact ⟨k + 1, by go_num, by omega, hb2⟩
      case measure => simp [intOf]; omega
    · have i1 : ¬ ((k : Int) < (n : Int)) := by omega
      go_wp2_with fail
      go_ret
      exact ⟨rfl, hb⟩

set_option maxHeartbeats 2000000 in
theorem bcheck_no (a N : Int) (A : Option Addr) (c n : Nat) (L : List TxD) (w : World) (h : batB a N L = false) (hz : L.length = n) (hr : Rd w A (txs L)) :
    Calls Tryz.prog 43 #[.agg #[.int .i64 a, .int .i64 N, .slice A n c]] w (Tells w.heap.size w (.int .i64 1)) := by
  have hbel := (Below.refl w.heap.size w).alloc (Nat.le_refl _) (.cells #[.int .i64 a, .int .i64 N, .slice A n c] 42)
  have hno := batB_no h
  rw [hz] at hno
  have HZ := Lib.hid hz
  clear h hz
  rcases hno with a1 | ⟨a1, a2⟩ | ⟨⟨a1, a2⟩, h2⟩ | ⟨⟨a1, a2⟩, h2, h3⟩ | ⟨⟨a1, a2⟩, h2, h3, h4⟩ | ⟨⟨a1, a2⟩, h2, h3, h4, h5⟩
  · go_enter Tryz.func43, Tryz.ntmps43
    go_wp2_with fail
    go_ret
    exact ⟨rfl, hbel⟩
  · have g1 : ¬ (a < 1) := by omega
    go_enter Tryz.func43, Tryz.ntmps43
    go_wp2_with fail
    go_ret
    exact ⟨rfl, hbel⟩
  · have H2 := Lib.hid h2
    have g1 : ¬ (a < 1) := by omega
    have g2 : ¬ (16 < a) := by omega
    clear h2
    go_enter Tryz.func43, Tryz.ntmps43
    go_wp2_with fail
    refine (isNum_is false _ H2.out _).mono ?_
    rintro e w' ⟨rfl, rfl⟩
    go_wp2_with fail
    go_ret
    exact ⟨rfl, hbel⟩
  · have H2 := Lib.hid h2
    have g1 : ¬ (a < 1) := by omega
    have g2 : ¬ (16 < a) := by omega
    have g3 : (n : Int) < 1 := by omega
    clear h2 h3
    go_enter Tryz.func43, Tryz.ntmps43
    go_wp2_with fail
    refine (isNum_is true _ H2.out _).mono ?_
    rintro e w' ⟨rfl, rfl⟩
    go_wp2_with fail
    go_ret
    exact ⟨rfl, hbel⟩
  · have H2 := Lib.hid h2
    have g1 : ¬ (a < 1) := by omega
    have g2 : ¬ (16 < a) := by omega
    have g3 : ¬ ((n : Int) < 1) := by omega
    have g4 : 8 < (n : Int) := by omega
    clear h2 h3 h4
    go_enter Tryz.func43, Tryz.ntmps43
    go_wp2_with fail
    refine (isNum_is true _ H2.out _).mono ?_
    rintro e w' ⟨rfl, rfl⟩
    go_wp2_with fail
    go_ret
    exact ⟨rfl, hbel⟩
  · have H2 := Lib.hid h2
    have g1 : ¬ (a < 1) := by omega
    have g2 : ¬ (16 < a) := by omega
    have g3 : ¬ ((n : Int) < 1) := by omega
    have g4 : ¬ (8 < (n : Int)) := by omega
    obtain ⟨q, tb, hq, htb, hfirst⟩ : ∃ (q : Nat) (tb : TxD), L[q]? = some tb ∧ txB tb = false ∧ ∀ (i : Nat) (u : TxD), i < q → L[i]? = some u → txB u = true := by
      rcases all_or_first L with h | h
      · rw [h5] at h; cases h
      · exact h
    have hql : q < n := by
      rw [← HZ.out]
      rcases Nat.lt_or_ge q L.length with h' | h'
      · exact h'
      · rw [List.getElem?_eq_none h'] at hq; cases hq
    have HQ := Lib.hid hq
    have HTB := Lib.hid htb
    have HF := Lib.hid hfirst
    clear h2 h5 hq htb hfirst
    go_enter Tryz.func43, Tryz.ntmps43
    go_wp2_with fail
    refine (isNum_is true _ H2.out _).mono ?_
    rintro e w' ⟨rfl, rfl⟩
    go_wp2_with fail
    go_loopw [33] (fun i wr => ∃ k : Nat, i = .int .i64 k ∧ k ≤ q ∧ Below w.heap.size w wr) (fun i _ => n - (intOf i).toNat)
    case atStart => exact ⟨0, rfl, by omega, hbel⟩
    case round =>
      obtain ⟨k, rfl, hk, hb⟩ := hrel
      clear hbel
      have hlt : k < n := by omega
      obtain ⟨b, off, ⟨ts, tq, tk, tv⟩, rfl, hbl, hat, c0, c1, c2, c3⟩ := (hr.below hb).tx (i := k) (by rw [HZ.out]; exact hlt)
      simp only at c0 c1 c2 c3
      have i0 : (0 : Int) ≤ (k : Int) := by omega
      have i1 : (k : Int) < (n : Int) := by omega
      by_cases hkq : k = q
      · have HT : Hid (txB ⟨ts, tq, tk, tv⟩ = false) := by
          show txB ⟨ts, tq, tk, tv⟩ = false
          have h1 := HQ.out
          rw [← hkq, hat, Option.some.injEq] at h1
          rw [h1]; exact HTB.out
        clear hat hkq
        go_wp2_with fail
        refine (btx_no ⟨ts, tq, tk, tv⟩ _ HT.out).mono ?_
        rintro e w1 ⟨rfl, hb1⟩
        have hb2 := (hb.alloc hb.size (.cells #[.int .i64 ts, .int .i64 tq, .string tk, .string tv] 40)).trans (hb1.mono (by have := hb.size; simp; omega))
        clear hb1 hb
        go_wp2_with fail
        go_ret
        exact ⟨rfl, hb2⟩
      · have HT := Lib.hid (HF.out k _ (by omega) hat)
        clear hat
        go_wp2_with fail
        refine (btx_yes ⟨ts, tq, tk, tv⟩ _ HT.out).mono ?_
        rintro e w1 ⟨rfl, hb1⟩
        have hb2 := (hb.alloc hb.size (.cells #[.int .i64 ts, .int .i64 tq, .string tk, .string tv] 40)).trans (hb1.mono (by have := hb.size; simp; omega))
        clear hb1 hb
        go_wp2_with fail
        go_roundw
        case rel => exact ⟨k + 1, by go_num, by omega, hb2⟩
        case measure => simp [intOf]; omega

end Go.Proofs.YteepobghdpnabaaGreat
namespace Go.Proofs.YteepobghdpnabaaGreat
open Go.RowKit

/-! ### nothing beside -/
theorem size_mes : (Tryz.prog.info? 48).map (·.size) = some 18 := by kernel_rfl
/-! ### hasForm -/
/-! ### Check -/
end Go.Proofs.YteepobghdpnabaaGreat
