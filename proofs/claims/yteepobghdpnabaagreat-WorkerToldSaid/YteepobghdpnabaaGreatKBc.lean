/-
 Which transactions, and which batches, may be: the page's own.
-/
import Derived.IntWalk
import Derived.Test.YteepobghdpnabaaGreatRows
import Derived.ProofKit
import Derived.OpenShut
import Derived.SliceStrings
import Derived.ChangeSlices
import Derived.Deep.Slices
import Derived.Deep.Fields
import Derived.ChangeOld
import Derived.Carry
import Derived.SizedLaws
import Derived.WalkSpells
import Derived.WalkLawsBesides
import Derived.Deep.QuietTactic
import Derived.BigQuiet
import Derived.LoopTactic
import Derived.Test.YteepobghdpnabaaGreatKBb
import Derived.Test.YteepobghdpnabaaGreatKBa
namespace Go.Proofs.YteepobghdpnabaaGreat
open Go.RowKit


theorem rid_is (b : Bool) (n : Int) (h : idB n = b) (w : World) : Calls Tryz.prog 111 #[.int .i64 n] w fun e w' => e = .returned (.bool b) ∧ w = w' := by
 cases b with
 | true =>
  obtain ⟨h1, h2⟩ : 1 ≤ n ∧ n ≤ 1099511627776 := by simpa [idB] using h
  clear h
  go_enter Tryz.func111, Tryz.ntmps111
  go_wp2
  go_ret
  exact ⟨ret_bool (by simp), rfl⟩
 | false =>
  have h0 : ¬ (1 ≤ n ∧ n ≤ 1099511627776) := by simpa [idB] using h
  clear h
  by_cases h1 : 1 ≤ n
  ·have h2 : ¬ (n ≤ 1099511627776) := by omega
   clear h0
   go_enter Tryz.func111, Tryz.ntmps111
   go_wp2
   go_ret
   exact ⟨ret_bool (by simp), rfl⟩
  ·clear h0
   go_enter Tryz.func111, Tryz.ntmps111
   go_wp2
   go_ret
   exact ⟨ret_bool (by simp), rfl⟩

theorem txB_no {t : TxD} (h : txB t = false) : idB t.s = false ∨ (idB t.s = true ∧ idB t.q = false) ∨ (idB t.s = true ∧ idB t.q = true ∧ t.k.size < 1) ∨ (idB t.s = true ∧ idB t.q = true ∧ 1 ≤ t.k.size ∧ 16 < t.k.size) ∨
  (idB t.s = true ∧ idB t.q = true ∧ 1 ≤ t.k.size ∧ t.k.size ≤ 16 ∧ 32 < t.v.size) := by
 have h0 : ¬ (idB t.s = true ∧ idB t.q = true ∧ 1 ≤ t.k.size ∧ t.k.size ≤ 16 ∧ t.v.size ≤ 32) := by simpa [txB] using h
 cases h1 : idB t.s with
 | false => exact .inl rfl
 | true =>
  cases h2 : idB t.q with
  | false => exact .inr (.inl ⟨rfl, rfl⟩)
  | true =>
   have h3 : ¬ (1 ≤ t.k.size ∧ t.k.size ≤ 16 ∧ t.v.size ≤ 32) := fun h => h0 ⟨h1, h2, h⟩
   rcases Nat.lt_or_ge t.k.size 1 with k1 | k1
   ·exact .inr (.inr (.inl ⟨rfl, rfl, k1⟩))
   ·rcases Nat.lt_or_ge 16 t.k.size with k2 | k2
    ·exact .inr (.inr (.inr (.inl ⟨rfl, rfl, k1, k2⟩)))
    ·exact .inr (.inr (.inr (.inr ⟨rfl, rfl, k1, k2, by omega⟩)))

set_option maxHeartbeats 1000000 in
theorem rtx_is (b : Bool) (t : TxD) (h : txB t = b) (w : World) : Calls Tryz.prog 65 #[t.val] w (Tells w.heap.size w (.bool b)) := by
 have hbel := (Below.refl w.heap.size w).alloc (Nat.le_refl _) (.cells t.cells.toArray 40)
 cases b with
 | true =>
  obtain ⟨h1, h2, h3, h4, h5⟩ : idB t.s = true ∧ idB t.q = true ∧ 1 ≤ t.k.size ∧ t.k.size ≤ 16 ∧ t.v.size ≤ 32 := by simpa [txB] using h
  obtain ⟨ts, tq, tk, tv⟩ := t
  simp only at h1 h2 h3 h4 h5
  have H1 := Lib.hid h1
  have H2 := Lib.hid h2
  have g3 : (1 : Int) ≤ (tk.size : Int) := by omega
  have g4 : (tk.size : Int) ≤ 16 := by omega
  have g5 : (tv.size : Int) ≤ 32 := by omega
  clear h h1 h2
  unfold TxD.val
  go_enter Tryz.func65, Tryz.ntmps65
  go_wp2_with (go_at_call 111; refine (rid_is true _ (by first | exact H1.out | exact H2.out) _).mono ?_; rintro e w' ⟨rfl, rfl⟩)
  go_ret
  exact ⟨ret_bool (by simp), hbel⟩
 | false =>
  have hn := txB_no h
  obtain ⟨ts, tq, tk, tv⟩ := t
  simp only at hn
  clear h
  unfold TxD.val
  rcases hn with h1 | ⟨h1, h2⟩ | ⟨h1, h2, h3⟩ | ⟨h1, h2, h3, h4⟩ | ⟨h1, h2, h3, h4, h5⟩
  ·have H1 := Lib.hid h1
   clear h1
   go_enter Tryz.func65, Tryz.ntmps65
   go_wp2_with fail
   refine (rid_is false _ H1.out _).mono ?_
   rintro e w' ⟨rfl, rfl⟩
   go_wp2_with fail
   go_ret
   exact ⟨ret_bool (by simp), hbel⟩
  ·have H1 := Lib.hid h1
   have H2 := Lib.hid h2
   clear h1 h2
   go_enter Tryz.func65, Tryz.ntmps65
   go_wp2_with fail
   refine (rid_is true _ H1.out _).mono ?_
   rintro e w' ⟨rfl, rfl⟩
   go_wp2_with fail
   refine (rid_is false _ H2.out _).mono ?_
   rintro e w' ⟨rfl, rfl⟩
   go_wp2_with fail
   go_ret
   exact ⟨ret_bool (by simp), hbel⟩
  ·have H1 := Lib.hid h1
   have H2 := Lib.hid h2
   have g3 : ¬ ((1 : Int) ≤ (tk.size : Int)) := by omega
   clear h1 h2
   go_enter Tryz.func65, Tryz.ntmps65
   go_wp2_with fail
   refine (rid_is true _ H1.out _).mono ?_
   rintro e w' ⟨rfl, rfl⟩
   go_wp2_with fail
   refine (rid_is true _ H2.out _).mono ?_
   rintro e w' ⟨rfl, rfl⟩
   go_wp2_with fail
   go_ret
   exact ⟨ret_bool (by simp), hbel⟩
  ·have H1 := Lib.hid h1
   have H2 := Lib.hid h2
   have g3 : (1 : Int) ≤ (tk.size : Int) := by omega
   have g4 : ¬ ((tk.size : Int) ≤ 16) := by omega
   clear h1 h2
   go_enter Tryz.func65, Tryz.ntmps65
   go_wp2_with fail
   refine (rid_is true _ H1.out _).mono ?_
   rintro e w' ⟨rfl, rfl⟩
   go_wp2_with fail
   refine (rid_is true _ H2.out _).mono ?_
   rintro e w' ⟨rfl, rfl⟩
   go_wp2_with fail
   go_ret
   exact ⟨ret_bool (by simp), hbel⟩
  ·have H1 := Lib.hid h1
   have H2 := Lib.hid h2
   have g3 : (1 : Int) ≤ (tk.size : Int) := by omega
   have g4 : (tk.size : Int) ≤ 16 := by omega
   have g5 : ¬ ((tv.size : Int) ≤ 32) := by omega
   clear h1 h2
   go_enter Tryz.func65, Tryz.ntmps65
   go_wp2_with fail
   refine (rid_is true _ H1.out _).mono ?_
   rintro e w' ⟨rfl, rfl⟩
   go_wp2_with fail
   refine (rid_is true _ H2.out _).mono ?_
   rintro e w' ⟨rfl, rfl⟩
   go_wp2_with fail
   go_ret
   exact ⟨ret_bool (by simp; omega), hbel⟩

theorem all_take {L : List TxD} {k : Nat} {t : TxD} (h : L[k]? = some t) (ha : (L.take k).all txB = true) (ht : txB t = true) : (L.take (k + 1)).all txB = true := by
 rw [take_next h, List.all_append, ha]; simp [ht]
theorem all_no {L : List TxD} {k : Nat} {t : TxD} (h : L[k]? = some t) (ht : txB t = false) : L.all txB = false := by
 rw [List.all_eq_false]
 exact ⟨t, List.mem_of_getElem? h, by simp [ht]⟩

set_option maxHeartbeats 1000000 in
theorem rtxs_any (A : Option Addr) (c n : Nat) (L : List TxD) (w : World) (hz : L.length = n) (hr : Rd w A (txs L)) (hn : n ≤ 1073741824) :
  Calls Tryz.prog 31 #[.slice A n c] w (Tells w.heap.size w (.bool (L.all txB))) := by
 have HZ := Lib.hid hz
 clear hz
 go_enter Tryz.func31, Tryz.ntmps31
 go_wp2_with fail
 go_loopw [3] (fun i wr => ∃ k : Nat, i = .int .i64 k ∧ k ≤ n ∧ Hid ((L.take k).all txB = true) ∧ Below w.heap.size w wr) (fun i _ => n - (intOf i).toNat)
 case atStart => exact ⟨0, rfl, by omega, by simp [Hid], Below.refl _ _⟩
 case round =>
  obtain ⟨k, rfl, hk, HA, hb⟩ := hrel
  by_cases hlt : k < n
  ·obtain ⟨b, off, ⟨ts, tq, tk, tv⟩, rfl, hbl, hat, c0, c1, c2, c3⟩ := (hr.below hb).tx (i := k) (by rw [HZ.out]; exact hlt)
   simp only at c0 c1 c2 c3
   have i0 : (0 : Int) ≤ (k : Int) := by omega
   have i1 : (k : Int) < (n : Int) := by omega
   cases ht : txB ⟨ts, tq, tk, tv⟩ with
   | true =>
    have HN := Lib.hid (all_take hat HA.out ht)
    have HT := Lib.hid ht
    clear hat ht
    go_wp2_with fail
    refine (rtx_is true ⟨ts, tq, tk, tv⟩ HT.out _).mono ?_
    rintro e w1 ⟨rfl, hb1⟩
    have hb2 := hb.trans (hb1.mono hb.size)
    clear hb1 hb
    go_wp2_with fail
    go_roundw
    case rel => exact ⟨k + 1, by go_num, by omega, HN.out, hb2⟩
    case measure => simp [intOf]; omega
   | false =>
    have HN := Lib.hid (all_no hat ht)
    have HT := Lib.hid ht
    clear hat ht
    go_wp2_with fail
    refine (rtx_is false ⟨ts, tq, tk, tv⟩ HT.out _).mono ?_
    rintro e w1 ⟨rfl, hb1⟩
    have hb2 := hb.trans (hb1.mono hb.size)
    clear hb1 hb
    go_wp2_with fail
    go_ret
    exact ⟨by rw [HN.out]; rfl, hb2⟩
  ·have i1 : ¬ ((k : Int) < (n : Int)) := by omega
   have HN : Hid (L.all txB = true) := by
    have := HA.out
    rwa [List.take_of_length_le (by rw [HZ.out]; omega)] at this
   go_wp2_with fail
   go_ret
   exact ⟨by rw [HN.out]; rfl, hb⟩

theorem batB_no {a n : Int} {L : List TxD} (h : batB a n L = false) : (a < 1) ∨ (1 ≤ a ∧ 16 < a) ∨ ((1 ≤ a ∧ a ≤ 16) ∧ idB n = false) ∨ ((1 ≤ a ∧ a ≤ 16) ∧ idB n = true ∧ L.length < 1) ∨ ((1 ≤ a ∧ a ≤ 16) ∧ idB n = true ∧ 1 ≤ L.length ∧ 8 < L.length) ∨
  ((1 ≤ a ∧ a ≤ 16) ∧ idB n = true ∧ 1 ≤ L.length ∧ L.length ≤ 8 ∧ L.all txB = false) := by
 have h0 : ¬ ((1 ≤ a ∧ a ≤ 16) ∧ idB n = true ∧ 1 ≤ L.length ∧ L.length ≤ 8 ∧ L.all txB = true) := by simpa only [batB, decide_eq_false_iff_not] using h
 by_cases a1 : 1 ≤ a
 ·by_cases a2 : a ≤ 16
  ·cases h2 : idB n with
   | false => exact .inr (.inr (.inl ⟨⟨a1, a2⟩, rfl⟩))
   | true =>
    rcases Nat.lt_or_ge L.length 1 with k1 | k1
    ·exact .inr (.inr (.inr (.inl ⟨⟨a1, a2⟩, rfl, k1⟩)))
    ·rcases Nat.lt_or_ge 8 L.length with k2 | k2
     ·exact .inr (.inr (.inr (.inr (.inl ⟨⟨a1, a2⟩, rfl, k1, k2⟩))))
     ·cases h3 : L.all txB with
      | false => exact .inr (.inr (.inr (.inr (.inr ⟨⟨a1, a2⟩, rfl, k1, k2, rfl⟩))))
      | true => exact absurd ⟨⟨a1, a2⟩, h2, k1, k2, h3⟩ h0
  ·exact .inr (.inl ⟨a1, by omega⟩)
 ·exact .inl (by omega)
theorem batB_yes {a n : Int} {L : List TxD} (h : batB a n L = true) : (1 ≤ a ∧ a ≤ 16) ∧ idB n = true ∧ 1 ≤ L.length ∧ L.length ≤ 8 ∧ L.all txB = true := by
 simpa only [batB, decide_eq_true_eq] using h
theorem rtxs_is (b : Bool) (A : Option Addr) (c n : Nat) (L : List TxD) (w : World) (h : L.all txB = b) (hz : L.length = n) (hr : Rd w A (txs L)) (hn : n ≤ 1073741824) :
  Calls Tryz.prog 31 #[.slice A n c] w (Tells w.heap.size w (.bool b)) := h ▸ rtxs_any A c n L w hz hr hn

set_option maxHeartbeats 2000000 in
theorem rbatch_is (b : Bool) (a N : Int) (A : Option Addr) (c n : Nat) (L : List TxD) (w : World) (h : batB a N L = b) (hz : L.length = n) (hr : Rd w A (txs L)) :
  Calls Tryz.prog 74 #[.agg #[.int .i64 a, .int .i64 N, .slice A n c]] w (Tells w.heap.size w (.bool b)) := by
 have hbel := (Below.refl w.heap.size w).alloc (Nat.le_refl _) (.cells #[.int .i64 a, .int .i64 N, .slice A n c] 42)
 have hr1 := hr.alloc (.cells #[.int .i64 a, .int .i64 N, .slice A n c] 42)
 cases b with
 | true =>
  obtain ⟨⟨a1, a2⟩, h2, h3, h4, h5⟩ := batB_yes h
  rw [hz] at h3 h4
  have HZ := Lib.hid hz
  have H2 := Lib.hid h2
  have H5 := Lib.hid h5
  have g3 : (1 : Int) ≤ (n : Int) := by omega
  have g4 : (n : Int) ≤ 8 := by omega
  clear h hz h2 h5
  go_enter Tryz.func74, Tryz.ntmps74
  go_wp2_with fail
  refine (rid_is true _ H2.out _).mono ?_
  rintro e w' ⟨rfl, rfl⟩
  go_wp2_with fail
  refine (rtxs_is true A c n L _ H5.out HZ.out hr1 (by omega)).mono ?_
  rintro e w1 ⟨rfl, hb1⟩
  go_wp2_with fail
  go_ret
  exact ⟨ret_bool (by simp), hbel.trans (hb1.mono hbel.size)⟩
 | false =>
  have hno := batB_no h
  rw [hz] at hno
  have HZ := Lib.hid hz
  clear h hz
  rcases hno with a1 | ⟨a1, a2⟩ | ⟨⟨a1, a2⟩, h2⟩ | ⟨⟨a1, a2⟩, h2, h3⟩ | ⟨⟨a1, a2⟩, h2, h3, h4⟩ | ⟨⟨a1, a2⟩, h2, h3, h4, h5⟩
  ·have g1 : ¬ (1 ≤ a) := by omega
   go_enter Tryz.func74, Tryz.ntmps74
   go_wp2_with fail
   go_ret
   exact ⟨ret_bool (by simp), hbel⟩
  ·have g2 : ¬ (a ≤ 16) := by omega
   go_enter Tryz.func74, Tryz.ntmps74
   go_wp2_with fail
   go_ret
   exact ⟨ret_bool (by simp), hbel⟩
  ·have H2 := Lib.hid h2
   clear h2
   go_enter Tryz.func74, Tryz.ntmps74
   go_wp2_with fail
   refine (rid_is false _ H2.out _).mono ?_
   rintro e w' ⟨rfl, rfl⟩
   go_wp2_with fail
   go_ret
   exact ⟨ret_bool (by simp), hbel⟩
  ·have H2 := Lib.hid h2
   have g3 : ¬ ((1 : Int) ≤ (n : Int)) := by omega
   clear h2
   go_enter Tryz.func74, Tryz.ntmps74
   go_wp2_with fail
   refine (rid_is true _ H2.out _).mono ?_
   rintro e w' ⟨rfl, rfl⟩
   go_wp2_with fail
   go_ret
   exact ⟨ret_bool (by simp), hbel⟩
  ·have H2 := Lib.hid h2
   have g3 : (1 : Int) ≤ (n : Int) := by omega
   have g4 : ¬ ((n : Int) ≤ 8) := by omega
   clear h2
   go_enter Tryz.func74, Tryz.ntmps74
   go_wp2_with fail
   refine (rid_is true _ H2.out _).mono ?_
   rintro e w' ⟨rfl, rfl⟩
   go_wp2_with fail
   go_ret
   exact ⟨ret_bool (by simp), hbel⟩
  ·have H2 := Lib.hid h2
   have H5 := Lib.hid h5
   have g3 : (1 : Int) ≤ (n : Int) := by omega
   have g4 : (n : Int) ≤ 8 := by omega
   clear h2 h5
   go_enter Tryz.func74, Tryz.ntmps74
   go_wp2_with fail
   refine (rid_is true _ H2.out _).mono ?_
   rintro e w' ⟨rfl, rfl⟩
   go_wp2_with fail
   refine (rtxs_is false A c n L _ H5.out HZ.out hr1 (by omega)).mono ?_
   rintro e w1 ⟨rfl, hb1⟩
   go_wp2_with fail
   go_ret
   exact ⟨ret_bool (by simp), hbel.trans (hb1.mono hbel.size)⟩
end Go.Proofs.YteepobghdpnabaaGreat
namespace Go.Proofs.YteepobghdpnabaaGreat
open Go.RowKit Go.ChangeShapes Go.WideShapes Go.Deep

theorem lt_of_cell {w : World} {a : Addr} {v : Value} (h : w.cell? a = some v) : a.block < w.heap.size := by
 rcases Nat.lt_or_ge a.block w.heap.size with hl | hl
 ·exact hl
 ·have e : w.heap[a.block]? = none := by simp; omega
  simp [World.cell?, e] at h

theorem rd_of {w : World} {a : Addr} {xs : List Value} (h : ∀ i v, xs[i]? = some v → w.cell? (a.add i) = some v) : Rd w (some a) xs := fun hx => by
 obtain ⟨x, l, rfl⟩ := List.exists_cons_of_ne_nil hx
 have h0 := h 0 x rfl
 have hsp : a.spot = none := by
  have := World.cell?_spot h0
  simpa [Addr.add] using this
 obtain ⟨b, off, spot⟩ := a
 subst hsp
 refine ⟨b, off, rfl, ?_, fun i v hv => ?_⟩
 ·rw [Addr.add_lit] at h0; exact lt_of_cell h0
 ·have := h i v hv
  rwa [Addr.add_lit] at this

section
variable {H : Type} {enc : TypeId × Value → H} {P : Program} {w : World} {base : Nat} {spare : Nat → Bool} {held : Bool} {t e : TypeId} {fuel : Nat} {v : Value} {x : DataW H × List MemPlace}
theorem open_nums {k : IntKind} (ht : P.underlying t = some (.slice e)) (he : P.underlying e = some (.int k)) (hc : P.cellsOf e = 1) (h : DataW.trod enc P w base spare held fuel t [v] = some x) :
  ∃ (A : Option Addr) (c : Nat) (zs : List Int), v = .slice A zs.length c ∧ zs.length ≤ c ∧ c ≤ maxLen ∧ Rd w A (zs.map (Value.int k)) ∧ ∀ n ∈ zs, (Lit.int k n).wf = true := by
 rcases open_ints ht he hc h with ⟨h0, _⟩ | ⟨a, len, cap, zs, h0, _, hl, hm, hz, _, hcell, hwf⟩
 ·simp only [List.cons.injEq, and_true] at h0
  subst h0
  exact ⟨none, 0, [], rfl, by simp, by simp [maxLen], Rd.nil _ _, fun n hn => by simp at hn⟩
 ·simp only [List.cons.injEq, and_true] at h0
  subst h0
  have hlen : len ≤ zs.length := by rw [hz]; split <;> omega
  have htl : (zs.take len).length = len := by rw [List.length_take]; omega
  refine ⟨some a, cap, zs.take len, by rw [htl], by omega, hm, rd_of fun i u hu => ?_, fun n hn => hwf n (List.mem_of_mem_take hn)⟩
  have hi : i < len := by
   rcases Nat.lt_or_ge i len with h' | h'
   ·exact h'
   ·rw [List.getElem?_eq_none (by rw [List.length_map, htl]; exact h')] at hu; cases hu
  rw [hcell i (by omega)]
  rw [← hu, List.getElem?_map, List.getElem?_take_of_lt hi, List.getElem?_eq_getElem (by omega), List.getD_eq_getElem?_getD, List.getElem?_eq_getElem (by omega)]
  rfl
theorem open_nums_fit {k : IntKind} {m : Nat} (ht : P.underlying t = some (.slice e)) (he : P.underlying e = some (.int k)) (hc : P.cellsOf e = 1) (hby : P.bytesOf e = m) (hm1 : 1 ≤ m)
  (h : DataW.trod enc P w base spare held fuel t [v] = some x) (hw : ∀ n ∈ x.1.weights P t, n ≤ reachBytes) :
  ∃ (A : Option Addr) (c : Nat) (zs : List Int), v = .slice A zs.length c ∧ zs.length ≤ c ∧ c ≤ maxLen ∧ Rd w A (zs.map (Value.int k)) ∧ (∀ n ∈ zs, (Lit.int k n).wf = true) ∧ zs.length ≤ 140737488351232 := by
 have hsz : ∀ a len cap, v = .slice (some a) len cap → len ≤ 140737488351232 := fun a len cap hv => by
  rcases open_ints ht he hc h with ⟨h0, _⟩ | ⟨a', len', cap', zs, h0, _, hl, hm, hz, hx, _, _⟩
  ·simp only [List.cons.injEq, and_true] at h0
   rw [h0] at hv; cases hv
  ·simp only [List.cons.injEq, and_true] at h0
   rw [h0] at hv
   cases hv
   have hlen : len ≤ zs.length := by rw [hz]; split <;> omega
   have := hw ((len + (zs.length - len)) * m) (by
    rw [hx, DataW.weights, ht]
    simp only [hby]
    refine List.mem_cons.2 (.inl ?_)
    congr 1
    simp [lits]
    omega)
   have h2 : len + (zs.length - len) ≤ (len + (zs.length - len)) * m := Nat.le_mul_of_pos_right _ hm1
   unfold reachBytes at this
   omega
 obtain ⟨A, c, zs, rfl, h1, h2, h3, h4⟩ := open_nums ht he hc h
 refine ⟨A, c, zs, rfl, h1, h2, h3, h4, ?_⟩
 cases A with
 | none =>
  rcases Nat.eq_zero_or_pos zs.length with h0 | h0
  ·omega
  ·obtain ⟨b, off, he, _⟩ := h3.open_ (by simpa using h0)
   cases he
 | some a => exact hsz a _ _ rfl
theorem weights_all {d : DataW H} {l : List (DataW H)} (hd : d ∈ l) {n : Nat} (hn : n ∈ d.weights P e) : n ∈ DataW.weightsAll P e l := by
 induction l with
 | nil => simp at hd
 | cons a l ih =>
  rw [DataW.weightsAll]
  rcases List.mem_cons.1 hd with rfl | hd
  ·exact List.mem_append_left _ hn
  ·exact List.mem_append_right _ (ih hd)
theorem weights_slice {elems rest : List (DataW H)} {d : DataW H} (ht : P.underlying t = some (.slice e)) (hd : d ∈ elems) {n : Nat} (hn : n ∈ d.weights P e) : n ∈ (DataW.slice elems rest).weights P t := by
 rw [DataW.weights, ht]
 exact List.mem_cons_of_mem _ (List.mem_append_left _ (weights_all hd hn))
end

theorem cells_int : Tryz.prog.cellsOf 3 = 1 := by kernel_rfl
theorem cells_str : Tryz.prog.cellsOf 9 = 1 := by kernel_rfl
theorem cells_ints : Tryz.prog.cellsOf 25 = 1 := by kernel_rfl
theorem wf_i64 {n : Int} (h : (Lit.int .i64 n).wf = true) : -9223372036854775808 ≤ n ∧ n ≤ 9223372036854775807 := by
 have e1 : IntKind.i64.min = -9223372036854775808 := rfl
 have e2 : IntKind.i64.max = 9223372036854775807 := rfl
 simpa [Lit.wf, e1, e2] using h
end Go.Proofs.YteepobghdpnabaaGreat
namespace Go.Proofs.YteepobghdpnabaaGreat
open Go.RowKit Go.ChangeShapes Go.WideShapes Go.Deep

theorem list_of {α : Type} {Q : Nat → α → Prop} : ∀ {n : Nat}, (∀ i, i < n → ∃ a, Q i a) → ∃ L : List α, L.length = n ∧ ∀ i a, L[i]? = some a → Q i a
 | 0, _ => ⟨[], rfl, fun i a h => by simp at h⟩
 | n + 1, h => by
  obtain ⟨L, hl, hL⟩ := list_of (n := n) fun i hi => h i (by omega)
  obtain ⟨a, ha⟩ := h n (by omega)
  refine ⟨L ++ [a], by simp [hl], fun i b hb => ?_⟩
  rcases Nat.lt_or_ge i L.length with h' | h'
  ·rw [List.getElem?_append_left h'] at hb; exact hL i b hb
  ·rw [List.getElem?_append_right h'] at hb
   have hi : i - L.length = 0 := by
    rcases Nat.eq_zero_or_pos (i - L.length) with h0 | h0
    ·exact h0
    ·rw [List.getElem?_eq_none (by simp; omega)] at hb; cases hb
   rw [hi] at hb
   simp only [List.getElem?_cons_zero, Option.some.injEq] at hb
   subst hb
   obtain rfl : i = n := by omega
   exact ha
theorem cells_tx : Tryz.prog.cellsOf 40 = 4 := by kernel_rfl
theorem txs_get {L : List TxD} {i : Nat} {v : Value} (h : (txs L)[i]? = some v) : ∃ t, L[i / 4]? = some t ∧ t.cells[i % 4]? = some v := by
 have hl : i < (txs L).length := by
  rcases Nat.lt_or_ge i (txs L).length with h' | h'
  ·exact h'
  ·rw [List.getElem?_eq_none h'] at h; cases h
 rw [txs_length] at hl
 obtain ⟨t, ht⟩ := txD_at (L := L) (i := i / 4) (by omega)
 refine ⟨t, ht, ?_⟩
 obtain ⟨h0, h1, h2, h3⟩ := txs_at ht
 rcases (show i % 4 = 0 ∨ i % 4 = 1 ∨ i % 4 = 2 ∨ i % 4 = 3 by omega) with e | e | e | e
 ·rw [show i = i / 4 * 4 by omega, h0, Option.some.injEq] at h
  rw [e, ← h]; rfl
 ·rw [show i = i / 4 * 4 + 1 by omega, h1, Option.some.injEq] at h
  rw [e, ← h]; rfl
 ·rw [show i = i / 4 * 4 + 2 by omega, h2, Option.some.injEq] at h
  rw [e, ← h]; rfl
 ·rw [show i = i / 4 * 4 + 3 by omega, h3, Option.some.injEq] at h
  rw [e, ← h]; rfl

def TxOk (t : TxD) : Prop := (-9223372036854775808 ≤ t.s ∧ t.s ≤ 9223372036854775807) ∧ (-9223372036854775808 ≤ t.q ∧ t.q ≤ 9223372036854775807) ∧ t.k.size ≤ 140737488351232 ∧ t.v.size ≤ 140737488351232

set_option maxRecDepth 100000 in
set_option maxHeartbeats 800000 in
theorem open_txs {H : Type} {enc : TypeId × Value → H} {w : World} {base : Nat} {spare : Nat → Bool} {held : Bool} {fuel : Nat} {v : Value} {x : DataW H × List MemPlace}
  (h : DataW.trod enc Tryz.prog w base spare held fuel 22 [v] = some x) (hw : ∀ n ∈ x.1.weights Tryz.prog 22, n ≤ reachBytes) :
  ∃ (A : Option Addr) (c : Nat) (L : List TxD), v = .slice A L.length c ∧ L.length ≤ c ∧ c ≤ maxLen ∧ Rd w A (txs L) ∧ ∀ t ∈ L, TxOk t := by
 rcases open_slice Tryz.underlying22 h with ⟨h0, _⟩ | ⟨ad, len, cap, m, n, D, Pl, h0, _, hl, hm, hmm, hz, hi⟩
 ·simp only [List.cons.injEq, and_true] at h0
  subst h0
  exact ⟨none, 0, [], rfl, by simp, by simp [maxLen], Rd.nil _ _, fun t ht => by simp at ht⟩
 ·simp only [List.cons.injEq, and_true] at h0
  subst h0
  have each : ∀ i, i < len → ∃ t : TxD, TxOk t ∧ ∀ j u, t.cells[j]? = some u → w.cell? (ad.add (i * 4 + j)) = some u := by
   intro i hil
   have him : i < m := by rw [hmm]; split <;> omega
   obtain ⟨cs, hc, ht⟩ := hi i him
   rw [cells_tx] at hc
   obtain ⟨_, hcl, hat⟩ := World.cells?_some hc
   obtain ⟨ys, n', _, hag, hlen, hyl, hf⟩ := DataW.trod_struct Tryz.underlying40 ht
   match cs, hcl with
   | [c0, c1, c2, c3], _ =>
    match ys, hyl with
    | [y0, y1, y2, y3], _ =>
     have f0 := hf 0 _ rfl
     have f1 := hf 1 _ rfl
     have f2 := hf 2 _ rfl
     have f3 := hf 3 _ rfl
     simp [cells_int, cells_str] at f0 f1 f2 f3
     obtain ⟨r, e0, _, wr⟩ := DataW.trod_int Tryz.underlying3 f0
     obtain ⟨s, e1, _, ws⟩ := DataW.trod_int Tryz.underlying3 f1
     obtain ⟨k, e2, g2, _⟩ := DataW.trod_string Tryz.underlying9 f2
     obtain ⟨q, e3, g3, _⟩ := DataW.trod_string Tryz.underlying9 f3
     have hD : D i = .agg [y0.1, y1.1, y2.1, y3.1] := by
      have := congrArg Prod.fst hag
      simpa using this
     have hwi : ∀ n ∈ (D i).weights Tryz.prog 40, n ≤ reachBytes := fun n hn => hw n (by
      rw [hz]
      exact weights_slice Tryz.underlying22 (List.mem_map.2 ⟨i, List.mem_range.2 hil, rfl⟩) hn)
     have hk : k.data.toList.length ≤ reachBytes := hwi _ (by
      rw [hD, DataW.weights, Tryz.underlying40]
      refine DataW.weights_mem_each (j := 2) (t := 9) (d := y2.1) rfl rfl _ ?_
      rw [g2]; simp [DataW.weights])
     have hq : q.data.toList.length ≤ reachBytes := hwi _ (by
      rw [hD, DataW.weights, Tryz.underlying40]
      refine DataW.weights_mem_each (j := 3) (t := 9) (d := y3.1) rfl rfl _ ?_
      rw [g3]; simp [DataW.weights])
     simp at e0 e1 e2 e3
     subst e0 e1 e2 e3
     refine ⟨⟨r, s, k, q⟩, ⟨wf_i64 wr, wf_i64 ws, hk, hq⟩, fun j u hu => ?_⟩
     rw [← add_add, hat j (by
      rcases Nat.lt_or_ge j 4 with h' | h'
      ·exact h'
      ·rw [List.getElem?_eq_none (by simp [TxD.cells]; omega)] at hu; cases hu)]
     exact hu
  obtain ⟨L, hL, hLe⟩ := list_of each
  refine ⟨some ad, cap, L, by rw [hL], by omega, hm, rd_of fun i u hu => ?_, fun t ht => ?_⟩
  ·obtain ⟨t, h1, h2⟩ := txs_get hu
   have := (hLe _ _ h1).2 _ _ h2
   rwa [show i / 4 * 4 + i % 4 = i by omega] at this
  ·obtain ⟨i, hi'⟩ := List.getElem?_of_mem ht
   exact (hLe _ _ hi').1

end Go.Proofs.YteepobghdpnabaaGreat
namespace Go.Proofs.YteepobghdpnabaaGreat
open Go.RowKit

theorem take_nxt {α : Type} {l : List α} {k : Nat} {x : α} (h : l[k]? = some x) : l.take (k + 1) = l.take k ++ [x] := by
 rw [List.take_add_one, h]; rfl

set_option maxHeartbeats 800000 in
theorem eqNumbers_any (A A' : Option Addr) (c c' n n' : Nat) (L M : List Int) (w : World) (hz : L.length = n) (hz' : M.length = n') (hr : Rd w A (i64s L)) (hr' : Rd w A' (i64s M)) (hn : n ≤ 1073741824) (hn' : n' ≤ 1073741824) :
  Calls Tryz.prog 70 #[.slice A n c, .slice A' n' c'] w fun e w' => e = .returned (.bool (decide (L = M))) ∧ ∃ d, w' = w.drewN d := by
 have HZ := Lib.hid hz
 have HZ' := Lib.hid hz'
 clear hz hz'
 by_cases hnn : n = n'
 ·subst hnn
  go_enter Tryz.func70, Tryz.ntmps70
  go_wp2
  go_loopw [5] (fun i wr => ∃ k d : Nat, i = .int .i64 k ∧ k ≤ n ∧ Hid (L.take k = M.take k) ∧ wr = w.drewN d) (fun i _ => n - (intOf i).toNat)
  case atStart => exact ⟨0, 0, rfl, by omega, rfl, rfl⟩
  case round =>
   obtain ⟨k, d, rfl, hk, HE, rfl⟩ := hrel
   by_cases hlt : k < n
   ·obtain ⟨b, off, rfl, hbl, hcell⟩ := hr.open_ (by rw [i64s_length, HZ.out]; omega)
    obtain ⟨b', off', rfl, hbl', hcell'⟩ := hr'.open_ (by rw [i64s_length, HZ'.out]; omega)
    have hc1 := hcell k _ (i64s_at (by rw [HZ.out]; exact hlt))
    have hc2 := hcell' k _ (i64s_at (by rw [HZ'.out]; exact hlt))
    obtain ⟨x, hx⟩ : ∃ x, L[k]? = some x := ⟨L[k]'(by rw [HZ.out]; exact hlt), by simp⟩
    obtain ⟨y, hy⟩ : ∃ y, M[k]? = some y := ⟨M[k]'(by rw [HZ'.out]; exact hlt), by simp⟩
    rw [hx] at hc1
    rw [hy] at hc2
    simp only [Option.getD_some] at hc1 hc2
    have i0 : (0 : Int) ≤ (k : Int) := by omega
    have i1 : (k : Int) < (n : Int) := by omega
    by_cases hxy : x = y
    ·have HT : Hid (L.take (k + 1) = M.take (k + 1)) := by
      show L.take (k + 1) = M.take (k + 1)
      rw [take_nxt hx, take_nxt hy, HE.out, hxy]
     subst hxy
     clear hcell hcell' hx hy
     go_wp2
     go_quiet (fail)
     go_wp2
     go_roundw
     case rel => exact ⟨k + 1, _, by go_num, by omega, HT.out, rfl⟩
     case measure => simp [intOf]; omega
    ·have HT : Hid (decide (L = M) = false) := by
      show decide (L = M) = false
      simp only [decide_eq_false_iff_not]
      intro e
      rw [e, hy] at hx
      exact hxy (Option.some.inj hx).symm
     have j1 : (x == y) = false := by simp [hxy]
     have j2 : (x != y) = true := by simp [hxy]
     clear hcell hcell' hx hy hxy
     go_wp2
     go_quiet (fail)
     go_wp2
     go_ret
     exact ⟨by rw [HT.out]; rfl, d + _, World.drewN_drewN _ _ _⟩
   ·have i1 : ¬ ((k : Int) < (n : Int)) := by omega
    have HT : Hid (decide (L = M) = true) := by
     show decide (L = M) = true
     have := HE.out
     rw [List.take_of_length_le (by rw [HZ.out]; omega), List.take_of_length_le (by rw [HZ'.out]; omega)] at this
     simp [this]
    go_wp2
    go_ret
    exact ⟨by rw [HT.out]; rfl, _, rfl⟩
 ·have HT : Hid (decide (L = M) = false) := by
   show decide (L = M) = false
   simp only [decide_eq_false_iff_not]
   intro e
   have h1 := HZ.out
   have h2 := HZ'.out
   rw [e] at h1
   omega
  have j1 : ((n : Int) == (n' : Int)) = false := by simp; omega
  have j2 : ((n : Int) != (n' : Int)) = true := by simp; omega
  go_enter Tryz.func70, Tryz.ntmps70
  go_wp2
  go_ret
  exact ⟨by rw [HT.out]; rfl, 0, rfl⟩

end Go.Proofs.YteepobghdpnabaaGreat
