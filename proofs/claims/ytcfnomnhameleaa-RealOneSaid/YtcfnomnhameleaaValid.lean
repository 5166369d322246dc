/-
  Which transactions, and which batches, may be: the page's own.
-/
import Derived.Test.YtcfnomnhameleaaZC
import Derived.Test.YtcfnomnhameleaaZB
namespace Go.Proofs.Ytcfnomnhameleaa
open Go.RowKit


theorem rid_is (b : Bool) (n : Int) (h : idB n = b) (w : World) : Calls Try.prog 62 #[.int .i64 n] w fun e w' => e = .returned (.bool b) ∧ w = w' := by
  cases b with
  | true =>
    obtain ⟨h1, h2⟩ : 1 ≤ n ∧ n ≤ 1099511627776 := by simpa [idB] using h
    clear h
    go_enter Try.func62, Try.ntmps62
    go_wp2
    go_ret
    exact ⟨ret_bool (by simp), rfl⟩
  | false =>
    have h0 : ¬ (1 ≤ n ∧ n ≤ 1099511627776) := by simpa [idB] using h
    clear h
    by_cases h1 : 1 ≤ n
    · have h2 : ¬ (n ≤ 1099511627776) := by omega
      clear h0
      go_enter Try.func62, Try.ntmps62
      go_wp2
      go_ret
      exact ⟨ret_bool (by simp), rfl⟩
    · clear h0
      go_enter Try.func62, Try.ntmps62
      go_wp2
      go_ret
      exact ⟨ret_bool (by simp), rfl⟩

theorem txB_no {t : TxD} (h : txB t = false) : idB t.s = false ∨ (idB t.s = true ∧ idB t.q = false) ∨ (idB t.s = true ∧ idB t.q = true ∧ t.k.size < 1) ∨ (idB t.s = true ∧ idB t.q = true ∧ 1 ≤ t.k.size ∧ 16 < t.k.size) ∨
    (idB t.s = true ∧ idB t.q = true ∧ 1 ≤ t.k.size ∧ t.k.size ≤ 16 ∧ 32 < t.v.size) := by
  have h0 : ¬ (idB t.s = true ∧ idB t.q = true ∧ 1 ≤ t.k.size ∧ t.k.size ≤ 16 ∧ t.v.size ≤ 32) := by simpa [txB] using h
  cases h1 : idB t.s with
  | false => exact .inl rfl
  | true =>
    cases h2 : idB t.q with
    | false => exact .inr (.inl ⟨rfl, rfl⟩)
    | true =>
      have h3 : ¬ (1 ≤ t.k.size ∧ t.k.size ≤ 16 ∧ t.v.size ≤ 32) := fun h => h0 ⟨h1, h2, h⟩
      rcases Nat.lt_or_ge t.k.size 1 with k1 | k1
      · exact .inr (.inr (.inl ⟨rfl, rfl, k1⟩))
      · rcases Nat.lt_or_ge 16 t.k.size with k2 | k2
        · exact .inr (.inr (.inr (.inl ⟨rfl, rfl, k1, k2⟩)))
        · exact .inr (.inr (.inr (.inr ⟨rfl, rfl, k1, k2, by omega⟩)))

set_option maxHeartbeats 1000000 in
theorem rtx_is (b : Bool) (t : TxD) (h : txB t = b) (w : World) : Calls Try.prog 83 #[t.val] w (Tells w.heap.size w (.bool b)) := by
  have hbel := (Below.refl w.heap.size w).alloc (Nat.le_refl _) (.cells t.cells.toArray 99)
  cases b with
  | true =>
    obtain ⟨h1, h2, h3, h4, h5⟩ : idB t.s = true ∧ idB t.q = true ∧ 1 ≤ t.k.size ∧ t.k.size ≤ 16 ∧ t.v.size ≤ 32 := by simpa [txB] using h
    obtain ⟨ts, tq, tk, tv⟩ := t
    simp only at h1 h2 h3 h4 h5
    have H1 := Lib.hid h1
    have H2 := Lib.hid h2
    have g3 : (1 : Int) ≤ (tk.size : Int) := by omega
    have g4 : (tk.size : Int) ≤ 16 := by omega
    have g5 : (tv.size : Int) ≤ 32 := by omega
    clear h h1 h2
    unfold TxD.val
    go_enter Try.func83, Try.ntmps83
    go_wp2_with (go_at_call 62; refine (rid_is true _ (by first | exact H1.out | exact H2.out) _).mono ?_; rintro e w' ⟨rfl, rfl⟩)
    go_ret
    exact ⟨ret_bool (by simp), hbel⟩
  | false =>
    have hn := txB_no h
    obtain ⟨ts, tq, tk, tv⟩ := t
    simp only at hn
    clear h
    unfold TxD.val
    rcases hn with h1 | ⟨h1, h2⟩ | ⟨h1, h2, h3⟩ | ⟨h1, h2, h3, h4⟩ | ⟨h1, h2, h3, h4, h5⟩
    · have H1 := Lib.hid h1
      clear h1
      go_enter Try.func83, Try.ntmps83
      go_wp2_with fail
      refine (rid_is false _ H1.out _).mono ?_
      rintro e w' ⟨rfl, rfl⟩
      go_wp2_with fail
      go_ret
      exact ⟨ret_bool (by simp), hbel⟩
    · have H1 := Lib.hid h1
      have H2 := Lib.hid h2
      clear h1 h2
      go_enter Try.func83, Try.ntmps83
      go_wp2_with fail
      refine (rid_is true _ H1.out _).mono ?_
      rintro e w' ⟨rfl, rfl⟩
      go_wp2_with fail
      refine (rid_is false _ H2.out _).mono ?_
      rintro e w' ⟨rfl, rfl⟩
      go_wp2_with fail
      go_ret
      exact ⟨ret_bool (by simp), hbel⟩
    · have H1 := Lib.hid h1
      have H2 := Lib.hid h2
      have g3 : ¬ ((1 : Int) ≤ (tk.size : Int)) := by omega
      clear h1 h2
      go_enter Try.func83, Try.ntmps83
      go_wp2_with fail
      refine (rid_is true _ H1.out _).mono ?_
      rintro e w' ⟨rfl, rfl⟩
      go_wp2_with fail
      refine (rid_is true _ H2.out _).mono ?_
      rintro e w' ⟨rfl, rfl⟩
      go_wp2_with fail
      go_ret
      exact ⟨ret_bool (by simp), hbel⟩
    · have H1 := Lib.hid h1
      have H2 := Lib.hid h2
      have g3 : (1 : Int) ≤ (tk.size : Int) := by omega
      have g4 : ¬ ((tk.size : Int) ≤ 16) := by omega
      clear h1 h2
      go_enter Try.func83, Try.ntmps83
      go_wp2_with fail
      refine (rid_is true _ H1.out _).mono ?_
      rintro e w' ⟨rfl, rfl⟩
      go_wp2_with fail
      refine (rid_is true _ H2.out _).mono ?_
      rintro e w' ⟨rfl, rfl⟩
      go_wp2_with fail
      go_ret
      exact ⟨ret_bool (by simp), hbel⟩
    · have H1 := Lib.hid h1
      have H2 := Lib.hid h2
      have g3 : (1 : Int) ≤ (tk.size : Int) := by omega
      have g4 : (tk.size : Int) ≤ 16 := by omega
      have g5 : ¬ ((tv.size : Int) ≤ 32) := by omega
      clear h1 h2
      go_enter Try.func83, Try.ntmps83
      go_wp2_with fail
      refine (rid_is true _ H1.out _).mono ?_
      rintro e w' ⟨rfl, rfl⟩
      go_wp2_with fail
      refine (rid_is true _ H2.out _).mono ?_
      rintro e w' ⟨rfl, rfl⟩
      go_wp2_with fail
      go_ret
      exact ⟨ret_bool (by simp; omega), hbel⟩

theorem all_take {L : List TxD} {k : Nat} {t : TxD} (h : L[k]? = some t) (ha : (L.take k).all txB = true) (ht : txB t = true) : (L.take (k + 1)).all txB = true := by
  rw [take_next h, List.all_append, ha]; simp [ht]
theorem all_no {L : List TxD} {k : Nat} {t : TxD} (h : L[k]? = some t) (ht : txB t = false) : L.all txB = false := by
  rw [List.all_eq_false]
  exact ⟨t, List.mem_of_getElem? h, by simp [ht]⟩

set_option maxHeartbeats 1000000 in
theorem rtxs_any (A : Option Addr) (c n : Nat) (L : List TxD) (w : World) (hz : L.length = n) (hr : Rd w A (txs L)) (hn : n ≤ 1073741824) :
    Calls Try.prog 63 #[.slice A n c] w (Tells w.heap.size w (.bool (L.all txB))) := by
  have HZ := Lib.hid hz
  clear hz
  go_enter Try.func63, Try.ntmps63
  go_wp2_with fail
  go_loopw [3] (fun i wr => ∃ k : Nat, i = .int .i64 k ∧ k ≤ n ∧ Hid ((L.take k).all txB = true) ∧ Below w.heap.size w wr) (fun i _ => n - (intOf i).toNat)
  case atStart => exact ⟨0, rfl, by omega, by simp [Hid], Below.refl _ _⟩
  case round =>
    obtain ⟨k, rfl, hk, HA, hb⟩ := hrel
    by_cases hlt : k < n
    · obtain ⟨b, off, ⟨ts, tq, tk, tv⟩, rfl, hbl, hat, c0, c1, c2, c3⟩ := (hr.below hb).tx (i := k) (by rw [HZ.out]; exact hlt)
      simp only at c0 c1 c2 c3
      have i0 : (0 : Int) ≤ (k : Int) := by omega
      have i1 : (k : Int) < (n : Int) := by omega
      cases ht : txB ⟨ts, tq, tk, tv⟩ with
      | true =>
        have HN := Lib.hid (all_take hat HA.out ht)
        have HT := Lib.hid ht
        clear hat ht
        go_wp2_with fail
        refine (rtx_is true ⟨ts, tq, tk, tv⟩ HT.out _).mono ?_
        rintro e w1 ⟨rfl, hb1⟩
        have hb2 := hb.trans (hb1.mono hb.size)
        clear hb1 hb
        go_wp2_with fail
        go_roundw
        case rel => exact ⟨k + 1, by go_num, by omega, HN.out, hb2⟩
        case measure => simp [intOf]; omega
      | false =>
        have HN := Lib.hid (all_no hat ht)
        have HT := Lib.hid ht
        clear hat ht
        go_wp2_with fail
        refine (rtx_is false ⟨ts, tq, tk, tv⟩ HT.out _).mono ?_
        rintro e w1 ⟨rfl, hb1⟩
        have hb2 := hb.trans (hb1.mono hb.size)
        clear hb1 hb
        go_wp2_with fail
        go_ret
        exact ⟨by rw [HN.out]; rfl, hb2⟩
    · have i1 : ¬ ((k : Int) < (n : Int)) := by omega
      have HN : Hid (L.all txB = true) := by
        have := HA.out
        rwa [List.take_of_length_le (by rw [HZ.out]; omega)] at this
      go_wp2_with fail
      go_ret
      exact ⟨by rw [HN.out]; rfl, hb⟩

theorem batB_no {a n : Int} {L : List TxD} (h : batB a n L = false) : (a < 1) ∨ (1 ≤ a ∧ 16 < a) ∨ ((1 ≤ a ∧ a ≤ 16) ∧ idB n = false) ∨ ((1 ≤ a ∧ a ≤ 16) ∧ idB n = true ∧ L.length < 1) ∨ ((1 ≤ a ∧ a ≤ 16) ∧ idB n = true ∧ 1 ≤ L.length ∧ 8 < L.length) ∨
    ((1 ≤ a ∧ a ≤ 16) ∧ idB n = true ∧ 1 ≤ L.length ∧ L.length ≤ 8 ∧ L.all txB = false) := by
  have h0 : ¬ ((1 ≤ a ∧ a ≤ 16) ∧ idB n = true ∧ 1 ≤ L.length ∧ L.length ≤ 8 ∧ L.all txB = true) := by simpa only [batB, decide_eq_false_iff_not] using h
  by_cases a1 : 1 ≤ a
  · by_cases a2 : a ≤ 16
    · cases h2 : idB n with
      | false => exact .inr (.inr (.inl ⟨⟨a1, a2⟩, rfl⟩))
      | true =>
        rcases Nat.lt_or_ge L.length 1 with k1 | k1
        · exact .inr (.inr (.inr (.inl ⟨⟨a1, a2⟩, rfl, k1⟩)))
        · rcases Nat.lt_or_ge 8 L.length with k2 | k2
          · exact .inr (.inr (.inr (.inr (.inl ⟨⟨a1, a2⟩, rfl, k1, k2⟩))))
          · cases h3 : L.all txB with
            | false => exact .inr (.inr (.inr (.inr (.inr ⟨⟨a1, a2⟩, rfl, k1, k2, rfl⟩))))
            | true => exact absurd ⟨⟨a1, a2⟩, h2, k1, k2, h3⟩ h0
    · exact .inr (.inl ⟨a1, by omega⟩)
  · exact .inl (by omega)
theorem batB_yes {a n : Int} {L : List TxD} (h : batB a n L = true) : (1 ≤ a ∧ a ≤ 16) ∧ idB n = true ∧ 1 ≤ L.length ∧ L.length ≤ 8 ∧ L.all txB = true := by
  simpa only [batB, decide_eq_true_eq] using h
theorem rtxs_is (b : Bool) (A : Option Addr) (c n : Nat) (L : List TxD) (w : World) (h : L.all txB = b) (hz : L.length = n) (hr : Rd w A (txs L)) (hn : n ≤ 1073741824) :
    Calls Try.prog 63 #[.slice A n c] w (Tells w.heap.size w (.bool b)) := h ▸ rtxs_any A c n L w hz hr hn

set_option maxHeartbeats 2000000 in
theorem rbatch_is (b : Bool) (a N : Int) (A : Option Addr) (c n : Nat) (L : List TxD) (w : World) (h : batB a N L = b) (hz : L.length = n) (hr : Rd w A (txs L)) :
    Calls Try.prog 38 #[.agg #[.int .i64 a, .int .i64 N, .slice A n c]] w (Tells w.heap.size w (.bool b)) := by
  have hbel := (Below.refl w.heap.size w).alloc (Nat.le_refl _) (.cells #[.int .i64 a, .int .i64 N, .slice A n c] 36)
  have hr1 := hr.alloc (.cells #[.int .i64 a, .int .i64 N, .slice A n c] 36)
  cases b with
  | true =>
    obtain ⟨⟨a1, a2⟩, h2, h3, h4, h5⟩ := batB_yes h
    rw [hz] at h3 h4
    have HZ := Lib.hid hz
    have H2 := Lib.hid h2
    have H5 := Lib.hid h5
    have g3 : (1 : Int) ≤ (n : Int) := by omega
    have g4 : (n : Int) ≤ 8 := by omega
    clear h hz h2 h5
    go_enter Try.func38, Try.ntmps38
    go_wp2_with fail
    refine (rid_is true _ H2.out _).mono ?_
    rintro e w' ⟨rfl, rfl⟩
    go_wp2_with fail
    refine (rtxs_is true A c n L _ H5.out HZ.out hr1 (by omega)).mono ?_
    rintro e w1 ⟨rfl, hb1⟩
    go_wp2_with fail
    go_ret
    exact ⟨ret_bool (by simp), hbel.trans (hb1.mono hbel.size)⟩
  | false =>
    have hno := batB_no h
    rw [hz] at hno
    have HZ := Lib.hid hz
    clear h hz
    rcases hno with a1 | ⟨a1, a2⟩ | ⟨⟨a1, a2⟩, h2⟩ | ⟨⟨a1, a2⟩, h2, h3⟩ | ⟨⟨a1, a2⟩, h2, h3, h4⟩ | ⟨⟨a1, a2⟩, h2, h3, h4, h5⟩
    · have g1 : ¬ (1 ≤ a) := by omega
      go_enter Try.func38, Try.ntmps38
      go_wp2_with fail
      go_ret
      exact ⟨ret_bool (by simp), hbel⟩
    · have g2 : ¬ (a ≤ 16) := by omega
      go_enter Try.func38, Try.ntmps38
      go_wp2_with fail
      go_ret
      exact ⟨ret_bool (by simp), hbel⟩
    · have H2 := Lib.hid h2
      clear h2
      go_enter Try.func38, Try.ntmps38
      go_wp2_with fail
      refine (rid_is false _ H2.out _).mono ?_
      rintro e w' ⟨rfl, rfl⟩
      go_wp2_with fail
      go_ret
      exact ⟨ret_bool (by simp), hbel⟩
    · have H2 := Lib.hid h2
      have g3 : ¬ ((1 : Int) ≤ (n : Int)) := by omega
      clear h2
      go_enter Try.func38, Try.ntmps38
      go_wp2_with fail
      refine (rid_is true _ H2.out _).mono ?_
      rintro e w' ⟨rfl, rfl⟩
      go_wp2_with fail
      go_ret
      exact ⟨ret_bool (by simp), hbel⟩
    · have H2 := Lib.hid h2
      have g3 : (1 : Int) ≤ (n : Int) := by omega
      have g4 : ¬ ((n : Int) ≤ 8) := by omega
      clear h2
      go_enter Try.func38, Try.ntmps38
      go_wp2_with fail
      refine (rid_is true _ H2.out _).mono ?_
      rintro e w' ⟨rfl, rfl⟩
      go_wp2_with fail
      go_ret
      exact ⟨ret_bool (by simp), hbel⟩
    · have H2 := Lib.hid h2
      have H5 := Lib.hid h5
      have g3 : (1 : Int) ≤ (n : Int) := by omega
      have g4 : (n : Int) ≤ 8 := by omega
      clear h2 h5
      go_enter Try.func38, Try.ntmps38
      go_wp2_with fail
      refine (rid_is true _ H2.out _).mono ?_
      rintro e w' ⟨rfl, rfl⟩
      go_wp2_with fail
      refine (rtxs_is false A c n L _ H5.out HZ.out hr1 (by omega)).mono ?_
      rintro e w1 ⟨rfl, hb1⟩
      go_wp2_with fail
      go_ret
      exact ⟨ret_bool (by simp), hbel.trans (hb1.mono hbel.size)⟩
end Go.Proofs.Ytcfnomnhameleaa
