/-
  A slice of what is asked (a batch, bytes) that came in: its cells at each index, and the lists that they show. And what of it is let go.
-/
import Derived.Test.YtkkamcdilpcehaaValid
import Derived.Test.YtkkamcdilpcehaaAsk
namespace Go.Proofs.Ytkkamcdilpcehaa
open Go.RowKit Go.ChangeShapes Go.WideShapes Go.Deep

theorem list_of {α : Type} {Q : Nat → α → Prop} : ∀ {n : Nat}, (∀ i, i < n → ∃ a, Q i a) → ∃ L : List α, L.length = n ∧ ∀ i a, L[i]? = some a → Q i a
  | 0, _ => ⟨[], rfl, fun i a h => by simp at h⟩
  | n + 1, h => by
    obtain ⟨L, hl, hL⟩ := list_of (n := n) fun i hi => h i (by omega)
    obtain ⟨a, ha⟩ := h n (by omega)
    refine ⟨L ++ [a], by simp [hl], fun i b hb => ?_⟩
    rcases Nat.lt_or_ge i L.length with h' | h'
    · rw [List.getElem?_append_left h'] at hb; exact hL i b hb
    · rw [List.getElem?_append_right h'] at hb
      have hi : i - L.length = 0 := by
        rcases Nat.eq_zero_or_pos (i - L.length) with h0 | h0
        · exact h0
        · rw [List.getElem?_eq_none (by simp; omega)] at hb; cases hb
      rw [hi] at hb
      simp only [List.getElem?_cons_zero, Option.some.injEq] at hb
      subst hb
      obtain rfl : i = n := by omega
      exact ha
theorem cells_tx : Try.prog.cellsOf 34 = 4 := by kernel_rfl
theorem cells_txs : Try.prog.cellsOf 24 = 1 := by kernel_rfl
theorem cells_batch : Try.prog.cellsOf 26 = 3 := by kernel_rfl
theorem txs_get {L : List TxD} {i : Nat} {v : Value} (h : (txs L)[i]? = some v) : ∃ t, L[i / 4]? = some t ∧ t.cells[i % 4]? = some v := by
  have hl : i < (txs L).length := by
    rcases Nat.lt_or_ge i (txs L).length with h' | h'
    · exact h'
    · rw [List.getElem?_eq_none h'] at h; cases h
  rw [txs_length] at hl
  obtain ⟨t, ht⟩ := txD_at (L := L) (i := i / 4) (by omega)
  refine ⟨t, ht, ?_⟩
  obtain ⟨h0, h1, h2, h3⟩ := txs_at ht
  rcases (show i % 4 = 0 ∨ i % 4 = 1 ∨ i % 4 = 2 ∨ i % 4 = 3 by omega) with e | e | e | e
  · rw [show i = i / 4 * 4 by omega, h0, Option.some.injEq] at h
    rw [e, ← h]; rfl
  · rw [show i = i / 4 * 4 + 1 by omega, h1, Option.some.injEq] at h
    rw [e, ← h]; rfl
  · rw [show i = i / 4 * 4 + 2 by omega, h2, Option.some.injEq] at h
    rw [e, ← h]; rfl
  · rw [show i = i / 4 * 4 + 3 by omega, h3, Option.some.injEq] at h
    rw [e, ← h]; rfl

/-- a transaction whose numbers fit, and whose texts are within reach -/
def TxOk (t : TxD) : Prop := (-9223372036854775808 ≤ t.s ∧ t.s ≤ 9223372036854775807) ∧ (-9223372036854775808 ≤ t.q ∧ t.q ≤ 9223372036854775807) ∧ t.k.size ≤ 140737488351232 ∧ t.v.size ≤ 140737488351232

set_option maxHeartbeats 800000 in
theorem open_txs {H : Type} {enc : TypeId × Value → H} {w : World} {base : Nat} {spare : Nat → Bool} {held : Bool} {fuel : Nat} {v : Value} {x : DataW H × List MemPlace}
    (h : DataW.trod enc Try.prog w base spare held fuel 24 [v] = some x) (hw : ∀ n ∈ x.1.weights Try.prog 24, n ≤ reachBytes) :
    ∃ (A : Option Addr) (c : Nat) (L : List TxD), v = .slice A L.length c ∧ L.length ≤ c ∧ c ≤ maxLen ∧ Rd w A (txs L) ∧ ∀ t ∈ L, TxOk t := by
  rcases open_slice Try.underlying24 h with ⟨h0, _⟩ | ⟨ad, len, cap, m, n, D, Pl, h0, _, hl, hm, hmm, hz, hi⟩
  · simp only [List.cons.injEq, and_true] at h0
    subst h0
    exact ⟨none, 0, [], rfl, by simp, by simp [maxLen], Rd.nil _ _, fun t ht => by simp at ht⟩
  · simp only [List.cons.injEq, and_true] at h0
    subst h0
    have each : ∀ i, i < len → ∃ t : TxD, TxOk t ∧ ∀ j u, t.cells[j]? = some u → w.cell? (ad.add (i * 4 + j)) = some u := by
      intro i hil
      have him : i < m := by rw [hmm]; split <;> omega
      obtain ⟨cs, hc, ht⟩ := hi i him
      rw [cells_tx] at hc
      obtain ⟨_, hcl, hat⟩ := World.cells?_some hc
      obtain ⟨ys, n', _, hag, hlen, hyl, hf⟩ := DataW.trod_struct Try.underlying34 ht
      match cs, hcl with
      | [c0, c1, c2, c3], _ =>
        match ys, hyl with
        | [y0, y1, y2, y3], _ =>
          have f0 := hf 0 _ rfl
          have f1 := hf 1 _ rfl
          have f2 := hf 2 _ rfl
          have f3 := hf 3 _ rfl
          simp [cells_int, cells_str] at f0 f1 f2 f3
          obtain ⟨r, e0, _, wr⟩ := DataW.trod_int Try.underlying3 f0
          obtain ⟨s, e1, _, ws⟩ := DataW.trod_int Try.underlying3 f1
          obtain ⟨k, e2, g2, _⟩ := DataW.trod_string Try.underlying9 f2
          obtain ⟨q, e3, g3, _⟩ := DataW.trod_string Try.underlying9 f3
          have hD : D i = .agg [y0.1, y1.1, y2.1, y3.1] := by
            have := congrArg Prod.fst hag
            simpa using this
          have hwi : ∀ n ∈ (D i).weights Try.prog 34, n ≤ reachBytes := fun n hn => hw n (by
            rw [hz]
            exact weights_slice Try.underlying24 (List.mem_map.2 ⟨i, List.mem_range.2 hil, rfl⟩) hn)
          have hk : k.data.toList.length ≤ reachBytes := hwi _ (by
            rw [hD, DataW.weights, Try.underlying34]
            refine DataW.weights_mem_each (j := 2) (t := 9) (d := y2.1) rfl rfl _ ?_
            rw [g2]; simp [DataW.weights])
          have hq : q.data.toList.length ≤ reachBytes := hwi _ (by
            rw [hD, DataW.weights, Try.underlying34]
            refine DataW.weights_mem_each (j := 3) (t := 9) (d := y3.1) rfl rfl _ ?_
            rw [g3]; simp [DataW.weights])
          simp at e0 e1 e2 e3
          subst e0 e1 e2 e3
          refine ⟨⟨r, s, k, q⟩, ⟨wf_i64 wr, wf_i64 ws, hk, hq⟩, fun j u hu => ?_⟩
          rw [← add_add, hat j (by
            rcases Nat.lt_or_ge j 4 with h' | h'
            · exact h'
            · rw [List.getElem?_eq_none (by simp [TxD.cells]; omega)] at hu; cases hu)]
          exact hu
    obtain ⟨L, hL, hLe⟩ := list_of each
    refine ⟨some ad, cap, L, by rw [hL], by omega, hm, rd_of fun i u hu => ?_, fun t ht => ?_⟩
    · obtain ⟨t, h1, h2⟩ := txs_get hu
      have := (hLe _ _ h1).2 _ _ h2
      rwa [show i / 4 * 4 + i % 4 = i by omega] at this
    · obtain ⟨i, hi'⟩ := List.getElem?_of_mem ht
      exact (hLe _ _ hi').1

/-- what is asked at one index: a batch, bytes -/
structure BAsked where
  a : Int
  N : Int
  AT : Option Addr
  cT : Nat
  L : List TxD
  AX : Option Addr
  cX : Nat
  X : List Int

structure BAskOk (w : World) (q : BAsked) : Prop where
  wa : -9223372036854775808 ≤ q.a ∧ q.a ≤ 9223372036854775807
  wN : -9223372036854775808 ≤ q.N ∧ q.N ≤ 9223372036854775807
  hT : q.L.length ≤ q.cT
  mT : q.cT ≤ maxLen
  rT : Rd w q.AT (txs q.L)
  sT : ∀ t ∈ q.L, TxOk t
  hX : q.X.length ≤ q.cX
  mX : q.cX ≤ maxLen
  rX : Rd w q.AX (u8s q.X)
  sX : Byts q.X

def BAskAt (w : World) (a : Option Addr) (i : Nat) : Prop :=
  ∃ (b off : Nat) (q : BAsked), a = some ⟨b, off, none⟩ ∧ b < w.heap.size ∧ BAskOk w q ∧
    w.cell? ⟨b, off + i * 4, none⟩ = some (.int .i64 q.a) ∧ w.cell? ⟨b, off + i * 4 + 1, none⟩ = some (.int .i64 q.N) ∧
    w.cell? ⟨b, off + i * 4 + 2, none⟩ = some (.slice q.AT q.L.length q.cT) ∧ w.cell? ⟨b, off + i * 4 + 3, none⟩ = some (.slice q.AX q.X.length q.cX)

def BAsks (w : World) (a : Option Addr) (len cap : Nat) : Prop := len ≤ cap ∧ cap ≤ maxLen ∧ ∀ i, i < len → BAskAt w a i

theorem cells_bask : Try.prog.cellsOf 29 = 4 := by kernel_rfl

set_option maxHeartbeats 800000 in
theorem open_basks {H : Type} {enc : TypeId × Value → H} {w : World} {base : Nat} {spare : Nat → Bool} {held : Bool} {fuel : Nat} {a : Option Addr} {len cap : Nat} {z : DataW H × List MemPlace}
    (h : DataW.trod enc Try.prog w base spare held fuel 22 [.slice a len cap] = some z) (hw : ∀ n ∈ z.1.weights Try.prog 22, n ≤ reachBytes) : BAsks w a len cap := by
  rcases open_slice Try.underlying22 h with ⟨hcs, _⟩ | ⟨ad, len', cap', m, n, D, Pl, hcs, _, hl, hm, hmm, hz, hi⟩
  · simp at hcs
    obtain ⟨rfl, rfl, rfl⟩ := hcs
    exact ⟨by omega, by unfold maxLen; omega, fun i hi => absurd hi (by omega)⟩
  · simp at hcs
    obtain ⟨rfl, rfl, rfl⟩ := hcs
    refine ⟨hl, hm, fun i hil => ?_⟩
    have him : i < m := by rw [hmm]; split <;> omega
    have hspot : ad.spot = none := by
      obtain ⟨cs, hc, _⟩ := hi 0 (by omega)
      rw [cells_bask] at hc
      obtain ⟨_, hcl, hat⟩ := World.cells?_some hc
      have h0 := hat 0 (by omega)
      rw [List.getElem?_eq_getElem (by omega)] at h0
      have := World.cell?_spot h0
      simpa [Addr.add] using this
    obtain ⟨cs, hc, ht⟩ := hi i him
    rw [cells_bask] at hc
    obtain ⟨_, hcl, hat⟩ := World.cells?_some hc
    obtain ⟨ys, n', _, hag, hlen, hyl, hf⟩ := DataW.trod_struct Try.underlying29 ht
    match cs, hcl with
    | [c0, c1, c2, c3], _ =>
      match ys, hyl with
      | [y0, y1], _ =>
        have f0 := hf 0 _ rfl
        have f1 := hf 1 _ rfl
        simp [cells_batch, cells_u8s] at f0 f1
        have hD : D i = .agg [y0.1, y1.1] := by
          have := congrArg Prod.fst hag
          simpa using this
        have hwi : ∀ n ∈ (D i).weights Try.prog 29, n ≤ reachBytes := fun n hn => hw n (by
          rw [hz]
          exact weights_slice Try.underlying22 (List.mem_map.2 ⟨i, List.mem_range.2 hil, rfl⟩) hn)
        have hw0 : ∀ n ∈ y0.1.weights Try.prog 26, n ≤ reachBytes := fun n hn => hwi n (by
          rw [hD, DataW.weights, Try.underlying29]
          exact DataW.weights_mem_each (j := 0) (t := 26) (d := y0.1) rfl rfl n hn)
        obtain ⟨AX, cX, X, e3, hX, mX, rX, sX⟩ := open_nums Try.underlying27 Try.underlying5 cells_u8 f1
        obtain ⟨zs, n2, _, hag2, hlen2, hzl, hf2⟩ := DataW.trod_struct Try.underlying26 f0
        match zs, hzl with
        | [z0, z1, z2], _ =>
          have g0 := hf2 0 _ rfl
          have g1 := hf2 1 _ rfl
          have g2 := hf2 2 _ rfl
          simp [cells_int, cells_txs] at g0 g1 g2
          obtain ⟨r, e0, _, wr⟩ := DataW.trod_int Try.underlying3 g0
          obtain ⟨s, e1, _, ws⟩ := DataW.trod_int Try.underlying3 g1
          have hD2 : y0.1 = .agg [z0.1, z1.1, z2.1] := by
            have := congrArg Prod.fst hag2
            simpa using this
          have hw2 : ∀ n ∈ z2.1.weights Try.prog 24, n ≤ reachBytes := fun n hn => hw0 n (by
            rw [hD2, DataW.weights, Try.underlying26]
            exact DataW.weights_mem_each (j := 2) (t := 24) (d := z2.1) rfl rfl n hn)
          obtain ⟨AT, cT, L, e2, hT, mT, rT, sT⟩ := open_txs g2 hw2
          simp at e0 e1
          subst e0 e1 e2 e3
          have a0 := hat 0 (by omega)
          have a1 := hat 1 (by omega)
          have a2 := hat 2 (by omega)
          have a3 := hat 3 (by omega)
          rw [add_add] at a0 a1 a2 a3
          obtain ⟨b, off, spot⟩ := ad
          subst hspot
          simp only [Addr.add_lit] at a0 a1 a2 a3
          exact ⟨b, off, ⟨r, s, AT, cT, L, AX, cX, X⟩, rfl, lt_of_cell a0, ⟨wf_i64 wr, wf_i64 ws, hT, mT, rT, sT, hX, mX, rX, fun n hn => wf_u8 (sX n hn)⟩, a0, a1, a2, a3⟩

theorem BAskOk.below {w w' : World} {q : BAsked} (h : BAskOk w q) (hb : Below w.heap.size w w') : BAskOk w' q :=
  ⟨h.wa, h.wN, h.hT, h.mT, h.rT.below hb, h.sT, h.hX, h.mX, h.rX.below hb, h.sX⟩
/-- the cells of what is asked, in every later world -/
theorem BAskAt.all {w : World} {a : Option Addr} {i : Nat} (h : BAskAt w a i) : ∃ (b off : Nat) (q : BAsked) (nT nX : Nat), a = some ⟨b, off, none⟩ ∧ q.L.length = nT ∧ q.X.length = nX ∧ ∀ wX, Below w.heap.size w wX → BAskOk wX q ∧
    wX.cell? ⟨b, off + i * 4, none⟩ = some (.int .i64 q.a) ∧ wX.cell? ⟨b, off + i * 4 + 1, none⟩ = some (.int .i64 q.N) ∧
    wX.cell? ⟨b, off + i * 4 + 2, none⟩ = some (.slice q.AT nT q.cT) ∧ wX.cell? ⟨b, off + i * 4 + 3, none⟩ = some (.slice q.AX nX q.cX) := by
  obtain ⟨b, off, q, rfl, hlt, ok, c0, c1, c2, c3⟩ := h
  exact ⟨b, off, q, _, _, rfl, rfl, rfl, fun wX hb => ⟨ok.below hb, (hb.cell (p := ⟨b, _, none⟩) hlt).trans c0, (hb.cell (p := ⟨b, _, none⟩) hlt).trans c1, (hb.cell (p := ⟨b, _, none⟩) hlt).trans c2, (hb.cell (p := ⟨b, _, none⟩) hlt).trans c3⟩⟩

/-- whether it is let go; if not it weighs little -/
def BHeavy (n nX : Nat) (L : List TxD) (w : World) (en : Ending) (w' : World) : Prop := ∃ b : Bool, en = .returned (.bool b) ∧ Below w.heap.size w w' ∧ (b = false → n + totX L n ≤ 5000 ∧ nX ≤ 5000)

set_option maxRecDepth 100000 in
set_option maxHeartbeats 800000 in
theorem bheavy_any (a N : Int) (AT : Option Addr) (cT nT : Nat) (L : List TxD) (AX : Option Addr) (cX nX : Nat) (w : World) (hz : L.length = nT) (hr : Rd w AT (txs L)) (hs : ∀ t ∈ L, TxOk t) (hc : nT ≤ cT) (hm : cT ≤ maxLen) :
    Calls Try.prog 9 #[.agg #[.int .i64 a, .int .i64 N, .slice AT nT cT, .slice AX nX cX]] w (BHeavy nT nX L w) := by
  have HZ := Lib.hid hz
  have HS : Hid (∀ t ∈ L, t.k.size ≤ 140737488351232 ∧ t.v.size ≤ 140737488351232) := fun t ht => (hs t ht).2.2
  have hr1 := hr.alloc (.cells #[.int .i64 a, .int .i64 N, .slice AT nT cT, .slice AX nX cX] 29)
  clear hz hs
  go_enter Try.func9, Try.ntmps9
  go_wp2_with fail
  refine (txWeight_any AT cT nT L _ HZ.out hr1 HS.out hc hm).mono ?_
  rintro e w' ⟨S, d, rfl, rfl, hT⟩
  have HT := Lib.hid hT
  have hb1 := below_n ((Below.refl w.heap.size w).alloc (Nat.le_refl _) (.cells #[.int .i64 a, .int .i64 N, .slice AT nT cT, .slice AX nX cX] 29)) d
  clear hT
  by_cases h1 : 5000 < S
  · have j1 : (5000 : Int) < (S : Int) := by omega
    go_wp2_with fail
    go_ret
    exact ⟨true, rfl, hb1, fun h => by cases h⟩
  · have j1 : ¬ ((5000 : Int) < (S : Int)) := by omega
    by_cases h2 : 5000 < nX
    · have j2 : (5000 : Int) < (nX : Int) := by omega
      go_wp2_with fail
      go_ret
      exact ⟨true, rfl, hb1, fun h => by cases h⟩
    · have j2 : ¬ ((5000 : Int) < (nX : Int)) := by omega
      go_wp2_with fail
      go_ret
      exact ⟨false, by simp; omega, hb1, fun _ => ⟨by have := HT.out (by omega); omega, by omega⟩⟩

end Go.Proofs.Ytkkamcdilpcehaa
