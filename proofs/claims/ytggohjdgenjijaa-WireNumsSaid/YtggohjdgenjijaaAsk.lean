/-
  A slice of what is asked (a number, texts, numbers, bytes) that came in: its cells at each index, and the lists that they show. And what of it is let go.
-/
import Derived.Test.YtggohjdgenjijaaLists
import Derived.ProofKit
import Derived.OpenShut
import Derived.SliceStrings
import Derived.ChangeSlices
import Derived.Deep.Slices
import Derived.Deep.Fields
import Derived.ChangeOld
import Derived.Carry
import Derived.SizedLaws
namespace Go.Proofs.Ytggohjdgenjijaa
open Go.RowKit Go.ChangeShapes Go.WideShapes Go.Deep

theorem lt_of_cell {w : World} {a : Addr} {v : Value} (h : w.cell? a = some v) : a.block < w.heap.size := by
  rcases Nat.lt_or_ge a.block w.heap.size with hl | hl
  · exact hl
  · have e : w.heap[a.block]? = none := by simp; omega
    simp [World.cell?, e] at h

/-- a slice whose first cells are known reads as a list -/
theorem rd_of {w : World} {a : Addr} {xs : List Value} (h : ∀ i v, xs[i]? = some v → w.cell? (a.add i) = some v) : Rd w (some a) xs := fun hx => by
  obtain ⟨x, l, rfl⟩ := List.exists_cons_of_ne_nil hx
  have h0 := h 0 x rfl
  have hsp : a.spot = none := by
    have := World.cell?_spot h0
    simpa [Addr.add] using this
  obtain ⟨b, off, spot⟩ := a
  subst hsp
  refine ⟨b, off, rfl, ?_, fun i v hv => ?_⟩
  · rw [Addr.add_lit] at h0; exact lt_of_cell h0
  · have := h i v hv
    rwa [Addr.add_lit] at this

section
variable {H : Type} {enc : TypeId × Value → H} {P : Program} {w : World} {base : Nat} {spare : Nat → Bool} {held : Bool} {t e : TypeId} {fuel : Nat} {v : Value} {x : DataW H × List MemPlace}
theorem open_nums {k : IntKind} (ht : P.underlying t = some (.slice e)) (he : P.underlying e = some (.int k)) (hc : P.cellsOf e = 1) (h : DataW.trod enc P w base spare held fuel t [v] = some x) :
    ∃ (A : Option Addr) (c : Nat) (zs : List Int), v = .slice A zs.length c ∧ zs.length ≤ c ∧ c ≤ maxLen ∧ Rd w A (zs.map (Value.int k)) ∧ ∀ n ∈ zs, (Lit.int k n).wf = true := by
  rcases open_ints ht he hc h with ⟨h0, _⟩ | ⟨a, len, cap, zs, h0, _, hl, hm, hz, _, hcell, hwf⟩
  · simp only [List.cons.injEq, and_true] at h0
    subst h0
    exact ⟨none, 0, [], rfl, by simp, by simp [maxLen], Rd.nil _ _, fun n hn => by simp at hn⟩
  · simp only [List.cons.injEq, and_true] at h0
    subst h0
    have hlen : len ≤ zs.length := by rw [hz]; split <;> omega
    have htl : (zs.take len).length = len := by rw [List.length_take]; omega
    refine ⟨some a, cap, zs.take len, by rw [htl], by omega, hm, rd_of fun i u hu => ?_, fun n hn => hwf n (List.mem_of_mem_take hn)⟩
    have hi : i < len := by
      rcases Nat.lt_or_ge i len with h' | h'
      · exact h'
      · rw [List.getElem?_eq_none (by rw [List.length_map, htl]; exact h')] at hu; cases hu
    rw [hcell i (by omega)]
    rw [← hu, List.getElem?_map, List.getElem?_take_of_lt hi, List.getElem?_eq_getElem (by omega), List.getD_eq_getElem?_getD, List.getElem?_eq_getElem (by omega)]
    rfl
theorem weights_all {d : DataW H} {l : List (DataW H)} (hd : d ∈ l) {n : Nat} (hn : n ∈ d.weights P e) : n ∈ DataW.weightsAll P e l := by
  induction l with
  | nil => simp at hd
  | cons a l ih =>
    rw [DataW.weightsAll]
    rcases List.mem_cons.1 hd with rfl | hd
    · exact List.mem_append_left _ hn
    · exact List.mem_append_right _ (ih hd)
theorem weights_slice {elems rest : List (DataW H)} {d : DataW H} (ht : P.underlying t = some (.slice e)) (hd : d ∈ elems) {n : Nat} (hn : n ∈ d.weights P e) : n ∈ (DataW.slice elems rest).weights P t := by
  rw [DataW.weights, ht]
  exact List.mem_cons_of_mem _ (List.mem_append_left _ (weights_all hd hn))
theorem open_texts (ht : P.underlying t = some (.slice e)) (he : P.underlying e = some .string) (hc : P.cellsOf e = 1) (h : DataW.trod enc P w base spare held fuel t [v] = some x) (hw : ∀ n ∈ x.1.weights P t, n ≤ reachBytes) :
    ∃ (A : Option Addr) (c : Nat) (ss : List ByteArray), v = .slice A ss.length c ∧ ss.length ≤ c ∧ c ≤ maxLen ∧ Rd w A (Go.Proofs.Ytggohjdgenjijaa.strs ss) ∧ ∀ s ∈ ss, s.size ≤ 140737488351232 := by
  rcases open_strings ht he hc h with ⟨h0, _⟩ | ⟨a, len, cap, ss, h0, _, hl, hm, hz, hx, hcell, _⟩
  · simp only [List.cons.injEq, and_true] at h0
    subst h0
    exact ⟨none, 0, [], rfl, by simp, by simp [maxLen], Rd.nil _ _, fun n hn => by simp at hn⟩
  · simp only [List.cons.injEq, and_true] at h0
    subst h0
    have hlen : len ≤ ss.length := by rw [hz]; split <;> omega
    have htl : (ss.take len).length = len := by rw [List.length_take]; omega
    have hsz : ∀ s ∈ ss.take len, s.size ≤ 140737488351232 := by
      intro s hs
      refine hw s.data.toList.length ?_
      rw [hx]
      refine weights_slice ht (d := .lit (.string s.data.toList)) ?_ (by simp [DataW.weights])
      exact List.mem_map.2 ⟨s, hs, rfl⟩
    refine ⟨some a, cap, ss.take len, by rw [htl], by omega, hm, rd_of fun i u hu => ?_, hsz⟩
    have hi : i < len := by
      rcases Nat.lt_or_ge i len with h' | h'
      · exact h'
      · rw [List.getElem?_eq_none (by rw [strs_length, htl]; exact h')] at hu; cases hu
    rw [hcell i (by omega)]
    rw [← hu, Go.Proofs.Ytggohjdgenjijaa.strs, List.getElem?_map, List.getElem?_take_of_lt hi, List.getElem?_eq_getElem (by omega), List.getD_eq_getElem?_getD, List.getElem?_eq_getElem (by omega)]
    rfl
end

/-- what is asked at one index: the parts, as lists -/
structure Asked where
  N : Int
  AL : Option Addr
  cL : Nat
  L : List ByteArray
  AN : Option Addr
  cN : Nat
  S : List Int
  AB : Option Addr
  cB : Nat
  B : List Int

structure AskOk (w : World) (q : Asked) : Prop where
  wN : -9223372036854775808 ≤ q.N ∧ q.N ≤ 9223372036854775807
  hL : q.L.length ≤ q.cL
  mL : q.cL ≤ maxLen
  rL : Rd w q.AL (strs q.L)
  sL : ∀ s ∈ q.L, s.size ≤ 140737488351232
  hN : q.S.length ≤ q.cN
  mN : q.cN ≤ maxLen
  rN : Rd w q.AN (i64s q.S)
  sN : ∀ n ∈ q.S, -9223372036854775808 ≤ n ∧ n ≤ 9223372036854775807
  hB : q.B.length ≤ q.cB
  mB : q.cB ≤ maxLen
  rB : Rd w q.AB (u8s q.B)
  sB : Byts q.B

def AskAt (w : World) (a : Option Addr) (i : Nat) : Prop :=
  ∃ (b off : Nat) (q : Asked), a = some ⟨b, off, none⟩ ∧ b < w.heap.size ∧ AskOk w q ∧
    w.cell? ⟨b, off + i * 4, none⟩ = some (.int .i64 q.N) ∧ w.cell? ⟨b, off + i * 4 + 1, none⟩ = some (.slice q.AL q.L.length q.cL) ∧
    w.cell? ⟨b, off + i * 4 + 2, none⟩ = some (.slice q.AN q.S.length q.cN) ∧ w.cell? ⟨b, off + i * 4 + 3, none⟩ = some (.slice q.AB q.B.length q.cB)

def Asks (w : World) (a : Option Addr) (len cap : Nat) : Prop := len ≤ cap ∧ cap ≤ maxLen ∧ ∀ i, i < len → AskAt w a i

theorem cells_ask : Try.prog.cellsOf 28 = 4 := by kernel_rfl
theorem cells_int : Try.prog.cellsOf 3 = 1 := by kernel_rfl
theorem cells_u8 : Try.prog.cellsOf 5 = 1 := by kernel_rfl
theorem cells_str : Try.prog.cellsOf 9 = 1 := by kernel_rfl
theorem cells_ints : Try.prog.cellsOf 25 = 1 := by kernel_rfl
theorem cells_u8s : Try.prog.cellsOf 26 = 1 := by kernel_rfl
theorem cells_strs : Try.prog.cellsOf 24 = 1 := by kernel_rfl

theorem wf_i64 {n : Int} (h : (Lit.int .i64 n).wf = true) : -9223372036854775808 ≤ n ∧ n ≤ 9223372036854775807 := by
  have e1 : IntKind.i64.min = -9223372036854775808 := rfl
  have e2 : IntKind.i64.max = 9223372036854775807 := rfl
  simpa [Lit.wf, e1, e2] using h
theorem wf_u8 {n : Int} (h : (Lit.int .u8 n).wf = true) : Byt n := by
  have e1 : IntKind.u8.min = 0 := rfl
  have e2 : IntKind.u8.max = 255 := rfl
  unfold Byt
  simpa [Lit.wf, e1, e2] using h

theorem open_asks {H : Type} {enc : TypeId × Value → H} {w : World} {base : Nat} {spare : Nat → Bool} {held : Bool} {fuel : Nat} {a : Option Addr} {len cap : Nat} {z : DataW H × List MemPlace}
    (h : DataW.trod enc Try.prog w base spare held fuel 22 [.slice a len cap] = some z) (hw : ∀ n ∈ z.1.weights Try.prog 22, n ≤ reachBytes) : Asks w a len cap := by
  rcases open_slice Try.underlying22 h with ⟨hcs, _⟩ | ⟨ad, len', cap', m, n, D, Pl, hcs, _, hl, hm, hmm, hz, hi⟩
  · simp at hcs
    obtain ⟨rfl, rfl, rfl⟩ := hcs
    exact ⟨by omega, by unfold maxLen; omega, fun i hi => absurd hi (by omega)⟩
  · simp at hcs
    obtain ⟨rfl, rfl, rfl⟩ := hcs
    refine ⟨hl, hm, fun i hil => ?_⟩
    have him : i < m := by rw [hmm]; split <;> omega
    have hspot : ad.spot = none := by
      obtain ⟨cs, hc, _⟩ := hi 0 (by omega)
      rw [cells_ask] at hc
      obtain ⟨_, hcl, hat⟩ := World.cells?_some hc
      have h0 := hat 0 (by omega)
      rw [List.getElem?_eq_getElem (by omega)] at h0
      have := World.cell?_spot h0
      simpa [Addr.add] using this
    obtain ⟨cs, hc, ht⟩ := hi i him
    rw [cells_ask] at hc
    obtain ⟨_, hcl, hat⟩ := World.cells?_some hc
    obtain ⟨ys, n', _, hag, hlen, hyl, hf⟩ := DataW.trod_struct Try.underlying28 ht
    match cs, hcl with
    | [c0, c1, c2, c3], _ =>
      match ys, hyl with
      | [y0, y1, y2, y3], _ =>
        have f0 := hf 0 _ rfl
        have f1 := hf 1 _ rfl
        have f2 := hf 2 _ rfl
        have f3 := hf 3 _ rfl
        simp [cells_int, cells_ints, cells_u8s, cells_strs] at f0 f1 f2 f3
        obtain ⟨r, e0, _, wr⟩ := DataW.trod_int Try.underlying3 f0
        have hD : D i = .agg [y0.1, y1.1, y2.1, y3.1] := by
          have := congrArg Prod.fst hag
          simpa using this
        have hwi : ∀ n ∈ (D i).weights Try.prog 28, n ≤ reachBytes := fun n hn => hw n (by
          rw [hz]
          exact weights_slice Try.underlying22 (List.mem_map.2 ⟨i, List.mem_range.2 hil, rfl⟩) hn)
        have hw1 : ∀ n ∈ y1.1.weights Try.prog 24, n ≤ reachBytes := fun n hn => hwi n (by
          rw [hD, DataW.weights, Try.underlying28]
          exact DataW.weights_mem_each (j := 1) (t := 24) (d := y1.1) rfl rfl n hn)
        obtain ⟨AL, cL, L, e1, hL, mL, rL, sL⟩ := open_texts Try.underlying24 Try.underlying9 cells_str f1 hw1
        obtain ⟨AN, cN, S, e2, hN, mN, rN, sN⟩ := open_nums Try.underlying25 Try.underlying3 cells_int f2
        obtain ⟨AB, cB, B, e3, hB, mB, rB, sB⟩ := open_nums Try.underlying26 Try.underlying5 cells_u8 f3
        simp at e0
        subst e0 e1 e2 e3
        have a0 := hat 0 (by omega)
        have a1 := hat 1 (by omega)
        have a2 := hat 2 (by omega)
        have a3 := hat 3 (by omega)
        rw [add_add] at a0 a1 a2 a3
        obtain ⟨b, off, spot⟩ := ad
        subst hspot
        simp only [Addr.add_lit] at a0 a1 a2 a3
        exact ⟨b, off, ⟨r, AL, cL, L, AN, cN, S, AB, cB, B⟩, rfl, lt_of_cell a0, ⟨wf_i64 wr, hL, mL, rL, sL, hN, mN, rN, fun n hn => wf_i64 (sN n hn), hB, mB, rB, fun n hn => wf_u8 (sB n hn)⟩, a0, a1, a2, a3⟩

theorem AskOk.below {w w' : World} {q : Asked} (h : AskOk w q) (hb : Below w.heap.size w w') : AskOk w' q :=
  ⟨h.wN, h.hL, h.mL, h.rL.below hb, h.sL, h.hN, h.mN, h.rN.below hb, h.sN, h.hB, h.mB, h.rB.below hb, h.sB⟩
theorem AskAt.below {w w' : World} {a : Option Addr} {i : Nat} (h : AskAt w a i) (hb : Below w.heap.size w w') : AskAt w' a i := by
  obtain ⟨b, off, q, rfl, hlt, ok, c0, c1, c2, c3⟩ := h
  exact ⟨b, off, q, rfl, Nat.lt_of_lt_of_le hlt hb.size, ok.below hb, (hb.cell (p := ⟨b, _, none⟩) hlt).trans c0, (hb.cell (p := ⟨b, _, none⟩) hlt).trans c1, (hb.cell (p := ⟨b, _, none⟩) hlt).trans c2, (hb.cell (p := ⟨b, _, none⟩) hlt).trans c3⟩

end Go.Proofs.Ytggohjdgenjijaa
