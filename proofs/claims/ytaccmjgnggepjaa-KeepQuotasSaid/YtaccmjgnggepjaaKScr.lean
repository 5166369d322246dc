/-
  What a statement on stores is asked: acts, where the power goes; as it lies in memory, and as it comes in.
-/
import Derived.Test.YtaccmjgnggepjaaKZI
namespace Go.Proofs.Ytaccmjgnggepjaa
open Go.RowKit Go.ChangeShapes Go.WideShapes Go.Deep

/-- an act on a store: its number, its key, its value, its picks -/
structure ActW where
  Do : Int
  S : ByteArray
  V : ByteArray
  AK : Option Addr
  nK : Nat
  cK : Nat
  ps : List Int
def ActW.cells (a : ActW) : List Value := [.int .i64 a.Do, .string a.S, .string a.V, .slice a.AK a.nK a.cK]
def cellsW (l : List ActW) : List Value := l.flatMap ActW.cells
theorem cellsW_length (l : List ActW) : (cellsW l).length = l.length * 4 := by
  induction l with
  | nil => rfl
  | cons m ms ih => simp only [cellsW, List.flatMap_cons, List.length_append] at ih ⊢; rw [ih]; simp [ActW.cells]; omega
theorem cellsW_at : ∀ {l : List ActW} {i : Nat} {a : ActW}, l[i]? = some a → ∀ {j : Nat} {v : Value}, a.cells[j]? = some v → (cellsW l)[i * 4 + j]? = some v
  | [], _, _, h, _, _, _ => by simp at h
  | x :: l, 0, a, h, j, v, hv => by
    simp at h
    subst h
    show (x.cells ++ cellsW l)[0 * 4 + j]? = some v
    rw [Nat.zero_mul, Nat.zero_add, List.getElem?_append_left (List.getElem?_eq_some_iff.1 hv).1]
    exact hv
  | x :: l, i + 1, a, h, j, v, hv => by
    have ih := cellsW_at (l := l) (i := i) (by simpa using h) hv
    show (x.cells ++ cellsW l)[(i + 1) * 4 + j]? = some v
    have e : x.cells.length = 4 := rfl
    rw [List.getElem?_append_right (by rw [e]; omega), e, show (i + 1) * 4 + j - 4 = i * 4 + j by omega]
    exact ih
theorem cellsW_of {l : List ActW} {i : Nat} {v : Value} (h : (cellsW l)[i]? = some v) : ∃ a, l[i / 4]? = some a ∧ a.cells[i % 4]? = some v := by
  have hl : i < l.length * 4 := by
    rcases Nat.lt_or_ge i (cellsW l).length with h' | h'
    · rwa [cellsW_length] at h'
    · rw [List.getElem?_eq_none h'] at h; cases h
  obtain ⟨a, ha⟩ : ∃ a, l[i / 4]? = some a := ⟨l[i / 4]'(by omega), by simp [show i / 4 < l.length by omega]⟩
  refine ⟨a, ha, ?_⟩
  obtain ⟨u, hu⟩ : ∃ u, a.cells[i % 4]? = some u := ⟨a.cells[i % 4]'(by show i % 4 < 4; omega), by simp [show i % 4 < a.cells.length by show i % 4 < 4; omega]⟩
  have e := cellsW_at ha hu
  rw [show i / 4 * 4 + i % 4 = i by omega, h] at e
  rw [hu, e]
structure ActWIn (w : World) (a : ActW) : Prop where
  zK : a.ps.length = a.nK
  rK : Rd w a.AK (i64s a.ps)
  kK : a.nK ≤ a.cK
  xK : a.cK ≤ maxLen
  yK : ∀ x ∈ a.ps, -9223372036854775808 ≤ x ∧ x ≤ 9223372036854775807
  fK : a.nK ≤ 140737488351232
  wD : -9223372036854775808 ≤ a.Do ∧ a.Do ≤ 9223372036854775807
  sS : a.S.size ≤ 140737488351232
  sV : a.V.size ≤ 140737488351232
theorem ActWIn.below {w w' : World} {a : ActW} (h : ActWIn w a) (hb : Below w.heap.size w w') : ActWIn w' a :=
  ⟨h.zK, h.rK.below hb, h.kK, h.xK, h.yK, h.fK, h.wD, h.sS, h.sV⟩

structure ScrW where
  AL : Option Addr
  nL : Nat
  cL : Nat
  L : List ActW
  AO : Option Addr
  nO : Nat
  cO : Nat
  os : List Int
def scrCW (s : ScrW) : List Value := [.slice s.AL s.nL s.cL, .slice s.AO s.nO s.cO]
def scrVW (s : ScrW) : Value := .agg #[.slice s.AL s.nL s.cL, .slice s.AO s.nO s.cO]
structure ScrWIn (w : World) (s : ScrW) : Prop where
  zL : s.L.length = s.nL
  rL : Rd w s.AL (cellsW s.L)
  kL : s.nL ≤ s.cL
  xL : s.cL ≤ maxLen
  act : ∀ a ∈ s.L, ActWIn w a
  zO : s.os.length = s.nO
  rO : Rd w s.AO (i64s s.os)
  kO : s.nO ≤ s.cO
  xO : s.cO ≤ maxLen
  yO : ∀ x ∈ s.os, -9223372036854775808 ≤ x ∧ x ≤ 9223372036854775807
theorem ScrWIn.below {w w' : World} {s : ScrW} (h : ScrWIn w s) (hb : Below w.heap.size w w') : ScrWIn w' s :=
  ⟨h.zL, h.rL.below hb, h.kL, h.xL, fun a ha => (h.act a ha).below hb, h.zO, h.rO.below hb, h.kO, h.xO, h.yO⟩
/-- an act, as it lies -/
theorem ScrWIn.at_ {w : World} {s : ScrW} (h : ScrWIn w s) {k : Nat} (hk : k < s.nL) : ∃ (b off : Nat) (a : ActW), s.AL = some ⟨b, off, none⟩ ∧ b < w.heap.size ∧ s.L[k]? = some a ∧ a ∈ s.L ∧ w.rangeAt b (off + k * 4) a.cells := by
  have hk' : k < s.L.length := by rw [h.zL]; exact hk
  obtain ⟨x, hx⟩ : ∃ x, s.L[k]? = some x := ⟨s.L[k], by simp [hk']⟩
  obtain ⟨b, off, e, hbl, hc⟩ := h.rL.open_ (by rw [cellsW_length]; omega)
  refine ⟨b, off, x, e, hbl, hx, List.mem_of_getElem? hx, fun j v hv => ?_⟩
  have := hc _ v (cellsW_at hx hv)
  rw [Nat.add_assoc]
  exact this

theorem cells_scrW : Try.prog.cellsOf 25 = 2 := by kernel_rfl
theorem cells_actW : Try.prog.cellsOf 36 = 4 := by kernel_rfl
theorem cells_actsW : Try.prog.cellsOf 22 = 1 := by kernel_rfl
theorem size_scrW : (Try.prog.info? 25).map (·.size) = some 2 := by kernel_rfl
theorem size_actW : (Try.prog.info? 36).map (·.size) = some 4 := by kernel_rfl

set_option maxRecDepth 100000 in
set_option maxHeartbeats 4000000 in
theorem open_actsW {H : Type} {enc : TypeId × Value → H} {w : World} {base : Nat} {spare : Nat → Bool} {held : Bool} {fuel : Nat} {v : Value} {x : DataW H × List MemPlace}
    (h : DataW.trod enc Try.prog w base spare held fuel 22 [v] = some x) (hw : ∀ n ∈ x.1.weights Try.prog 22, n ≤ reachBytes) :
    ∃ (A : Option Addr) (c : Nat) (l : List ActW), v = .slice A l.length c ∧ l.length ≤ c ∧ c ≤ maxLen ∧ Rd w A (cellsW l) ∧ ∀ a ∈ l, ActWIn w a := by
  rcases open_slice Try.underlying22 h with ⟨h0, _⟩ | ⟨ad, len, cap, m, n, D, Pl, h0, _, hl, hm, hmm, hz, hi⟩
  · simp only [List.cons.injEq, and_true] at h0
    subst h0
    exact ⟨none, 0, [], rfl, by simp, by simp [maxLen], Rd.nil _ _, fun t ht => by simp at ht⟩
  · simp only [List.cons.injEq, and_true] at h0
    subst h0
    obtain ⟨L, hL, hLe⟩ := list_upto (α := ActW) (P := fun i a => ActWIn w a ∧ ∀ j u, a.cells[j]? = some u → w.cell? (ad.add (i * 4 + j)) = some u) (n := len) fun i hil => by
      have him : i < m := by rw [hmm]; split <;> omega
      obtain ⟨cs, hc, ht⟩ := hi i him
      rw [cells_actW] at hc
      obtain ⟨_, hcl, hat⟩ := World.cells?_some hc
      obtain ⟨ys, n', _, hag, hlen, hyl, hf⟩ := DataW.trod_struct Try.underlying36 ht
      match cs, hcl with
      | [c0, c1, c2, c3], _ =>
        match ys, hyl with
        | [y0, y1, y2, y3], _ =>
          have f0 := hf 0 _ rfl
          have f1 := hf 1 _ rfl
          have f2 := hf 2 _ rfl
          have f3 := hf 3 _ rfl
          simp [cells_str, cells_int, cells_ints] at f0 f1 f2 f3
          have hD : D i = .agg [y0.1, y1.1, y2.1, y3.1] := by
            have := congrArg Prod.fst hag
            simpa using this
          have hwi : ∀ n ∈ (D i).weights Try.prog 36, n ≤ reachBytes := fun n hn => hw n (by
            rw [hz]
            exact weights_slice Try.underlying22 (List.mem_map.2 ⟨i, List.mem_range.2 hil, rfl⟩) hn)
          have hwm : ∀ (j : Nat) (t : TypeId) (e : DataW H), [y0.1, y1.1, y2.1, y3.1][j]? = some e → [3, 9, 9, 23][j]? = some t → ∀ n ∈ e.weights Try.prog t, n ≤ reachBytes := fun j t e he ht n hn => hwi n (by
            rw [hD, DataW.weights, Try.underlying36]
            exact DataW.weights_mem_each (j := j) (t := t) (d := e) ht he n hn)
          obtain ⟨rD, e0, _, wD⟩ := DataW.trod_int Try.underlying3 f0
          obtain ⟨kS, e1, g1, _⟩ := DataW.trod_string Try.underlying9 f1
          obtain ⟨kV, e2, g2, _⟩ := DataW.trod_string Try.underlying9 f2
          obtain ⟨AK, cK, ps, e3, hn3, hc3, hr3, hwf3, hfit3⟩ := open_nums_fit Try.underlying23 Try.underlying3 cells_int bytes_int' (by decide) f3 (hwm 3 23 y3.1 rfl rfl)
          have hkS : kS.data.toList.length ≤ reachBytes := hwm 1 9 y1.1 rfl rfl _ (by rw [g1]; simp [DataW.weights])
          have hkV : kV.data.toList.length ≤ reachBytes := hwm 2 9 y2.1 rfl rfl _ (by rw [g2]; simp [DataW.weights])
          simp at e0 e1 e2 e3
          subst e0 e1 e2 e3
          refine ⟨⟨rD, kS, kV, AK, ps.length, cK, ps⟩, ⟨rfl, hr3, hn3, hc3, fun x hx => wf_i64 (hwf3 x hx), hfit3, wf_i64 wD, hkS, hkV⟩, fun j u hu => ?_⟩
          rw [← Addr.add_add, hat j (by
            rcases Nat.lt_or_ge j 4 with h' | h'
            · exact h'
            · rw [List.getElem?_eq_none (by simp [ActW.cells]; omega)] at hu; cases hu)]
          exact hu
    refine ⟨some ad, cap, L, by rw [hL], by omega, hm, rd_of fun i u hu => ?_, fun t ht => ?_⟩
    · obtain ⟨t, h1, h2⟩ := cellsW_of hu
      have := (hLe _ _ h1).2 _ _ h2
      rwa [show i / 4 * 4 + i % 4 = i by omega] at this
    · obtain ⟨i, hi'⟩ := List.getElem?_of_mem ht
      exact (hLe _ _ hi').1

set_option maxRecDepth 100000 in
set_option maxHeartbeats 4000000 in
theorem open_scrW {H : Type} {enc : TypeId × Value → H} {w : World} {r : Reach} {b0 base : Nat} {spare : Nat → Bool} {held : Bool} {v : Value} {d : DataW H} {ps : List MemPlace}
    (hv : Value.okWide Try.prog w r b0 25 v) (h : DataW.Trod enc Try.prog w base spare held 25 v d ps) (hw : ∀ n ∈ d.weights Try.prog 25, n ≤ reachBytes) :
    ∃ s, v = scrVW s ∧ ScrWIn w s := by
  obtain ⟨cs, rfl, hsz⟩ := okWide_struct Try.underlying25 hv
  obtain ⟨l⟩ := cs
  match l, hsz.trans cells_scrW with
  | [c0, c1], _ =>
    obtain ⟨fuel, hf⟩ := h
    obtain ⟨ys, n', _, hag, hlen, hyl, hfs⟩ := DataW.trod_struct Try.underlying25 hf
    match ys, hyl with
    | [y0, y1], _ =>
      have f0 := hfs 0 _ rfl
      have f1 := hfs 1 _ rfl
      simp [Value.cells, cells_ints, cells_actsW] at f0 f1
      have hD : d = .agg [y0.1, y1.1] := by
        have := congrArg Prod.fst hag
        simpa using this
      have hwm : ∀ (j : Nat) (t : TypeId) (e : DataW H), [y0.1, y1.1][j]? = some e → [22, 23][j]? = some t → ∀ n ∈ e.weights Try.prog t, n ≤ reachBytes := fun j t e he ht n hn => hw n (by
        rw [hD, DataW.weights, Try.underlying25]
        exact DataW.weights_mem_each (j := j) (t := t) (d := e) ht he n hn)
      obtain ⟨AL, cL, L, eL, kL, xL, rL, hL⟩ := open_actsW f0 (hwm 0 22 y0.1 rfl rfl)
      obtain ⟨AO, cO, os, eO, hnO, hcO, hrO, hwfO, _⟩ := open_nums_fit Try.underlying23 Try.underlying3 cells_int bytes_int' (by decide) f1 (hwm 1 23 y1.1 rfl rfl)
      subst eL eO
      exact ⟨⟨AL, L.length, cL, L, AO, os.length, cO, os⟩, rfl,
        ⟨rfl, rL, kL, xL, hL, rfl, hrO, hnO, hcO, fun x hx => wf_i64 (hwfO x hx)⟩⟩

end Go.Proofs.Ytaccmjgnggepjaa
