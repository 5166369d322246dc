/-
  What a statement on disks is asked: files, acts; as it lies in memory, and as it comes in.
-/
import Derived.Test.YtecgagfpckaieaaDNew
import Derived.Test.YtecgagfpckaieaaOpen
import Derived.Deep.MidRow
namespace Go.Proofs.Ytecgagfpckaieaa
open Go.RowKit Go.ChangeShapes Go.WideShapes Go.Deep

/-- an act: its numbers, names, bytes, picks -/
structure ActD where
  Do : Int
  A : ByteArray
  B : ByteArray
  N : Int
  AB : Option Addr
  nB : Nat
  cB : Nat
  bs : List Int
  AK : Option Addr
  nK : Nat
  cK : Nat
  ps : List Int
def ActD.cells (a : ActD) : List Value := [.int .i64 a.Do, .string a.A, .string a.B, .int .i64 a.N, .slice a.AB a.nB a.cB, .slice a.AK a.nK a.cK]
def cellsA (l : List ActD) : List Value := l.flatMap ActD.cells
theorem cellsA_length (l : List ActD) : (cellsA l).length = l.length * 6 := by
  induction l with
  | nil => rfl
  | cons m ms ih => simp only [cellsA, List.flatMap_cons, List.length_append] at ih ⊢; rw [ih]; simp [ActD.cells]; omega
theorem cellsA_at : ∀ {l : List ActD} {i : Nat} {a : ActD}, l[i]? = some a → ∀ {j : Nat} {v : Value}, a.cells[j]? = some v → (cellsA l)[i * 6 + j]? = some v
  | [], _, _, h, _, _, _ => by simp at h
  | x :: l, 0, a, h, j, v, hv => by
    simp at h
    subst h
    show (x.cells ++ cellsA l)[0 * 6 + j]? = some v
    rw [Nat.zero_mul, Nat.zero_add, List.getElem?_append_left (List.getElem?_eq_some_iff.1 hv).1]
    exact hv
  | x :: l, i + 1, a, h, j, v, hv => by
    have ih := cellsA_at (l := l) (i := i) (by simpa using h) hv
    show (x.cells ++ cellsA l)[(i + 1) * 6 + j]? = some v
    have e : x.cells.length = 6 := rfl
    rw [List.getElem?_append_right (by rw [e]; omega), e, show (i + 1) * 6 + j - 6 = i * 6 + j by omega]
    exact ih
structure ActIn (w : World) (a : ActD) : Prop where
  zB : a.bs.length = a.nB
  rB : Rd w a.AB (u8s a.bs)
  kB : a.nB ≤ a.cB
  xB : a.cB ≤ maxLen
  yB : Byts a.bs
  fB : a.nB ≤ 140737488351232
  zK : a.ps.length = a.nK
  rK : Rd w a.AK (i64s a.ps)
  kK : a.nK ≤ a.cK
  xK : a.cK ≤ maxLen
  yK : ∀ x ∈ a.ps, -9223372036854775808 ≤ x ∧ x ≤ 9223372036854775807
  fK : a.nK ≤ 140737488351232
  wD : -9223372036854775808 ≤ a.Do ∧ a.Do ≤ 9223372036854775807
  wN : -9223372036854775808 ≤ a.N ∧ a.N ≤ 9223372036854775807
  sA : a.A.size ≤ 140737488351232
  sB : a.B.size ≤ 140737488351232
theorem ActIn.below {w w' : World} {a : ActD} (h : ActIn w a) (hb : Below w.heap.size w w') : ActIn w' a :=
  ⟨h.zB, h.rB.below hb, h.kB, h.xB, h.yB, h.fB, h.zK, h.rK.below hb, h.kK, h.xK, h.yK, h.fK, h.wD, h.wN, h.sA, h.sB⟩

structure Scr9 where
  AF : Option Addr
  nF : Nat
  cF : Nat
  fl : List FL
  AL : Option Addr
  nL : Nat
  cL : Nat
  L : List ActD
def scrC (s : Scr9) : List Value := [.slice s.AF s.nF s.cF, .slice s.AL s.nL s.cL]
def scrV (s : Scr9) : Value := .agg #[.slice s.AF s.nF s.cF, .slice s.AL s.nL s.cL]
structure ScrIn (w : World) (s : Scr9) : Prop where
  zF : s.fl.length = s.nF
  rF : Rd w s.AF (cellsF s.fl)
  kF : s.nF ≤ s.cF
  xF : s.cF ≤ maxLen
  fin : ∀ f ∈ s.fl, FIn w f
  fsm : ∀ f ∈ s.fl, f.nm.size ≤ 140737488351232 ∧ f.dat.length ≤ 140737488351232
  zL : s.L.length = s.nL
  rL : Rd w s.AL (cellsA s.L)
  kL : s.nL ≤ s.cL
  xL : s.cL ≤ maxLen
  act : ∀ a ∈ s.L, ActIn w a
theorem ScrIn.below {w w' : World} {s : Scr9} (h : ScrIn w s) (hb : Below w.heap.size w w') : ScrIn w' s :=
  ⟨h.zF, h.rF.below hb, h.kF, h.xF, fun f hf => (h.fin f hf).below hb, h.fsm, h.zL, h.rL.below hb, h.kL, h.xL, fun a ha => (h.act a ha).below hb⟩
/-- an act, as it lies -/
theorem ScrIn.at_ {w : World} {s : Scr9} (h : ScrIn w s) {k : Nat} (hk : k < s.nL) : ∃ (b off : Nat) (a : ActD), s.AL = some ⟨b, off, none⟩ ∧ b < w.heap.size ∧ s.L[k]? = some a ∧ a ∈ s.L ∧ w.rangeAt b (off + k * 6) a.cells := by
  have hk' : k < s.L.length := by rw [h.zL]; exact hk
  obtain ⟨x, hx⟩ : ∃ x, s.L[k]? = some x := ⟨s.L[k], by simp [hk']⟩
  obtain ⟨b, off, e, hbl, hc⟩ := h.rL.open_ (by rw [cellsA_length]; omega)
  refine ⟨b, off, x, e, hbl, hx, List.mem_of_getElem? hx, fun j v hv => ?_⟩
  have := hc _ v (cellsA_at hx hv)
  rw [Nat.add_assoc]
  exact this
theorem ScrIn.file {w : World} {s : Scr9} (h : ScrIn w s) {k : Nat} (hk : k < s.nF) : ∃ (b off : Nat) (f : FL) (A : Option Addr) (c : Nat), s.AF = some ⟨b, off, none⟩ ∧ b < w.heap.size ∧ s.fl[k]? = some f ∧ f ∈ s.fl ∧ f.v = .slice A f.dat.length c ∧ f.dat.length ≤ c ∧ c ≤ maxLen ∧ Rd w A (u8s f.dat) ∧
    w.cell? ⟨b, off + k * 2, none⟩ = some (.string f.nm) ∧ w.cell? ⟨b, off + k * 2 + 1, none⟩ = some (.slice A f.dat.length c) := by
  have hk' : k < s.fl.length := by rw [h.zF]; exact hk
  obtain ⟨x, hx⟩ : ∃ x, s.fl[k]? = some x := ⟨s.fl[k], by simp [hk']⟩
  obtain ⟨b, off, e, hbl, hc⟩ := h.rF.open_ (by rw [cellsF_length]; omega)
  have hm := List.mem_of_getElem? hx
  obtain ⟨⟨A, c, h1, h2, h3, h4⟩, _⟩ := h.fin x hm
  obtain ⟨g0, g1⟩ := cellsF_at hx
  refine ⟨b, off, x, A, c, e, hbl, hx, hm, h1, h2, h3, h4, hc _ _ g0, ?_⟩
  have := hc _ _ g1
  rw [h1, ← Nat.add_assoc] at this
  exact this

theorem cells_afile : Try.prog.cellsOf 76 = 2 := by kernel_rfl
theorem cells_files : Try.prog.cellsOf 63 = 1 := by kernel_rfl
theorem bytes_u8' : Try.prog.bytesOf 5 = 1 := by kernel_rfl
theorem bytes_int' : Try.prog.bytesOf 3 = 8 := by kernel_rfl

theorem list_upto {α : Type} {P : Nat → α → Prop} : ∀ {n : Nat}, (∀ i, i < n → ∃ a, P i a) → ∃ L : List α, L.length = n ∧ ∀ i x, L[i]? = some x → P i x
  | 0, _ => ⟨[], rfl, fun i x hx => by simp at hx⟩
  | n + 1, h => by
    obtain ⟨L, hl, hL⟩ := list_upto (n := n) fun i hi => h i (by omega)
    obtain ⟨x, hx⟩ := h n (by omega)
    refine ⟨L ++ [x], by simp [hl], fun i y hy => ?_⟩
    rcases Nat.lt_or_ge i n with hi | hi
    · exact hL i y (by rwa [List.getElem?_append_left (by omega)] at hy)
    · rw [List.getElem?_append_right (by omega), hl] at hy
      have h0 : i - n = 0 := by
        rcases Nat.eq_zero_or_pos (i - n) with h0 | h0
        · exact h0
        · rw [List.getElem?_eq_none (by simp; omega)] at hy; cases hy
      rw [h0] at hy
      simp at hy
      have : i = n := by omega
      subst this hy
      exact hx
theorem cellsF_of {l : List FL} {i : Nat} {v : Value} (h : (cellsF l)[i]? = some v) : ∃ f, l[i / 2]? = some f ∧ f.cells[i % 2]? = some v := by
  have hl : i < l.length * 2 := by
    rcases Nat.lt_or_ge i (cellsF l).length with h' | h'
    · rwa [cellsF_length] at h'
    · rw [List.getElem?_eq_none h'] at h; cases h
  obtain ⟨f, hf⟩ : ∃ f, l[i / 2]? = some f := ⟨l[i / 2]'(by omega), by simp [show i / 2 < l.length by omega]⟩
  refine ⟨f, hf, ?_⟩
  obtain ⟨h0, h1⟩ := cellsF_at hf
  rcases (show i % 2 = 0 ∨ i % 2 = 1 by omega) with e | e
  · rw [show i = i / 2 * 2 by omega, h0, Option.some.injEq] at h
    rw [e, ← h]; rfl
  · rw [show i = i / 2 * 2 + 1 by omega, h1, Option.some.injEq] at h
    rw [e, ← h]; rfl
theorem cellsA_of {l : List ActD} {i : Nat} {v : Value} (h : (cellsA l)[i]? = some v) : ∃ a, l[i / 6]? = some a ∧ a.cells[i % 6]? = some v := by
  have hl : i < l.length * 6 := by
    rcases Nat.lt_or_ge i (cellsA l).length with h' | h'
    · rwa [cellsA_length] at h'
    · rw [List.getElem?_eq_none h'] at h; cases h
  obtain ⟨a, ha⟩ : ∃ a, l[i / 6]? = some a := ⟨l[i / 6]'(by omega), by simp [show i / 6 < l.length by omega]⟩
  refine ⟨a, ha, ?_⟩
  obtain ⟨u, hu⟩ : ∃ u, a.cells[i % 6]? = some u := ⟨a.cells[i % 6]'(by show i % 6 < 6; omega), by simp [show i % 6 < a.cells.length by show i % 6 < 6; omega]⟩
  have e := cellsA_at ha hu
  rw [show i / 6 * 6 + i % 6 = i by omega, h] at e
  rw [hu, e]

set_option maxRecDepth 100000 in
set_option maxHeartbeats 1600000 in
theorem open_files {H : Type} {enc : TypeId × Value → H} {w : World} {base : Nat} {spare : Nat → Bool} {held : Bool} {fuel : Nat} {v : Value} {x : DataW H × List MemPlace}
    (h : DataW.trod enc Try.prog w base spare held fuel 63 [v] = some x) (hw : ∀ n ∈ x.1.weights Try.prog 63, n ≤ reachBytes) :
    ∃ (A : Option Addr) (c : Nat) (l : List FL), v = .slice A l.length c ∧ l.length ≤ c ∧ c ≤ maxLen ∧ Rd w A (cellsF l) ∧ ∀ f ∈ l, FIn w f ∧ f.nm.size ≤ 140737488351232 ∧ f.dat.length ≤ 140737488351232 := by
  rcases open_slice Try.underlying63 h with ⟨h0, _⟩ | ⟨ad, len, cap, m, n, D, Pl, h0, _, hl, hm, hmm, hz, hi⟩
  · simp only [List.cons.injEq, and_true] at h0
    subst h0
    exact ⟨none, 0, [], rfl, by simp, by simp [maxLen], Rd.nil _ _, fun t ht => by simp at ht⟩
  · simp only [List.cons.injEq, and_true] at h0
    subst h0
    obtain ⟨L, hL, hLe⟩ := list_upto (α := FL) (P := fun i f => (FIn w f ∧ f.nm.size ≤ 140737488351232 ∧ f.dat.length ≤ 140737488351232) ∧ ∀ j u, f.cells[j]? = some u → w.cell? (ad.add (i * 2 + j)) = some u) (n := len) fun i hil => by
      have him : i < m := by rw [hmm]; split <;> omega
      obtain ⟨cs, hc, ht⟩ := hi i him
      rw [cells_afile] at hc
      obtain ⟨_, hcl, hat⟩ := World.cells?_some hc
      obtain ⟨ys, n', _, hag, hlen, hyl, hf⟩ := DataW.trod_struct Try.underlying76 ht
      match cs, hcl with
      | [c0, c1], _ =>
        match ys, hyl with
        | [y0, y1], _ =>
          have f0 := hf 0 _ rfl
          have f1 := hf 1 _ rfl
          simp [cells_str, cells_u8s] at f0 f1
          obtain ⟨k, e0, g0, _⟩ := DataW.trod_string Try.underlying9 f0
          have hD : D i = .agg [y0.1, y1.1] := by
            have := congrArg Prod.fst hag
            simpa using this
          have hwi : ∀ n ∈ (D i).weights Try.prog 76, n ≤ reachBytes := fun n hn => hw n (by
            rw [hz]
            exact weights_slice Try.underlying63 (List.mem_map.2 ⟨i, List.mem_range.2 hil, rfl⟩) hn)
          have hk : k.data.toList.length ≤ reachBytes := hwi _ (by
            rw [hD, DataW.weights, Try.underlying76]
            refine DataW.weights_mem_each (j := 0) (t := 9) (d := y0.1) rfl rfl _ ?_
            rw [g0]; simp [DataW.weights])
          obtain ⟨A, c, zs, e1, hn1, hc1, hr1, hwf1, hfit1⟩ := open_nums_fit Try.underlying50 Try.underlying5 cells_u8 bytes_u8' (by decide) f1 (fun n hn => hwi n (by
            rw [hD, DataW.weights, Try.underlying76]
            exact DataW.weights_mem_each (j := 1) (t := 50) (d := y1.1) rfl rfl n hn))
          simp at e0 e1
          subst e0 e1
          refine ⟨⟨k, zs, .slice A zs.length c⟩, ⟨⟨⟨A, c, rfl, hn1, hc1, hr1⟩, fun x hx => wf_u8 (hwf1 x hx)⟩, hk, hfit1⟩, fun j u hu => ?_⟩
          rw [← Addr.add_add, hat j (by
            rcases Nat.lt_or_ge j 2 with h' | h'
            · exact h'
            · rw [List.getElem?_eq_none (by simp [FL.cells]; omega)] at hu; cases hu)]
          exact hu
    refine ⟨some ad, cap, L, by rw [hL], by omega, hm, rd_of fun i u hu => ?_, fun t ht => ?_⟩
    · obtain ⟨t, h1, h2⟩ := cellsF_of hu
      have := (hLe _ _ h1).2 _ _ h2
      rwa [show i / 2 * 2 + i % 2 = i by omega] at this
    · obtain ⟨i, hi'⟩ := List.getElem?_of_mem ht
      exact (hLe _ _ hi').1

/-! ### a block of several cells -/
def Box (w : World) (g : Nat) (vs : List Value) : Prop := g < w.heap.size ∧ ∀ i v, vs[i]? = some v → w.cell? ⟨g, i, none⟩ = some v
theorem Box.below {w w' : World} {g B : Nat} {vs : List Value} (h : Box w g vs) (hb : Below B w w') (hg : g < B) : Box w' g vs :=
  ⟨by have := hb.size; have := h.1; omega, fun i v hv => (hb.cell (p := ⟨g, i, none⟩) hg).trans (h.2 i v hv)⟩
theorem box_new (w : World) (vs : List Value) (t : TypeId) : Box (w.alloc (.cells vs.toArray t)) w.heap.size vs :=
  ⟨by simp, fun i v hv => by rw [World.cell?_alloc_at _ _ _ _ rfl]; simpa using hv⟩
theorem wpList_load_box {P : Program} {w : World} {ops : Array Oper} {rest : List Oper} {op : Oper} {a : Act} {Q : Exit → Act → World → Prop} (hgd : op.guard = none) (ty : TypeId) (x : Operand) (ho : op.op = .load ty x)
    (g : Nat) (hx : a.eval x = .pointer (some ⟨g, 0, none⟩)) (cs : List Value) (hb : Box w g cs) (d : TypeDesc) (hu : P.underlying ty = some d) (hd : d.isRow = true) (hi : (P.info? ty).map (·.size) = some cs.length)
    (h : wpList P ops Q rest (a.put op.dst (.agg cs.toArray)) w) : wpList P ops Q (op :: rest) a w :=
  wpList_load_mid hgd ty x ho g 0 hx cs d (fun j v hv => by rw [Nat.zero_add]; exact hb.2 j v hv) hu hd hi h
end Go.Proofs.Ytecgagfpckaieaa
