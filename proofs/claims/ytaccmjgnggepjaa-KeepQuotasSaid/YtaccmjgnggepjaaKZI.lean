/-
  What a statement on disks is asked: files, acts; as it lies in memory, and as it comes in.
-/
import Derived.Test.YtaccmjgnggepjaaDNew
import Derived.Test.YtaccmjgnggepjaaOpen
import Derived.Deep.MidRow
import Derived.Test.YtaccmjgnggepjaaRows
import Derived.Test.YtaccmjgnggepjaaMem
import Derived.WalkSpells
import Derived.WalkLawsBesides
import Derived.Deep.QuietTactic
import Derived.BigQuiet
import Derived.LoopTactic
import Derived.Test.YtaccmjgnggepjaaKZF
import Derived.Lib.SlBytesConst
import Derived.Test.YtaccmjgnggepjaaKZG
import Derived.Test.YtaccmjgnggepjaaKZE
import Derived.Test.YtaccmjgnggepjaaKZH
import Derived.BigRegion
import Derived.Test.YtaccmjgnggepjaaHelp
namespace Go.Proofs.Ytaccmjgnggepjaa
open Go.RowKit Go.ChangeShapes Go.WideShapes Go.Deep

/-- an act: its numbers, names, bytes, picks -/
structure ActD where
  Do : Int
  A : ByteArray
  B : ByteArray
  N : Int
  AB : Option Addr
  nB : Nat
  cB : Nat
  bs : List Int
  AK : Option Addr
  nK : Nat
  cK : Nat
  ps : List Int
def ActD.cells (a : ActD) : List Value := [.int .i64 a.Do, .string a.A, .string a.B, .int .i64 a.N, .slice a.AB a.nB a.cB, .slice a.AK a.nK a.cK]
def cellsA (l : List ActD) : List Value := l.flatMap ActD.cells
theorem cellsA_length (l : List ActD) : (cellsA l).length = l.length * 6 := by
  induction l with
  | nil => rfl
  | cons m ms ih => simp only [cellsA, List.flatMap_cons, List.length_append] at ih ⊢; rw [ih]; simp [ActD.cells]; omega
theorem cellsA_at : ∀ {l : List ActD} {i : Nat} {a : ActD}, l[i]? = some a → ∀ {j : Nat} {v : Value}, a.cells[j]? = some v → (cellsA l)[i * 6 + j]? = some v
  | [], _, _, h, _, _, _ => by simp at h
  | x :: l, 0, a, h, j, v, hv => by
    simp at h
    subst h
    show (x.cells ++ cellsA l)[0 * 6 + j]? = some v
    rw [Nat.zero_mul, Nat.zero_add, List.getElem?_append_left (List.getElem?_eq_some_iff.1 hv).1]
    exact hv
  | x :: l, i + 1, a, h, j, v, hv => by
    have ih := cellsA_at (l := l) (i := i) (by simpa using h) hv
    show (x.cells ++ cellsA l)[(i + 1) * 6 + j]? = some v
    have e : x.cells.length = 6 := rfl
    rw [List.getElem?_append_right (by rw [e]; omega), e, show (i + 1) * 6 + j - 6 = i * 6 + j by omega]
    exact ih
structure ActIn (w : World) (a : ActD) : Prop where
  zB : a.bs.length = a.nB
  rB : Rd w a.AB (u8s a.bs)
  kB : a.nB ≤ a.cB
  xB : a.cB ≤ maxLen
  yB : Byts a.bs
  fB : a.nB ≤ 140737488351232
  zK : a.ps.length = a.nK
  rK : Rd w a.AK (i64s a.ps)
  kK : a.nK ≤ a.cK
  xK : a.cK ≤ maxLen
  yK : ∀ x ∈ a.ps, -9223372036854775808 ≤ x ∧ x ≤ 9223372036854775807
  fK : a.nK ≤ 140737488351232
  wD : -9223372036854775808 ≤ a.Do ∧ a.Do ≤ 9223372036854775807
  wN : -9223372036854775808 ≤ a.N ∧ a.N ≤ 9223372036854775807
  sA : a.A.size ≤ 140737488351232
  sB : a.B.size ≤ 140737488351232
theorem ActIn.below {w w' : World} {a : ActD} (h : ActIn w a) (hb : Below w.heap.size w w') : ActIn w' a :=
  ⟨h.zB, h.rB.below hb, h.kB, h.xB, h.yB, h.fB, h.zK, h.rK.below hb, h.kK, h.xK, h.yK, h.fK, h.wD, h.wN, h.sA, h.sB⟩

structure Scr9 where
  AF : Option Addr
  nF : Nat
  cF : Nat
  fl : List FL
  AL : Option Addr
  nL : Nat
  cL : Nat
  L : List ActD
def scrC (s : Scr9) : List Value := [.slice s.AF s.nF s.cF, .slice s.AL s.nL s.cL]
def scrV (s : Scr9) : Value := .agg #[.slice s.AF s.nF s.cF, .slice s.AL s.nL s.cL]
structure ScrIn (w : World) (s : Scr9) : Prop where
  zF : s.fl.length = s.nF
  rF : Rd w s.AF (cellsF s.fl)
  kF : s.nF ≤ s.cF
  xF : s.cF ≤ maxLen
  fin : ∀ f ∈ s.fl, FIn w f
  fsm : ∀ f ∈ s.fl, f.nm.size ≤ 140737488351232 ∧ f.dat.length ≤ 140737488351232
  zL : s.L.length = s.nL
  rL : Rd w s.AL (cellsA s.L)
  kL : s.nL ≤ s.cL
  xL : s.cL ≤ maxLen
  act : ∀ a ∈ s.L, ActIn w a
theorem ScrIn.below {w w' : World} {s : Scr9} (h : ScrIn w s) (hb : Below w.heap.size w w') : ScrIn w' s :=
  ⟨h.zF, h.rF.below hb, h.kF, h.xF, fun f hf => (h.fin f hf).below hb, h.fsm, h.zL, h.rL.below hb, h.kL, h.xL, fun a ha => (h.act a ha).below hb⟩
/-- an act, as it lies -/
theorem ScrIn.at_ {w : World} {s : Scr9} (h : ScrIn w s) {k : Nat} (hk : k < s.nL) : ∃ (b off : Nat) (a : ActD), s.AL = some ⟨b, off, none⟩ ∧ b < w.heap.size ∧ s.L[k]? = some a ∧ a ∈ s.L ∧ w.rangeAt b (off + k * 6) a.cells := by
  have hk' : k < s.L.length := by rw [h.zL]; exact hk
  obtain ⟨x, hx⟩ : ∃ x, s.L[k]? = some x := ⟨s.L[k], by simp [hk']⟩
  obtain ⟨b, off, e, hbl, hc⟩ := h.rL.open_ (by rw [cellsA_length]; omega)
  refine ⟨b, off, x, e, hbl, hx, List.mem_of_getElem? hx, fun j v hv => ?_⟩
  have := hc _ v (cellsA_at hx hv)
  rw [Nat.add_assoc]
  exact this
theorem ScrIn.file {w : World} {s : Scr9} (h : ScrIn w s) {k : Nat} (hk : k < s.nF) : ∃ (b off : Nat) (f : FL) (A : Option Addr) (c : Nat), s.AF = some ⟨b, off, none⟩ ∧ b < w.heap.size ∧ s.fl[k]? = some f ∧ f ∈ s.fl ∧ f.v = .slice A f.dat.length c ∧ f.dat.length ≤ c ∧ c ≤ maxLen ∧ Rd w A (u8s f.dat) ∧
    w.cell? ⟨b, off + k * 2, none⟩ = some (.string f.nm) ∧ w.cell? ⟨b, off + k * 2 + 1, none⟩ = some (.slice A f.dat.length c) := by
  have hk' : k < s.fl.length := by rw [h.zF]; exact hk
  obtain ⟨x, hx⟩ : ∃ x, s.fl[k]? = some x := ⟨s.fl[k], by simp [hk']⟩
  obtain ⟨b, off, e, hbl, hc⟩ := h.rF.open_ (by rw [cellsF_length]; omega)
  have hm := List.mem_of_getElem? hx
  obtain ⟨⟨A, c, h1, h2, h3, h4⟩, _⟩ := h.fin x hm
  obtain ⟨g0, g1⟩ := cellsF_at hx
  refine ⟨b, off, x, A, c, e, hbl, hx, hm, h1, h2, h3, h4, hc _ _ g0, ?_⟩
  have := hc _ _ g1
  rw [h1, ← Nat.add_assoc] at this
  exact this

theorem cells_afile : Try.prog.cellsOf 78 = 2 := by kernel_rfl
theorem cells_files : Try.prog.cellsOf 69 = 1 := by kernel_rfl
theorem bytes_u8' : Try.prog.bytesOf 5 = 1 := by kernel_rfl
theorem bytes_int' : Try.prog.bytesOf 3 = 8 := by kernel_rfl

theorem list_upto {α : Type} {P : Nat → α → Prop} : ∀ {n : Nat}, (∀ i, i < n → ∃ a, P i a) → ∃ L : List α, L.length = n ∧ ∀ i x, L[i]? = some x → P i x
  | 0, _ => ⟨[], rfl, fun i x hx => by simp at hx⟩
  | n + 1, h => by
    obtain ⟨L, hl, hL⟩ := list_upto (n := n) fun i hi => h i (by omega)
    obtain ⟨x, hx⟩ := h n (by omega)
    refine ⟨L ++ [x], by simp [hl], fun i y hy => ?_⟩
    rcases Nat.lt_or_ge i n with hi | hi
    · exact hL i y (by rwa [List.getElem?_append_left (by omega)] at hy)
    · rw [List.getElem?_append_right (by omega), hl] at hy
      have h0 : i - n = 0 := by
        rcases Nat.eq_zero_or_pos (i - n) with h0 | h0
        · exact h0
        · rw [List.getElem?_eq_none (by simp; omega)] at hy; cases hy
      rw [h0] at hy
      simp at hy
      have : i = n := by omega
      subst this hy
      exact hx
theorem cellsF_of {l : List FL} {i : Nat} {v : Value} (h : (cellsF l)[i]? = some v) : ∃ f, l[i / 2]? = some f ∧ f.cells[i % 2]? = some v := by
  have hl : i < l.length * 2 := by
    rcases Nat.lt_or_ge i (cellsF l).length with h' | h'
    · rwa [cellsF_length] at h'
    · rw [List.getElem?_eq_none h'] at h; cases h
  obtain ⟨f, hf⟩ : ∃ f, l[i / 2]? = some f := ⟨l[i / 2]'(by omega), by simp [show i / 2 < l.length by omega]⟩
  refine ⟨f, hf, ?_⟩
  obtain ⟨h0, h1⟩ := cellsF_at hf
  rcases (show i % 2 = 0 ∨ i % 2 = 1 by omega) with e | e
  · rw [show i = i / 2 * 2 by omega, h0, Option.some.injEq] at h
    rw [e, ← h]; rfl
  · rw [show i = i / 2 * 2 + 1 by omega, h1, Option.some.injEq] at h
    rw [e, ← h]; rfl
theorem cellsA_of {l : List ActD} {i : Nat} {v : Value} (h : (cellsA l)[i]? = some v) : ∃ a, l[i / 6]? = some a ∧ a.cells[i % 6]? = some v := by
  have hl : i < l.length * 6 := by
    rcases Nat.lt_or_ge i (cellsA l).length with h' | h'
    · rwa [cellsA_length] at h'
    · rw [List.getElem?_eq_none h'] at h; cases h
  obtain ⟨a, ha⟩ : ∃ a, l[i / 6]? = some a := ⟨l[i / 6]'(by omega), by simp [show i / 6 < l.length by omega]⟩
  refine ⟨a, ha, ?_⟩
  obtain ⟨u, hu⟩ : ∃ u, a.cells[i % 6]? = some u := ⟨a.cells[i % 6]'(by show i % 6 < 6; omega), by simp [show i % 6 < a.cells.length by show i % 6 < 6; omega]⟩
  have e := cellsA_at ha hu
  rw [show i / 6 * 6 + i % 6 = i by omega, h] at e
  rw [hu, e]

set_option maxRecDepth 100000 in
set_option maxHeartbeats 1600000 in
theorem open_files {H : Type} {enc : TypeId × Value → H} {w : World} {base : Nat} {spare : Nat → Bool} {held : Bool} {fuel : Nat} {v : Value} {x : DataW H × List MemPlace}
    (h : DataW.trod enc Try.prog w base spare held fuel 69 [v] = some x) (hw : ∀ n ∈ x.1.weights Try.prog 69, n ≤ reachBytes) :
    ∃ (A : Option Addr) (c : Nat) (l : List FL), v = .slice A l.length c ∧ l.length ≤ c ∧ c ≤ maxLen ∧ Rd w A (cellsF l) ∧ ∀ f ∈ l, FIn w f ∧ f.nm.size ≤ 140737488351232 ∧ f.dat.length ≤ 140737488351232 := by
  rcases open_slice Try.underlying69 h with ⟨h0, _⟩ | ⟨ad, len, cap, m, n, D, Pl, h0, _, hl, hm, hmm, hz, hi⟩
  · simp only [List.cons.injEq, and_true] at h0
    subst h0
    exact ⟨none, 0, [], rfl, by simp, by simp [maxLen], Rd.nil _ _, fun t ht => by simp at ht⟩
  · simp only [List.cons.injEq, and_true] at h0
    subst h0
    obtain ⟨L, hL, hLe⟩ := list_upto (α := FL) (P := fun i f => (FIn w f ∧ f.nm.size ≤ 140737488351232 ∧ f.dat.length ≤ 140737488351232) ∧ ∀ j u, f.cells[j]? = some u → w.cell? (ad.add (i * 2 + j)) = some u) (n := len) fun i hil => by
      have him : i < m := by rw [hmm]; split <;> omega
      obtain ⟨cs, hc, ht⟩ := hi i him
      rw [cells_afile] at hc
      obtain ⟨_, hcl, hat⟩ := World.cells?_some hc
      obtain ⟨ys, n', _, hag, hlen, hyl, hf⟩ := DataW.trod_struct Try.underlying78 ht
      match cs, hcl with
      | [c0, c1], _ =>
        match ys, hyl with
        | [y0, y1], _ =>
          have f0 := hf 0 _ rfl
          have f1 := hf 1 _ rfl
          simp [cells_str, cells_u8s] at f0 f1
          obtain ⟨k, e0, g0, _⟩ := DataW.trod_string Try.underlying9 f0
          have hD : D i = .agg [y0.1, y1.1] := by
            have := congrArg Prod.fst hag
            simpa using this
          have hwi : ∀ n ∈ (D i).weights Try.prog 78, n ≤ reachBytes := fun n hn => hw n (by
            rw [hz]
            exact weights_slice Try.underlying69 (List.mem_map.2 ⟨i, List.mem_range.2 hil, rfl⟩) hn)
          have hk : k.data.toList.length ≤ reachBytes := hwi _ (by
            rw [hD, DataW.weights, Try.underlying78]
            refine DataW.weights_mem_each (j := 0) (t := 9) (d := y0.1) rfl rfl _ ?_
            rw [g0]; simp [DataW.weights])
          obtain ⟨A, c, zs, e1, hn1, hc1, hr1, hwf1, hfit1⟩ := open_nums_fit Try.underlying48 Try.underlying5 cells_u8 bytes_u8' (by decide) f1 (fun n hn => hwi n (by
            rw [hD, DataW.weights, Try.underlying78]
            exact DataW.weights_mem_each (j := 1) (t := 48) (d := y1.1) rfl rfl n hn))
          simp at e0 e1
          subst e0 e1
          refine ⟨⟨k, zs, .slice A zs.length c⟩, ⟨⟨⟨A, c, rfl, hn1, hc1, hr1⟩, fun x hx => wf_u8 (hwf1 x hx)⟩, hk, hfit1⟩, fun j u hu => ?_⟩
          rw [← Addr.add_add, hat j (by
            rcases Nat.lt_or_ge j 2 with h' | h'
            · exact h'
            · rw [List.getElem?_eq_none (by simp [FL.cells]; omega)] at hu; cases hu)]
          exact hu
    refine ⟨some ad, cap, L, by rw [hL], by omega, hm, rd_of fun i u hu => ?_, fun t ht => ?_⟩
    · obtain ⟨t, h1, h2⟩ := cellsF_of hu
      have := (hLe _ _ h1).2 _ _ h2
      rwa [show i / 2 * 2 + i % 2 = i by omega] at this
    · obtain ⟨i, hi'⟩ := List.getElem?_of_mem ht
      exact (hLe _ _ hi').1

/-! ### a block of several cells -/
def Box (w : World) (g : Nat) (vs : List Value) : Prop := g < w.heap.size ∧ ∀ i v, vs[i]? = some v → w.cell? ⟨g, i, none⟩ = some v
theorem Box.below {w w' : World} {g B : Nat} {vs : List Value} (h : Box w g vs) (hb : Below B w w') (hg : g < B) : Box w' g vs :=
  ⟨by have := hb.size; have := h.1; omega, fun i v hv => (hb.cell (p := ⟨g, i, none⟩) hg).trans (h.2 i v hv)⟩
theorem box_new (w : World) (vs : List Value) (t : TypeId) : Box (w.alloc (.cells vs.toArray t)) w.heap.size vs :=
  ⟨by simp, fun i v hv => by rw [World.cell?_alloc_at _ _ _ _ rfl]; simpa using hv⟩
theorem wpList_load_box {P : Program} {w : World} {ops : Array Oper} {rest : List Oper} {op : Oper} {a : Act} {Q : Exit → Act → World → Prop} (hgd : op.guard = none) (ty : TypeId) (x : Operand) (ho : op.op = .load ty x)
    (g : Nat) (hx : a.eval x = .pointer (some ⟨g, 0, none⟩)) (cs : List Value) (hb : Box w g cs) (d : TypeDesc) (hu : P.underlying ty = some d) (hd : d.isRow = true) (hi : (P.info? ty).map (·.size) = some cs.length)
    (h : wpList P ops Q rest (a.put op.dst (.agg cs.toArray)) w) : wpList P ops Q (op :: rest) a w :=
  wpList_load_mid hgd ty x ho g 0 hx cs d (fun j v hv => by rw [Nat.zero_add]; exact hb.2 j v hv) hu hd hi h
end Go.Proofs.Ytaccmjgnggepjaa
/-
  What a statement on logs is asked: acts, where the power goes; as it lies in memory, and as it comes in.
-/
namespace Go.Proofs.Ytaccmjgnggepjaa
open Go.RowKit Go.ChangeShapes Go.WideShapes Go.Deep

/-- an act on a log: its number, its record, its records, its picks -/
structure ActG where
  Do : Int
  S : ByteArray
  AL : Option Addr
  nL : Nat
  cL : Nat
  ls : List ByteArray
  AK : Option Addr
  nK : Nat
  cK : Nat
  ps : List Int
def ActG.cells (a : ActG) : List Value := [.int .i64 a.Do, .string a.S, .slice a.AL a.nL a.cL, .slice a.AK a.nK a.cK]
def cellsG (l : List ActG) : List Value := l.flatMap ActG.cells
theorem cellsG_length (l : List ActG) : (cellsG l).length = l.length * 4 := by
  induction l with
  | nil => rfl
  | cons m ms ih => simp only [cellsG, List.flatMap_cons, List.length_append] at ih ⊢; rw [ih]; simp [ActG.cells]; omega
theorem cellsG_at : ∀ {l : List ActG} {i : Nat} {a : ActG}, l[i]? = some a → ∀ {j : Nat} {v : Value}, a.cells[j]? = some v → (cellsG l)[i * 4 + j]? = some v
  | [], _, _, h, _, _, _ => by simp at h
  | x :: l, 0, a, h, j, v, hv => by
    simp at h
    subst h
    show (x.cells ++ cellsG l)[0 * 4 + j]? = some v
    rw [Nat.zero_mul, Nat.zero_add, List.getElem?_append_left (List.getElem?_eq_some_iff.1 hv).1]
    exact hv
  | x :: l, i + 1, a, h, j, v, hv => by
    have ih := cellsG_at (l := l) (i := i) (by simpa using h) hv
    show (x.cells ++ cellsG l)[(i + 1) * 4 + j]? = some v
    have e : x.cells.length = 4 := rfl
    rw [List.getElem?_append_right (by rw [e]; omega), e, show (i + 1) * 4 + j - 4 = i * 4 + j by omega]
    exact ih
theorem cellsG_of {l : List ActG} {i : Nat} {v : Value} (h : (cellsG l)[i]? = some v) : ∃ a, l[i / 4]? = some a ∧ a.cells[i % 4]? = some v := by
  have hl : i < l.length * 4 := by
    rcases Nat.lt_or_ge i (cellsG l).length with h' | h'
    · rwa [cellsG_length] at h'
    · rw [List.getElem?_eq_none h'] at h; cases h
  obtain ⟨a, ha⟩ : ∃ a, l[i / 4]? = some a := ⟨l[i / 4]'(by omega), by simp [show i / 4 < l.length by omega]⟩
  refine ⟨a, ha, ?_⟩
  obtain ⟨u, hu⟩ : ∃ u, a.cells[i % 4]? = some u := ⟨a.cells[i % 4]'(by show i % 4 < 4; omega), by simp [show i % 4 < a.cells.length by show i % 4 < 4; omega]⟩
  have e := cellsG_at ha hu
  rw [show i / 4 * 4 + i % 4 = i by omega, h] at e
  rw [hu, e]
structure ActGIn (w : World) (a : ActG) : Prop where
  zL : a.ls.length = a.nL
  rL : Rd w a.AL (Go.Proofs.Ytaccmjgnggepjaa.strs a.ls)
  kL : a.nL ≤ a.cL
  xL : a.cL ≤ maxLen
  fL : a.nL ≤ 140737488351232
  sL : ∀ s ∈ a.ls, s.size ≤ 140737488351232
  zK : a.ps.length = a.nK
  rK : Rd w a.AK (i64s a.ps)
  kK : a.nK ≤ a.cK
  xK : a.cK ≤ maxLen
  yK : ∀ x ∈ a.ps, -9223372036854775808 ≤ x ∧ x ≤ 9223372036854775807
  fK : a.nK ≤ 140737488351232
  wD : -9223372036854775808 ≤ a.Do ∧ a.Do ≤ 9223372036854775807
  sS : a.S.size ≤ 140737488351232
theorem ActGIn.below {w w' : World} {a : ActG} (h : ActGIn w a) (hb : Below w.heap.size w w') : ActGIn w' a :=
  ⟨h.zL, h.rL.below hb, h.kL, h.xL, h.fL, h.sL, h.zK, h.rK.below hb, h.kK, h.xK, h.yK, h.fK, h.wD, h.sS⟩

structure ScrG where
  AL : Option Addr
  nL : Nat
  cL : Nat
  L : List ActG
  AO : Option Addr
  nO : Nat
  cO : Nat
  os : List Int
def scrCG (s : ScrG) : List Value := [.slice s.AL s.nL s.cL, .slice s.AO s.nO s.cO]
def scrVG (s : ScrG) : Value := .agg #[.slice s.AL s.nL s.cL, .slice s.AO s.nO s.cO]
structure ScrGIn (w : World) (s : ScrG) : Prop where
  zL : s.L.length = s.nL
  rL : Rd w s.AL (cellsG s.L)
  kL : s.nL ≤ s.cL
  xL : s.cL ≤ maxLen
  act : ∀ a ∈ s.L, ActGIn w a
  zO : s.os.length = s.nO
  rO : Rd w s.AO (i64s s.os)
  kO : s.nO ≤ s.cO
  xO : s.cO ≤ maxLen
  yO : ∀ x ∈ s.os, -9223372036854775808 ≤ x ∧ x ≤ 9223372036854775807
theorem ScrGIn.below {w w' : World} {s : ScrG} (h : ScrGIn w s) (hb : Below w.heap.size w w') : ScrGIn w' s :=
  ⟨h.zL, h.rL.below hb, h.kL, h.xL, fun a ha => (h.act a ha).below hb, h.zO, h.rO.below hb, h.kO, h.xO, h.yO⟩
/-- an act, as it lies -/
theorem ScrGIn.at_ {w : World} {s : ScrG} (h : ScrGIn w s) {k : Nat} (hk : k < s.nL) : ∃ (b off : Nat) (a : ActG), s.AL = some ⟨b, off, none⟩ ∧ b < w.heap.size ∧ s.L[k]? = some a ∧ a ∈ s.L ∧ w.rangeAt b (off + k * 4) a.cells := by
  have hk' : k < s.L.length := by rw [h.zL]; exact hk
  obtain ⟨x, hx⟩ : ∃ x, s.L[k]? = some x := ⟨s.L[k], by simp [hk']⟩
  obtain ⟨b, off, e, hbl, hc⟩ := h.rL.open_ (by rw [cellsG_length]; omega)
  refine ⟨b, off, x, e, hbl, hx, List.mem_of_getElem? hx, fun j v hv => ?_⟩
  have := hc _ v (cellsG_at hx hv)
  rw [Nat.add_assoc]
  exact this

theorem bytes_strG : Try.prog.bytesOf 9 = 16 := by kernel_rfl
theorem texts_len {H : Type} {P : Program} {enc : TypeId × Value → H} {w : World} {base : Nat} {spare : Nat → Bool} {held : Bool} {fuel : Nat} {t e : TypeId} {v : Value} {x : DataW H × List MemPlace}
    (ht : P.underlying t = some (.slice e)) (he : P.underlying e = some .string) (hc : P.cellsOf e = 1) (hby : P.bytesOf e = 16) (h : DataW.trod enc P w base spare held fuel t [v] = some x) (hw : ∀ n ∈ x.1.weights P t, n ≤ reachBytes) :
    ∀ a len cap, v = .slice (some a) len cap → len ≤ 140737488351232 := fun a len cap hv => by
  rcases open_strings ht he hc h with ⟨h0, _⟩ | ⟨a', len', cap', ss, h0, _, hl, hm, hz, hx, _, _⟩
  · simp only [List.cons.injEq, and_true] at h0
    rw [h0] at hv; cases hv
  · simp only [List.cons.injEq, and_true] at h0
    rw [h0] at hv
    cases hv
    have hlen : len ≤ ss.length := by rw [hz]; split <;> omega
    have := hw ((len + (ss.length - len)) * 16) (by
      rw [hx, DataW.weights, ht]
      simp only [hby]
      refine List.mem_cons.2 (.inl ?_)
      congr 1
      simp [ChangeShapes.strs]
      omega)
    unfold reachBytes at this
    omega
theorem open_texts_fit {H : Type} {enc : TypeId × Value → H} {w : World} {base : Nat} {spare : Nat → Bool} {held : Bool} {fuel : Nat} {v : Value} {x : DataW H × List MemPlace}
    (h : DataW.trod enc Try.prog w base spare held fuel 50 [v] = some x) (hw : ∀ n ∈ x.1.weights Try.prog 50, n ≤ reachBytes) :
    ∃ (A : Option Addr) (c : Nat) (ss : List ByteArray), v = .slice A ss.length c ∧ ss.length ≤ c ∧ c ≤ maxLen ∧ Rd w A (Go.Proofs.Ytaccmjgnggepjaa.strs ss) ∧ (∀ s ∈ ss, s.size ≤ 140737488351232) ∧ ss.length ≤ 140737488351232 := by
  have hsz := texts_len Try.underlying50 Try.underlying9 cells_str bytes_strG h hw
  obtain ⟨A, c, ss, rfl, h1, h2, h3, h4⟩ := open_texts Try.underlying50 Try.underlying9 cells_str h hw
  refine ⟨A, c, ss, rfl, h1, h2, h3, h4, ?_⟩
  cases A with
  | none =>
    rcases Nat.eq_zero_or_pos ss.length with h0 | h0
    · omega
    · obtain ⟨b, off, he, _⟩ := h3.open_ (by rw [strs_length]; exact h0)
      cases he
  | some a => exact hsz a _ _ rfl

end Go.Proofs.Ytaccmjgnggepjaa
/-
  The page's comparisons of bytes and of numbers: whether two lists are the same.
-/
namespace Go.Proofs.Ytaccmjgnggepjaa
open Go.RowKit

theorem take_nxt {α : Type} {l : List α} {k : Nat} {x : α} (h : l[k]? = some x) : l.take (k + 1) = l.take k ++ [x] := by
  rw [List.take_add_one, h]; rfl

end Go.Proofs.Ytaccmjgnggepjaa
/-
  Which scripts are let go; a code, as it is; and what wakes the statements.
-/
namespace Go.Proofs.Ytaccmjgnggepjaa
open Go.RowKit

/-- a script that is not let go -/
def Light9 (s : Scr9) : Prop := s.nF ≤ 40 ∧ (∀ f ∈ s.fl, f.dat.length ≤ 10000) ∧ ∀ (j : Nat) (a : ActD), j < 40 → s.L[j]? = some a → a.nB ≤ 10000 ∧ a.nK ≤ 10000
def Heavy9 (s : Scr9) (w : World) (e : Ending) (w' : World) : Prop := ∃ b : Bool, e = .returned (.bool b) ∧ Below w.heap.size w w' ∧ (b = false → Light9 s)
theorem light9 {s : Scr9} {w : World} {nF nL k k2 tt tt2 : Nat} (h1 : s.nF = nF) (h2 : s.nL = nL) (hin : ScrIn w s) (hff : (nF ≤ k ∨ 40 ≤ k) ∧ ∀ (j : Nat) (f : FL), j < k → s.fl[j]? = some f → f.dat.length ≤ tt)
    (hll : tt ≤ tt2 ∧ ∀ (j : Nat) (a : ActD), j < k2 → s.L[j]? = some a → a.nB ≤ tt2 ∧ a.nK ≤ tt2) (g1 : ¬ 10000 < tt2) (g2 : ¬ 40 < nF) (hk : nL ≤ k2 ∨ 40 ≤ k2) : Light9 s := by
  refine ⟨by omega, fun f hf => ?_, fun j a hj ha => ?_⟩
  · obtain ⟨i, hi⟩ := List.mem_iff_getElem?.1 hf
    have := (List.getElem?_eq_some_iff.1 hi).1
    have h3 := hin.zF
    have := hff.2 i f (by have := hff.1; omega) hi
    have := hll.1
    omega
  · have := (List.getElem?_eq_some_iff.1 ha).1
    have h3 := hin.zL
    have := hll.2 j a (by omega) ha
    omega

end Go.Proofs.Ytaccmjgnggepjaa
/-
  Package disk: Cut.
-/
namespace Go.Proofs.Ytaccmjgnggepjaa
open Go.RowKit

set_option maxHeartbeats 4000000 in
theorem cut_is {F : Nat → Prop} {D : PD} (g : Nat) (s : ByteArray) (n : Int) (w : World) (h : IsDisk w g F D) (hs : s.size ≤ maxLen) (hc : D.calls ≤ 1000000) :
    Calls Try.prog 65 #[.pointer (some ⟨g, 0, none⟩), .string s, .int .i64 n] w fun e w' => e = .returned (.int .i64 (dCut D s n).2) ∧ DiskTo g F (dCut D s n).1 w w' := by
  by_cases hn0 : n < 0
  · have hr : dCut D s n = (D, 1) := by rw [dCut, if_pos hn0]
    rw [hr]
    have HD := Lib.hid h
    clear hr h
    go_enter Try.func65, Try.ntmps65
    go_wp2
    go_ret
    exact ⟨rfl, DiskTo.same HD.out⟩
  have hcut : dCut D s n = dOpen D s fun f => if (f.vis.length : Int) < n then (D.tick, 1) else (D.with (D.L.set (D.pos s) { f with vis := f.vis.take n.toNat }), 0) := by rw [dCut, if_neg hn0]
  obtain ⟨vL, l, ms, h⟩ := h
  have HD := Lib.hid h
  cases hn : okName s with
  | false =>
    have hr : dCut D s n = (D, 1) := by rw [hcut]; exact dOpen_no hn
    rw [hr]
    clear hr h hcut
    go_enter Try.func65, Try.ntmps65
    go_wp2_with (go_at_call 62; refine (open_no _ _ _ hs hn).mono ?_; rintro e w' ⟨rfl, rfl⟩)
    go_ret
    exact ⟨rfl, DiskTo.same ⟨_, _, _, HD.out⟩⟩
  | true =>
    cases hoff : D.tick.off with
    | true =>
      have hr : dCut D s n = (D.tick, 9) := by rw [hcut]; exact dOpen_off hn hoff
      rw [hr]
      clear hr h hcut
      go_enter Try.func65, Try.ntmps65
      go_wp2_with (go_at_call 62; refine (open_off _ _ _ HD.out hs hn hc hoff).mono ?_; rintro e w' ⟨rfl, hto⟩)
      go_ret
      exact ⟨rfl, hto.done HD.out.here⟩
    | false =>
      cases hh : D.has s with
      | false =>
        have hr : dCut D s n = (D.tick, 3) := by rw [hcut]; exact dOpen_none hn hoff hh
        rw [hr]
        clear hr h hcut
        go_enter Try.func65, Try.ntmps65
        go_wp2_with (go_at_call 62; refine (open_on false _ _ _ _ HD.out hs hn hc hoff hh rfl).mono ?_; rintro e w' ⟨he, hto⟩; simp only [Bool.false_eq_true, if_false] at he; subst he)
        go_ret
        exact ⟨rfl, hto.done HD.out.here⟩
      | true =>
        obtain ⟨m, hm, hmn, hvis, hpl⟩ := h.there hh
        have hfa := h.fileAt hh hm
        have hfew := h.few
        obtain ⟨p, hp⟩ : ∃ p, D.pos s = p := ⟨_, rfl⟩
        rw [hp] at hm hpl
        obtain ⟨gr, cap, hvL, hnc, hcm, hne, hF, hnb⟩ := h.rowAt (by omega)
        have hmem : m ∈ ms := List.mem_of_getElem? hm
        obtain ⟨nL, hnL⟩ : ∃ nL, ms.length = nL := ⟨_, rfl⟩
        rw [hnL] at hvL hnc hpl hfew
        have HVL := Lib.hid hvL
        have HNL := Lib.hid hnL
        have HM := Lib.hid hm
        have HMM := Lib.hid hmem
        have HP := Lib.hid hp
        have HH := Lib.hid hh
        have HFA := Lib.hid hfa
        have HCUT := Lib.hid hcut
        have HBL := Lib.hid hnb
        have hz1 := (h.els m hmem).z1
        have hs1 := (h.els m hmem).s1
        have hs2 := (h.els m hmem).s2
        obtain ⟨nV, hnV⟩ : ∃ nV, m.vis.length = nV := ⟨_, rfl⟩
        rw [hnV] at hz1 hs1
        have HNV := Lib.hid hnV
        subst hvL
        clear h hfa hvis hm hmem hmn hp hh hcut hnb hnV hnL
        have i0 : (0 : Int) ≤ (p : Int) := by omega
        have i1 : (p : Int) < (nL : Int) := by omega
        by_cases hlt : (nV : Int) < n
        · have hr : dCut D s n = (D.tick, 1) := by
            rw [HCUT.out, dOpen_yes hn hoff HFA.out, if_pos (by show (m.vis.length : Int) < n; rw [HNV.out]; exact hlt)]
          rw [hr]
          clear hr
          go_enter Try.func65, Try.ntmps65
          go_wp2_with fail
          refine (open_on true p _ _ _ HD.out hs hn hc hoff HH.out HP.out).mono ?_
          rintro e w1 ⟨he, hto⟩
          simp only [if_true] at he
          subst he
          have HTO := Lib.hid hto
          obtain ⟨l1, hd1, _⟩ := hto
          have k0 := hd1.c0
          have k1 := (hd1.file rfl HM.out).a1
          obtain ⟨AV, cV, hvV, hcV, hmV, _⟩ := rd_own (hd1.els m HMM.out).rV
          rw [HNV.out] at hvV
          rw [hvV] at k1
          clear hvV hd1
          go_wp2_with fail
          go_ret
          exact ⟨rfl, HTO.out.done HD.out.here⟩
        · obtain ⟨q, hq⟩ : ∃ q : Nat, n = (q : Int) := ⟨n.toNat, by omega⟩
          subst hq
          have hqn : q ≤ nV := by omega
          have hr : dCut D s (q : Int) = (D.with (D.L.set p { m.pf with vis := m.vis.take q }), 0) := by
            rw [HCUT.out, dOpen_yes hn hoff HFA.out, if_neg (by show ¬ ((m.vis.length : Int) < (q : Int)); rw [HNV.out]; exact hlt), HP.out, Int.toNat_natCast]
            rfl
          rw [hr]
          clear hr
          have hmin : min (m.same : Int) (q : Int) = ((min m.same q : Nat) : Int) := by omega
          obtain ⟨mq, hmq⟩ : ∃ mq, mq = min m.same q := ⟨_, rfl⟩
          have HMIN : Hid (min (m.same : Int) (q : Int) = (mq : Int)) := by show _ = _; rw [hmq]; exact hmin
          have HMQ := Lib.hid hmq
          clear hmin hmq
          have j1 : ¬ ((nV : Int) < (q : Int)) := hlt
          clear hlt
          go_enter Try.func65, Try.ntmps65
          go_wp2_with fail
          refine (open_on true p _ _ _ HD.out hs hn hc hoff HH.out HP.out).mono ?_
          rintro e w1 ⟨he, hto⟩
          simp only [if_true] at he
          subst he
          have HT := Lib.hid (hto.touch HD.out.here)
          obtain ⟨l1, hd1, _⟩ := hto
          have HD1 := Lib.hid hd1
          have k0 := hd1.c0
          have kf := hd1.file rfl HM.out
          have k1 := kf.a1
          have k3 := kf.a3
          have f1 := hd1.rowfz rfl (p * 4 + 1)
          have f3 := hd1.rowfz rfl (p * 4 + 3)
          obtain ⟨AV, cV, hvV, hcV, hmV, _⟩ := rd_own (hd1.els m HMM.out).rV
          rw [HNV.out] at hvV hcV
          rw [hvV] at k1
          have HVV := Lib.hid hvV
          clear kf hvV hd1
          unfold maxLen at hmV hcm
          have i2 : (0 : Int) ≤ (q : Int) := by omega
          have i3 : (q : Int) ≤ (cV : Int) := by omega
          go_wp2_with fail
          go_ret
          refine ⟨rfl, DiskTo.behind HT.out ?_⟩
          have hfi := HD1.out.els m HMM.out
          have hrow := HD1.out.row
          rw [HNL.out] at hrow
          have hm' : ({ m with vis := m.vis.take q, vV := .slice AV q cV, same := mq } : MF).blks = m.blks := by
            show (Value.slice AV q cV).ownBlock.toList ++ m.dV.ownBlock.toList = m.vV.ownBlock.toList ++ m.dV.ownBlock.toList
            rw [HVV.out]
            cases AV <;> rfl
          have s1 := (hrow.stored (p * 4 + 1) (.slice AV q cV)).1
          have s3 := (s1.stored (p * 4 + 3) (.int .i64 (mq : Int))).1
          have hset : ((cellsD ms).set (p * 4 + 1) (.slice AV q cV)).set (p * 4 + 3) (.int .i64 (mq : Int)) = cellsD (ms.set p { m with vis := m.vis.take q, vV := .slice AV q cV, same := mq }) := by
            rw [← cellsD_set_at HM.out { m with vis := m.vis.take q, vV := .slice AV q cV, same := mq } rfl]
            congr 1
            exact (set_same (by rw [List.getElem?_set_ne (by omega)]; exact cellsD_at HM.out (j := 2) rfl)).symm
          rw [hset] at s3
          have ht : Touch (fun k => k = gr ∨ k ∈ m.blks) w1 ((w1.setCell ⟨gr, p * 4 + 1, none⟩ (.slice AV q cV)).setCell ⟨gr, p * 4 + 3, none⟩ (.int .i64 (mq : Int))) := ((Touch.refl _ _).set (.inl (.inl rfl)) _).set (.inl (.inl rfl)) _
          have hfar : ∀ k ∈ m.blks, ((w1.setCell ⟨gr, p * 4 + 1, none⟩ (.slice AV q cV)).setCell ⟨gr, p * 4 + 3, none⟩ (.int .i64 (mq : Int))).heap[k]? = w1.heap[k]? := fun k hk => by
            have hkg : k ≠ gr := fun e => HBL.out m HMM.out (e ▸ hk)
            rw [heap_setCell_other _ ⟨gr, p * 4 + 3, none⟩ k _ hkg, heap_setCell_other _ ⟨gr, p * 4 + 1, none⟩ k _ hkg]
          have hk := hfi.kept hfar
          have hrV : ((w1.setCell ⟨gr, p * 4 + 1, none⟩ (.slice AV q cV)).setCell ⟨gr, p * 4 + 3, none⟩ (.int .i64 (mq : Int))).ownsRow 0 5 1 (.slice AV nV cV) nV (u8s m.vis) := by
            have := hk.rV
            rwa [HVV.out, HNV.out] at this
          rw [HMIN.out]
          have hml : mq ≤ q := by rw [HMQ.out]; exact Nat.min_le_right _ _
          have hml2 : mq ≤ m.same := by rw [HMQ.out]; exact Nat.min_le_left _ _
          have htl : (m.vis.take q).length = q := by rw [List.length_take, HNV.out]; omega
          refine HD1.out.fileTo (T' := D.with (D.L.set p { m.pf with vis := m.vis.take q })) HM.out (m' := { m with vis := m.vis.take q, vV := .slice AV q cV, same := mq }) rfl ht s3 ?_ (fun k hk => .inl (by rw [hm'] at hk; exact hk)) (by rw [hm']; exact blks_nd HD1.out.ndF HMM.out) ?_ rfl rfl rfl
          · exact
              { rV := by
                  have h0 := row_first hrV hqn
                  show World.ownsRow _ 0 5 1 (.slice AV q cV) (m.vis.take q).length (u8s (m.vis.take q))
                  rw [htl, show u8s (m.vis.take q) = (u8s m.vis).take q by simp [u8s, List.map_take]]
                  exact h0
                rD := hk.rD
                s1 := by show mq ≤ (m.vis.take q).length; omega
                s2 := by show mq ≤ m.dur.length; omega
                s3 := by
                  show (m.vis.take q).take mq = m.dur.take mq
                  rw [List.take_take, Nat.min_eq_left hml]
                  have h0 := congrArg (List.take mq) hk.s3
                  rwa [List.take_take, List.take_take, Nat.min_eq_left hml2] at h0
                b1 := hk.b1.take q
                b2 := hk.b2
                z1 := by show (m.vis.take q).length ≤ 1048576; omega
                z2 := hk.z2
                ok := hk.ok }
          · show D.L.set p _ = _
            rw [HD.out.eqL]
            rfl

end Go.Proofs.Ytaccmjgnggepjaa
/-
  A disk that a statement holds, and what must stay as it is; what wakes the statements.
-/
namespace Go.Proofs.Ytaccmjgnggepjaa
open Go.RowKit

/-- a disk whose blocks are none of G's -/
def HDG (G : Nat → Prop) (w : World) (g : Nat) (D : PD) : Prop := (∀ k, G k → k < w.heap.size) ∧ ∃ F : Nat → Prop, IsDisk w g F D ∧ ∀ k, F k → ¬ G k
/-- bytes handed in, of G's blocks -/
structure GivG (w : World) (G : Nat → Prop) (A : Option Addr) (n c : Nat) (zs : List Int) : Prop where
  hz : zs.length = n
  rd : Rd w A (u8s zs)
  byt : Byts zs
  hc : n ≤ c
  hm : c ≤ maxLen
  few : n ≤ 1000000
  far : ∀ a, A = some a → 0 < n → G a.block

section
variable {G G' : Nat → Prop} {w w' : World} {g : Nat} {D D' : PD}
theorem HDG.less (h : HDG G w g D) (hs : ∀ k, G' k → G k) : HDG G' w g D := by
  obtain ⟨h1, F, h2, h3⟩ := h
  exact ⟨fun k hk => h1 k (hs k hk), F, h2, fun k hk hg => h3 k hk (hs k hg)⟩
theorem HDG.kept (h : HDG G w g D) (hb : Below w.heap.size w w') : HDG G w' g D := by
  obtain ⟨h1, F, h2, h3⟩ := h
  exact ⟨fun k hk => Nat.lt_of_lt_of_le (h1 k hk) hb.size, F, h2.kept hb.size fun k hk => hb.block k (h2.lt k hk), h3⟩
theorem HDG.wide (h : HDG G w g D) (hb : Below w.heap.size w w') : HDG (fun k => G k ∨ (w.heap.size ≤ k ∧ k < w'.heap.size)) w' g D := by
  obtain ⟨h1, F, h2, h3⟩ := h
  refine ⟨fun k hk => ?_, F, h2.kept hb.size fun k hk => hb.block k (h2.lt k hk), fun k hk hg => ?_⟩
  · rcases hk with hk | hk
    · exact Nat.lt_of_lt_of_le (h1 k hk) hb.size
    · exact hk.2
  · rcases hg with hg | hg
    · exact h3 k hk hg
    · have := h2.lt k hk; omega
theorem HDG.step (h1 : ∀ k, G k → k < w.heap.size) {F : Nat → Prop} (h3 : ∀ k, F k → ¬ G k) (ht : DiskTo g F D' w w') : HDG G w' g D' ∧ Touch (fun k => ¬ G k) w w' := by
  obtain ⟨F', hd, ht, hF⟩ := ht
  refine ⟨⟨fun k hk => Nat.lt_of_lt_of_le (h1 k hk) ht.size, F', hd, fun k hk hg => ?_⟩, ht.mono h3⟩
  rcases hF k hk with h' | h'
  · exact h3 k h' hg
  · have := h1 k hg; omega
theorem touch_below {B : Nat} (ht : Touch (fun k => ¬ k < B) w w') (hB : B ≤ w.heap.size) : Below B w w' := ht.below (fun k hk => by omega) hB
theorem HDG.size {B : Nat} (h : HDG (fun k => k < B) w g D) : B ≤ w.heap.size := by
  rcases Nat.eq_zero_or_pos B with h0 | h0
  · omega
  · have := h.1 (B - 1) (by show B - 1 < B; omega); omega
/-- a new disk -/
theorem newTo_hd {fs : List (ByteArray × List Int)} {F : Nat → Prop} (h : IsDisk w' g F (dNew fs)) (hF : ∀ k, F k → w.heap.size ≤ k) (hb : Below w.heap.size w w') : HDG (fun k => k < w.heap.size) w' g (dNew fs) :=
  ⟨fun k hk => Nat.lt_of_lt_of_le hk hb.size, F, h, fun k hk hg => by have := hF k hk; omega⟩
theorem hd_append (h : HDG G w g D) (s : ByteArray) (A : Option Addr) (nb cb : Nat) (zs : List Int) (hs : s.size ≤ maxLen) (hc : D.calls ≤ 1000000) (hG : GivG w G A nb cb zs) :
    Calls Try.prog 74 #[.pointer (some ⟨g, 0, none⟩), .string s, .slice A nb cb] w fun e w' => e = .returned (.int .i64 (dAppend D s zs).2) ∧ HDG G w' g (dAppend D s zs).1 ∧ Touch (fun k => ¬ G k) w w' := by
  obtain ⟨h1, F, h2, h3⟩ := h
  refine (append_is g s A nb cb zs w h2 hs hc ⟨hG.hz, hG.rd, hG.byt, hG.hc, hG.hm, hG.few, fun a ha h0 hf => h3 _ hf (hG.far a ha h0)⟩).mono ?_
  rintro e w' ⟨rfl, ht⟩
  exact ⟨rfl, HDG.step h1 h3 ht⟩
theorem hd_cut (h : HDG G w g D) (s : ByteArray) (n : Int) (hs : s.size ≤ maxLen) (hc : D.calls ≤ 1000000) :
    Calls Try.prog 65 #[.pointer (some ⟨g, 0, none⟩), .string s, .int .i64 n] w fun e w' => e = .returned (.int .i64 (dCut D s n).2) ∧ HDG G w' g (dCut D s n).1 ∧ Touch (fun k => ¬ G k) w w' := by
  obtain ⟨h1, F, h2, h3⟩ := h
  refine (cut_is g s n w h2 hs hc).mono ?_
  rintro e w' ⟨rfl, ht⟩
  exact ⟨rfl, HDG.step h1 h3 ht⟩
theorem hd_sync (h : HDG G w g D) (s : ByteArray) (hs : s.size ≤ maxLen) (hc : D.calls ≤ 1000000) :
    Calls Try.prog 58 #[.pointer (some ⟨g, 0, none⟩), .string s] w fun e w' => e = .returned (.int .i64 (dSync D s).2) ∧ HDG G w' g (dSync D s).1 ∧ Touch (fun k => ¬ G k) w w' := by
  obtain ⟨h1, F, h2, h3⟩ := h
  refine (sync_is g s w h2 hs hc).mono ?_
  rintro e w' ⟨rfl, ht⟩
  exact ⟨rfl, HDG.step h1 h3 ht⟩
theorem hd_remove (h : HDG G w g D) (s : ByteArray) (hs : s.size ≤ maxLen) (hc : D.calls ≤ 1000000) :
    Calls Try.prog 41 #[.pointer (some ⟨g, 0, none⟩), .string s] w fun e w' => e = .returned (.int .i64 (dRemove D s).2) ∧ HDG G w' g (dRemove D s).1 ∧ Touch (fun k => ¬ G k) w w' := by
  obtain ⟨h1, F, h2, h3⟩ := h
  refine (remove_is g s w h2 hs hc).mono ?_
  rintro e w' ⟨rfl, ht⟩
  exact ⟨rfl, HDG.step h1 h3 ht⟩
theorem hd_rename (h : HDG G w g D) (s b : ByteArray) (hs : s.size ≤ maxLen) (hsb : b.size ≤ maxLen) (hc : D.calls ≤ 1000000) :
    Calls Try.prog 86 #[.pointer (some ⟨g, 0, none⟩), .string s, .string b] w fun e w' => e = .returned (.int .i64 (dRename D s b).2) ∧ HDG G w' g (dRename D s b).1 ∧ Touch (fun k => ¬ G k) w w' := by
  obtain ⟨h1, F, h2, h3⟩ := h
  refine (rename_is g s b w h2 hs hsb hc).mono ?_
  rintro e w' ⟨rfl, ht⟩
  exact ⟨rfl, HDG.step h1 h3 ht⟩
theorem hd_read (h : HDG G w g D) (s : ByteArray) (hs : s.size ≤ maxLen) :
    Calls Try.prog 42 #[.pointer (some ⟨g, 0, none⟩), .string s] w (Made2 w.heap.size 5 w (u8s (dRead D s).1) (.int .i64 (dRead D s).2)) := by
  obtain ⟨h1, F, h2, h3⟩ := h
  exact read_is g s w h2 hs
theorem hd_crash (h : HDG G w g D) (AP : Option Addr) (nP cP : Nat) (ps : List Int) (hP : ps.length = nP) (hr : Rd w AP (i64s ps)) (hc : nP ≤ cP) (hm : cP ≤ maxLen) (hpr : ∀ x ∈ ps, -9223372036854775808 ≤ x ∧ x ≤ 9223372036854775807) :
    Calls Try.prog 31 #[.pointer (some ⟨g, 0, none⟩), .slice AP nP cP] w (FsTo w (dCrash D ps)) := by
  obtain ⟨h1, F, h2, h3⟩ := h
  exact crash_is g AP nP cP ps w h2 hP hr hc hm hpr
end

/-- a new disk without files -/
theorem new_nil (w : World) : Calls Try.prog 23 #[.slice none 0 0] w fun e w' => Below w.heap.size w w' ∧ ∃ g, e = .returned (.tuple #[.pointer (some ⟨g, 0, none⟩), .int .i64 0]) ∧ HDG (fun k => k < w.heap.size) w' g (dNew []) := by
  refine (new_is none 0 0 [] [] w rfl rfl (Rd.nil _ _) (fun f hf => by simp at hf) (fun f hf => by simp at hf) (by omega) (by omega)).mono ?_
  rintro e w' ⟨hb, hif⟩
  rw [if_pos (by rfl)] at hif
  obtain ⟨g, F, rfl, hd, hF⟩ := hif
  exact ⟨hb, g, rfl, newTo_hd hd hF hb⟩

theorem abc_byts : Byts [97, 98, 99] := fun x hx => by
  simp at hx
  rcases hx with rfl | rfl | rfl <;> exact ⟨by decide, by decide⟩
def bA : ByteArray := ⟨#[97]⟩
theorem wake_app : (dAppend (dNew []) bA [97, 98, 99]).2 = 0 ∧ dRead (dAppend (dNew []) bA [97, 98, 99]).1 bA = ([97, 98, 99], 0) := ⟨by decide +kernel, by decide +kernel⟩
theorem rd_mark (w : World) (cs : List Value) (t : TypeId) (fr : Nat × Nat) : Rd (w.alloc (.cells cs.toArray t fr)) (some ⟨w.heap.size, 0, none⟩) cs := fun _ =>
  ⟨w.heap.size, 0, rfl, by simp, fun i v hv => by
    have hb : (w.alloc (.cells cs.toArray t fr)).heap[w.heap.size]? = some (.cells cs.toArray t fr) := heap_alloc_new w _
    rw [Nat.zero_add]
    simp only [World.cell?, hb]
    simpa using hv⟩
/-- a constant's bytes -/
theorem conv_const (w : World) (C : Array Value) (n c : Nat) : (convert 48 48 (.slice (some ⟨w.heap.size, 0, none⟩) n c)).run Try.prog (w.alloc (.cells C 5)) = .ok (.slice (some ⟨w.heap.size, 0, none⟩) n c) (w.alloc (.cells C 5 (C.size, C.size + 1))) :=
  Lib.run_convert_bytes_const (P := Try.prog) w 48 5 C n c Try.underlying48 Try.underlying5

end Go.Proofs.Ytaccmjgnggepjaa
/-
  The page's comparison of files.
-/
namespace Go.Proofs.Ytaccmjgnggepjaa
open Go.RowKit

theorem one_file {l : List FL} {nm : ByteArray} {dat : List Int} (h : l.map FL.pl = [(nm, dat)]) : ∃ f, l = [f] ∧ f.nm = nm ∧ f.dat = dat := by
  match l, h with
  | [f], h =>
    simp [FL.pl] at h
    exact ⟨f, rfl, h.1, h.2⟩
theorem take_nx {α : Type} {l : List α} {k : Nat} {x : α} (h : l[k]? = some x) : l.take (k + 1) = l.take k ++ [x] := by
  rw [List.take_add_one, h]; rfl
end Go.Proofs.Ytaccmjgnggepjaa
/-
  The page's own question whether a text is a file's name.
-/
namespace Go.Proofs.Ytaccmjgnggepjaa
open Go.RowKit

end Go.Proofs.Ytaccmjgnggepjaa
/-
  Whether any text is a file's name is the page's, by each call that takes one: the walk.
-/
namespace Go.Proofs.Ytaccmjgnggepjaa
open Go.RowKit

theorem one_at (f : PF) (c l : Nat) (o : Bool) : (⟨[f], c, l, o⟩ : PD).fileAt f.nm = some f ∧ (⟨[f], c, l, o⟩ : PD).pos f.nm = 0 ∧ (⟨[f], c, l, o⟩ : PD).has f.nm = true := by
  have hp : posN [f.nm] f.nm = 0 := by simp [posN, ltN_irrefl]
  have hh : hasN [f.nm] f.nm = true := by simp [hasN, hp]
  refine ⟨?_, hp, hh⟩
  show (if hasN [f.nm] f.nm = true then [f][posN [f.nm] f.nm]? else none) = some f
  rw [if_pos hh, hp]
  rfl
theorem app_new {s : ByteArray} (h : okName s = true) (b : List Int) (hb : b.length ≤ 1048576) : dAppend (dNew []) s b = (⟨[⟨s, b, []⟩], 1, 0, false⟩, 0) := by
  rw [dAppend, if_neg (by rw [h]; decide), if_neg (by decide), if_neg (by show ¬ 1048576 < b.length + 0; omega)]
  rfl
theorem app_no {D : PD} {s : ByteArray} (h : okName s = false) (b : List Int) : dAppend D s b = (D, 1) := by rw [dAppend, if_pos h]
theorem sync_one {f : PF} {c : Nat} (h : okName f.nm = true) : dSync ⟨[f], c, 0, false⟩ f.nm = (⟨[⟨f.nm, f.vis, f.vis⟩], c + 1, 0, false⟩, 0) := by
  rw [dSync, dOpen_yes h (by rfl) (one_at f c 0 false).1, (one_at f c 0 false).2.1]
  rfl
theorem mayB_one (s : ByteArray) : mayB [(s, [])] = okName s := by
  cases h : okName s with
  | true =>
    refine mayB_yes (by simp) fun i hi => ?_
    have : i = 0 := by simpa using hi
    subst this
    simp [okAt, h]
  | false => exact mayB_no (i := 0) (by simp) (by simp [okAt, h])
theorem name_max {s : ByteArray} (h : s.size ≤ 140737488351232) : s.size ≤ maxLen := by unfold maxLen; omega

end Go.Proofs.Ytaccmjgnggepjaa
/-
  The page's copies of files; numbers brought within bounds.
-/
namespace Go.Proofs.Ytaccmjgnggepjaa
open Go.RowKit

theorem within_val (i : Int) (n : Nat) (hn : 0 < n) (hn' : n ≤ 1000) : ∃ r : Nat, r < n ∧ wrap64 ((IntKind.u64.wrap i).tmod (n : Int)) = (r : Int) := by
  have h0 : 0 ≤ IntKind.u64.wrap i := by rw [IntKind.wrap_u64]; omega
  obtain ⟨m, hm⟩ := Int.eq_ofNat_of_zero_le h0
  rw [hm]
  refine ⟨m % n, Nat.mod_lt _ hn, ?_⟩
  have h1 : ((m : Int)).tmod (n : Int) = ((m % n : Nat) : Int) := by
    rw [Int.tmod_eq_emod_of_nonneg (by omega)]
    simp
  have h2 : m % n < n := Nat.mod_lt _ hn
  rw [h1, wrap64]
  omega
theorem within_is (i : Int) (n r : Nat) (w : World) (hv : wrap64 ((IntKind.u64.wrap i).tmod (n : Int)) = (r : Int)) (hn : 0 < n) (hn' : n ≤ 1000) : Calls Try.prog 15 #[.int .i64 i, .int .i64 n] w fun e w' => e = .returned (.int .i64 r) ∧ w = w' := by
  have HV := Lib.hid hv
  clear hv
  go_enter Try.func15, Try.ntmps15
  go_wp2
  rw [HV.out]
  go_ret
  exact ⟨rfl, rfl⟩
theorem within_any (i : Int) (n : Nat) (w : World) (hn : 0 < n) (hn' : n ≤ 1000) : Calls Try.prog 15 #[.int .i64 i, .int .i64 n] w fun e w' => (∃ r : Nat, r < n ∧ e = .returned (.int .i64 r)) ∧ w = w' := by
  obtain ⟨r, hr, hv⟩ := within_val i n hn hn'
  exact (within_is i n r w hv hn hn').mono fun e w' h => ⟨⟨r, hr, h.1⟩, h.2⟩


theorem bcell9 {W w1 : World} (hb : Below W.heap.size W w1) : (∀ b o, b < W.heap.size → w1.cell? ⟨b, o, none⟩ = W.cell? ⟨b, o, none⟩) ∧ (∀ b o, b < W.heap.size → w1.frozen? ⟨b, o, none⟩ = W.frozen? ⟨b, o, none⟩) :=
  ⟨fun b o h => hb.cell (p := ⟨b, o, none⟩) h, fun b o h => hb.frozen (p := ⟨b, o, none⟩) h⟩
end Go.Proofs.Ytaccmjgnggepjaa
/-
  What stays of a file that is synced and left alone, on plain data.
-/
namespace Go.Proofs.Ytaccmjgnggepjaa
open Go.RowKit

def kN : ByteArray := ⟨#[107, 101, 112, 116]⟩
def keepL : List Int := [107, 101, 112, 116, 32, 102, 111, 114, 32, 101, 118, 101, 114, 44, 32, 119, 104, 97, 116, 101, 118, 101, 114, 32, 101, 108, 115, 101, 32, 116, 104, 101, 114, 101, 32, 105, 115, 44, 32, 97, 110, 100, 32, 109, 111, 114, 101, 32, 116, 104, 97, 110, 32, 111, 110, 101, 32, 115, 101, 99, 116, 111, 114, 32, 108, 111, 110, 103, 44, 32, 97, 115, 32, 105, 116, 32, 119, 97, 115, 32, 115, 121, 110, 99, 101, 100]
theorem keep_len : keepL.length = 86 := by decide
theorem keep_byts : Byts keepL := by
  have h : keepL.all (fun x => decide (0 ≤ x) && decide (x ≤ 255)) = true := by decide +kernel
  intro x hx
  have := List.all_eq_true.1 h x hx
  simp only [Bool.and_eq_true, decide_eq_true_eq] at this
  exact this
theorem kN_list : kN.toList = [107, 101, 112, 116] := by rw [Lib.toList_data]; rfl
theorem ne_list {a : ByteArray} (h : a ≠ kN) : ¬ a.toList = [107, 101, 112, 116] := fun e => h (ba_inj (e.trans kN_list.symm))
theorem kN_ok : okName kN = true := by decide +kernel
def kPF : PF := ⟨kN, keepL, keepL⟩

theorem mem_set9 {α : Type} {l : List α} {i : Nat} {x y z : α} (hx : x ∈ l) (hy : l[i]? = some y) (hne : x ≠ y) : x ∈ l.set i z := by
  obtain ⟨j, hj⟩ := List.mem_iff_getElem?.1 hx
  have hij : i ≠ j := fun e => by subst e; rw [hj] at hy; cases hy; exact hne rfl
  exact List.mem_iff_getElem?.2 ⟨j, by rw [List.getElem?_set_ne hij]; exact hj⟩
theorem mem_cut9 {α : Type} {l : List α} {i : Nat} {x y : α} (hx : x ∈ l) (hy : l[i]? = some y) (hne : x ≠ y) : x ∈ l.take i ++ l.drop (i + 1) := by
  have hi := (List.getElem?_eq_some_iff.1 hy).1
  have e : l = l.take i ++ y :: l.drop (i + 1) := by
    conv => lhs; rw [← List.take_append_drop i l]
    rw [List.drop_eq_getElem_cons hi, (List.getElem?_eq_some_iff.1 hy).2]
  rw [e] at hx
  rcases List.mem_append.1 hx with h | h
  · exact List.mem_append.2 (.inl h)
  · rcases List.mem_cons.1 h with h | h
    · exact absurd h hne
    · exact List.mem_append.2 (.inr h)
theorem mem_put9 {α : Type} {l : List α} {i : Nat} {x y : α} (hx : x ∈ l) : x ∈ l.take i ++ y :: l.drop i := by
  rw [← List.take_append_drop i l] at hx
  rcases List.mem_append.1 hx with h | h
  · exact List.mem_append.2 (.inl h)
  · exact List.mem_append.2 (.inr (List.mem_cons_of_mem _ h))
theorem fileAt_some {D : PD} {s : ByteArray} {f : PF} (h : D.fileAt s = some f) : D.L[D.pos s]? = some f ∧ f.nm = s := by
  unfold PD.fileAt at h
  split at h
  · rename_i hh
    have h1 := hasN_at hh
    refine ⟨h, ?_⟩
    have h2 : (namesF D.L)[posN (namesF D.L) s]? = some f.nm := by
      rw [namesF, List.getElem?_map]
      have h3 : D.L[posN (D.L.map PF.nm) s]? = some f := h
      rw [h3]
      rfl
    rw [h2] at h1
    exact Option.some.inj h1
  · cases h

/-- the power is on for good, and the file is there, whole -/
structure SafeD (D : PD) (n : Nat) : Prop where
  mem : kPF ∈ D.L
  on : D.off = false
  left : D.left = 0
  calls : D.calls ≤ n
theorem SafeD.tick {D : PD} {n : Nat} (h : SafeD D n) : SafeD D.tick (n + 1) := by
  have e : D.tick = { D with calls := D.calls + 1 } := by
    unfold PD.tick
    rw [if_neg (by rw [h.on]; decide), if_pos h.left]
  rw [e]
  exact ⟨h.mem, h.on, h.left, by have := h.calls; show D.calls + 1 ≤ _; omega⟩
theorem SafeD.more {D : PD} {n : Nat} (h : SafeD D n) : SafeD D (n + 1) := ⟨h.mem, h.on, h.left, by have := h.calls; omega⟩
theorem SafeD.with {D : PD} {n : Nat} (h : SafeD D n) {L : List PF} (hL : kPF ∈ L) : SafeD (D.with L) (n + 1) := by
  have ht := h.tick
  exact ⟨hL, ht.on, ht.left, ht.calls⟩
theorem SafeD.open_ {D : PD} {n : Nat} {s : ByteArray} {k : PF → PD × Int} (h : SafeD D n) (hk : ∀ f, D.L[D.pos s]? = some f → f.nm = s → SafeD (k f).1 (n + 1)) : SafeD (dOpen D s k).1 (n + 1) := by
  unfold dOpen
  split
  · exact h.more
  · split
    · exact h.tick
    · split
      · exact h.tick
      · rename_i f hf
        exact hk f (fileAt_some hf).1 (fileAt_some hf).2
theorem kPF_ne {f : PF} {s : ByteArray} (h : f.nm = s) (hs : s ≠ kN) : kPF ≠ f := fun e => hs (by rw [← h, ← e]; rfl)
theorem SafeD.append {D : PD} {n : Nat} (h : SafeD D n) {s : ByteArray} (hs : s ≠ kN) (b : List Int) : SafeD (dAppend D s b).1 (n + 1) := by
  unfold dAppend
  split
  · exact h.more
  · split
    · exact h.tick
    · split
      · exact h.tick
      · split
        · rename_i f hf
          obtain ⟨h1, h2⟩ := fileAt_some hf
          exact h.with (mem_set9 h.mem h1 (kPF_ne h2 hs))
        · split
          · exact h.tick
          · exact h.with (mem_put9 h.mem)
theorem SafeD.cut {D : PD} {n : Nat} (h : SafeD D n) {s : ByteArray} (hs : s ≠ kN) (m : Int) : SafeD (dCut D s m).1 (n + 1) := by
  unfold dCut
  split
  · exact h.more
  · refine h.open_ fun f h1 h2 => ?_
    split
    · exact h.tick
    · exact h.with (mem_set9 h.mem h1 (kPF_ne h2 hs))
theorem SafeD.sync {D : PD} {n : Nat} (h : SafeD D n) {s : ByteArray} (hs : s ≠ kN) : SafeD (dSync D s).1 (n + 1) := by
  unfold dSync
  exact h.open_ fun f h1 h2 => h.with (mem_set9 h.mem h1 (kPF_ne h2 hs))
theorem SafeD.remove {D : PD} {n : Nat} (h : SafeD D n) {s : ByteArray} (hs : s ≠ kN) : SafeD (dRemove D s).1 (n + 1) := by
  unfold dRemove
  exact h.open_ fun f h1 h2 => h.with (mem_cut9 h.mem h1 (kPF_ne h2 hs))
theorem putL_mem {L : List PF} {f : PF} (h : kPF ∈ L) (hf : f.nm ≠ kN) : kPF ∈ putL L f := by
  unfold putL
  split
  · rename_i hh
    have h1 := hasN_at hh
    rw [namesF, List.getElem?_map, Option.map_eq_some_iff] at h1
    obtain ⟨y, h2, h3⟩ := h1
    exact mem_set9 h h2 (kPF_ne h3 hf)
  · exact mem_put9 h
theorem SafeD.rename {D : PD} {n : Nat} (h : SafeD D n) {a b : ByteArray} (ha : a ≠ kN) (hb : b ≠ kN) : SafeD (dRename D a b).1 (n + 1) := by
  unfold dRename
  split
  · exact h.more
  · exact h.open_ fun f h1 h2 => h.with (putL_mem (mem_cut9 h.mem h1 (kPF_ne h2 ha)) hb)

/-- what is true of a disk that lies in memory -/
structure GoodD (D : PD) : Prop where
  rise : RiseN (namesF D.L)
  few : D.L.length ≤ 16
  els : ∀ f ∈ D.L, okName f.nm = true ∧ f.vis.length ≤ 1048576 ∧ f.dur.length ≤ 1048576
theorem DiskIn.good {w : World} {g : Nat} {F : Nat → Prop} {D : PD} {vL : Value} {l : Int} {ms : List MF} (h : DiskIn w g F D vL l ms) : GoodD D :=
  ⟨h.rise, by rw [h.lenL]; exact h.few, fun f hf => by
    rw [h.eqL] at hf
    obtain ⟨m, hm, rfl⟩ := List.mem_map.1 hf
    have := h.els m hm
    exact ⟨this.ok, this.z1, this.z2⟩⟩
theorem HDG.good {G : Nat → Prop} {w : World} {g : Nat} {D : PD} (h : HDG G w g D) : GoodD D := by
  obtain ⟨_, F, ⟨vL, l, ms, h⟩, _⟩ := h
  exact h.good
theorem outl_len (v d : List Int) (p : Int) : (outl v d p).length = v.length ∨ (outl v d p).length = d.length := by
  unfold outl
  split
  · exact .inr rfl
  · split
    · exact .inl rfl
    · left; simp [tornB]
theorem crashL_len : ∀ (L : List PF) (ps : List Int), (crashL L ps).length = L.length
  | [], _ => rfl
  | f :: L, ps => by
    simp only [crashL]
    split <;> simp [crashL_len L]
theorem crashL_names : ∀ (L : List PF) (ps : List Int), (crashL L ps).map Prod.fst = namesF L
  | [], _ => rfl
  | f :: L, ps => by
    simp only [crashL]
    split <;> simp [namesF, crashL_names L]
theorem crashL_els : ∀ (L : List PF) (ps : List Int), (∀ f ∈ L, okName f.nm = true ∧ f.vis.length ≤ 1048576 ∧ f.dur.length ≤ 1048576) → ∀ x ∈ crashL L ps, okName x.1 = true ∧ x.2.length ≤ 1048576
  | [], _, _, x, hx => by simp [crashL] at hx
  | f :: L, ps, h, x, hx => by
    have h0 := h f (by simp)
    have ih := fun ps => crashL_els L ps fun f hf => h f (by simp [hf])
    simp only [crashL] at hx
    split at hx
    · rcases List.mem_cons.1 hx with rfl | hx
      · exact ⟨h0.1, h0.2.2⟩
      · exact ih _ x hx
    · rcases List.mem_cons.1 hx with rfl | hx
      · refine ⟨h0.1, ?_⟩
        rcases outl_len f.vis f.dur (ps.headD 0) with e | e
        · show (outl _ _ _).length ≤ _; omega
        · show (outl _ _ _).length ≤ _; omega
      · exact ih _ x hx
theorem crashL_kept : ∀ (L : List PF) (ps : List Int), kPF ∈ L → (kN, keepL) ∈ crashL L ps
  | [], _, h => by simp at h
  | f :: L, ps, h => by
    rcases List.mem_cons.1 h with rfl | h
    · have e : crashL (kPF :: L) ps = (kN, keepL) :: crashL L ps := by
        simp only [crashL]
        rw [if_pos (by rfl)]
        rfl
      rw [e]
      exact List.mem_cons_self
    · have ih := fun ps => crashL_kept L ps h
      simp only [crashL]
      split
      · exact List.mem_cons_of_mem _ (ih _)
      · exact List.mem_cons_of_mem _ (ih _)
theorem crash_may {D : PD} (h : GoodD D) (ps : List Int) : mayB (dCrash D ps) = true := by
  have hl := crashL_len D.L ps
  have hn := crashL_names D.L ps
  refine mayB_yes (by show (crashL D.L ps).length ≤ 16; rw [hl]; exact h.few) fun i hi => ?_
  have hi' : i < (crashL D.L ps).length := hi
  obtain ⟨x, hx⟩ : ∃ x, (crashL D.L ps)[i]? = some x := ⟨(crashL D.L ps)[i], by simp [hi']⟩
  have hel := crashL_els D.L ps h.els x (List.mem_of_getElem? hx)
  show okAt (crashL D.L ps) i = true
  rw [okAt, hx]
  simp only [hel.1, Bool.true_and, Bool.and_eq_true, decide_eq_true_eq, Bool.or_eq_true]
  refine ⟨hel.2, ?_⟩
  rcases Nat.eq_zero_or_pos i with h0 | h0
  · exact .inl h0
  · right
    obtain ⟨y, hy⟩ : ∃ y, (crashL D.L ps)[i - 1]? = some y := ⟨(crashL D.L ps)[i - 1]'(by omega), by simp [show i - 1 < (crashL D.L ps).length by omega]⟩
    rw [hy]
    refine rise_at h.rise (i := i - 1) (j := i) (by omega) ?_ ?_
    · rw [← hn, List.getElem?_map, hy]; rfl
    · rw [← hn, List.getElem?_map, hx]; rfl
theorem new_names (fs : List (ByteArray × List Int)) : namesF (dNew fs).L = fs.map Prod.fst := by
  show (fs.map mkPF).map PF.nm = _
  rw [List.map_map]
  rfl
theorem crash_read {D : PD} {n : Nat} (h : GoodD D) (hs : SafeD D n) (ps : List Int) : dRead (dNew (dCrash D ps)) kN = (keepL, 0) := by
  have hm := crashL_kept D.L ps hs.mem
  obtain ⟨j, hj⟩ := List.mem_iff_getElem?.1 hm
  have hn : namesF (dNew (dCrash D ps)).L = namesF D.L := by rw [new_names]; exact crashL_names D.L ps
  have hnj : (namesF (dNew (dCrash D ps)).L)[j]? = some kN := by
    rw [new_names, List.getElem?_map]
    show ((crashL D.L ps)[j]?).map Prod.fst = _
    rw [hj]
    rfl
  obtain ⟨h1, h2⟩ := hasN_of (by rw [hn]; exact h.rise) hnj
  rw [dRead, if_neg (by rw [kN_ok]; decide), if_neg (by show ¬ (false = true); decide), if_pos (by show hasN _ _ = true; exact h1)]
  have h3 : (dNew (dCrash D ps)).visAt kN = keepL := by
    rw [PD.visAt, PD.pos, h2]
    show (((crashL D.L ps).map mkPF)[j]?.map PF.vis).getD [] = _
    rw [List.getElem?_map, hj]
    rfl
  rw [h3]
theorem crash_list (D : PD) (ps : List Int) : (dList (dNew (dCrash D ps))).2 = 0 ∧ (dList (dNew (dCrash D ps))).1.length = (dCrash D ps).length := by
  refine ⟨rfl, ?_⟩
  show (namesF (dNew (dCrash D ps)).L).length = _
  rw [new_names, List.length_map]

/-- with the power off -/
theorem off_read {D : PD} (h : D.off = true) : dRead D kN = ([], 9) := by rw [dRead, if_neg (by rw [kN_ok]; decide), if_pos h]
theorem off_list {D : PD} (h : D.off = true) : dList D = ([], 9) := by rw [dList, if_pos h]
theorem off_tick {D : PD} (h : D.off = true) : D.tick.off = true ∧ D.tick.calls = D.calls + 1 := by
  have e : D.tick = { D with calls := D.calls + 1 } := by unfold PD.tick; rw [if_pos h]
  rw [e]
  exact ⟨h, rfl⟩
theorem off_open {D : PD} (h : D.off = true) {k : PF → PD × Int} : dOpen D kN k = (D.tick, 9) := dOpen_off kN_ok (off_tick h).1
theorem off_sync {D : PD} (h : D.off = true) : dSync D kN = (D.tick, 9) := off_open h
theorem off_append {D : PD} (h : D.off = true) (b : List Int) : dAppend D kN b = (D.tick, 9) := by rw [dAppend, if_neg (by rw [kN_ok]; decide), if_pos (off_tick h).1]
theorem off_cut {D : PD} (h : D.off = true) : dCut D kN 0 = (D.tick, 9) := by rw [dCut, if_neg (by decide)]; exact off_open h
theorem off_remove {D : PD} (h : D.off = true) : dRemove D kN = (D.tick, 9) := off_open h
theorem off_rename {D : PD} (h : D.off = true) : dRename D kN bA = (D.tick, 9) := by rw [dRename, if_neg (by decide +kernel)]; exact off_open h

end Go.Proofs.Ytaccmjgnggepjaa
/-
  What the statements on logs ask besides: what texts weigh, which scripts are let go, new disks.
-/
namespace Go.Proofs.Ytaccmjgnggepjaa
open Go.RowKit

theorem quietG_same {P : Program} {f : FuncId} {args : Array Value} {w : World} {n : Nat} {v : Value} (h : Calls P f args (w.drewN n) fun e w' => e = .returned v ∧ w.drewN n = w') :
    Calls P f args (w.drewN n) fun e w'' => e = .returned v ∧ ∃ n', w'' = w.drewN n' :=
  h.mono fun _ _ ⟨he, hw⟩ => ⟨he, n, hw.symm⟩
theorem num10_any (n : Int) (w : World) : Calls Try.prog 24 #[.int .i64 n] w fun e w' => e = .returned (.int .i64 n) ∧ w = w' := by
  go_enter Try.func24, Try.ntmps24
  go_wp2
  go_ret
  exact ⟨rfl, rfl⟩

/-! ### what texts weigh -/
def twGo : List ByteArray → Nat → Nat
  | [], n => n
  | s :: l, n => if n < 1048576 then twGo l (n + s.size) else n
theorem twGo_le : ∀ {l : List ByteArray} {n m : Nat}, twGo l n ≤ m → m < 1048576 → n ≤ m ∧ ∀ s ∈ l, s.size ≤ m
  | [], n, m, h, _ => ⟨h, fun s hs => by simp at hs⟩
  | s :: l, n, m, h, hm => by
    unfold twGo at h
    split at h
    · obtain ⟨h1, h2⟩ := twGo_le h hm
      refine ⟨by omega, fun x hx => ?_⟩
      rcases List.mem_cons.1 hx with rfl | hx
      · omega
      · exact h2 x hx
    · exact ⟨h, fun x hx => by omega⟩
theorem twGo_max {M : Nat} : ∀ {l : List ByteArray} {n : Nat}, (∀ s ∈ l, s.size ≤ M) → n ≤ 1048576 + M → twGo l n ≤ 1048576 + M
  | [], n, _, h => h
  | s :: l, n, hs, h => by
    unfold twGo
    split
    · exact twGo_max (fun x hx => hs x (List.mem_cons_of_mem _ hx)) (by have := hs s (List.mem_cons_self ..); omega)
    · exact h

def sizeL : List ByteArray → Nat
  | [] => 0
  | s :: l => s.size + 16 + sizeL l
theorem sizeL_append (a b : List ByteArray) : sizeL (a ++ b) = sizeL a + sizeL b := by
  induction a with
  | nil => simp [sizeL]
  | cons s l ih => simp only [List.cons_append, sizeL, ih]; omega
theorem sizeL_max : ∀ {l : List ByteArray}, (∀ s ∈ l, s.size ≤ 4096) → sizeL l ≤ l.length * 4112
  | [], _ => by simp [sizeL]
  | s :: l, h => by
    have h1 := sizeL_max fun x hx => h x (List.mem_cons_of_mem _ hx)
    have h2 := h s (List.mem_cons_self ..)
    simp only [sizeL, List.length_cons]
    omega
theorem sizeL_len : ∀ (l : List ByteArray), l.length * 16 ≤ sizeL l
  | [] => by simp [sizeL]
  | s :: l => by
    have := sizeL_len l
    simp only [sizeL, List.length_cons]
    omega

/-! ### which scripts are let go -/
def hvGo : List ActG → Nat → Nat
  | [], n => n
  | a :: l, n => if n < 1048576 then hvGo l (n + a.S.size + twGo a.ls a.nL + a.nK) else n
def LightG (s : ScrG) : Prop := s.nL ≤ 200 ∧ s.nO ≤ 20 ∧ ∀ a ∈ s.L, a.S.size ≤ 40000 ∧ a.nL ≤ 40000 ∧ (∀ x ∈ a.ls, x.size ≤ 40000) ∧ a.nK ≤ 40000
theorem hvGo_le : ∀ {l : List ActG} {n : Nat}, hvGo l n ≤ 40000 → n ≤ 40000 ∧ ∀ a ∈ l, a.S.size ≤ 40000 ∧ a.nL ≤ 40000 ∧ (∀ x ∈ a.ls, x.size ≤ 40000) ∧ a.nK ≤ 40000
  | [], n, h => ⟨h, fun s hs => by simp at hs⟩
  | a :: l, n, h => by
    unfold hvGo at h
    split at h
    · obtain ⟨h1, h2⟩ := hvGo_le h
      obtain ⟨h3, h4⟩ := twGo_le (l := a.ls) (n := a.nL) (m := 40000) (by omega) (by omega)
      refine ⟨by omega, fun x hx => ?_⟩
      rcases List.mem_cons.1 hx with rfl | hx
      · exact ⟨by omega, h3, h4, by omega⟩
      · exact h2 x hx
    · omega
def HeavyG (s : ScrG) (w : World) (e : Ending) (w' : World) : Prop := ∃ b : Bool, e = .returned (.bool b) ∧ Below w.heap.size w w' ∧ (b = false → LightG s)

/-! ### new disks -/
theorem diskG_any (w : World) : Calls Try.prog 7 #[] w fun e w' => ∃ g, e = .returned (.pointer (some ⟨g, 0, none⟩)) ∧ HDG (fun k => k < w.heap.size) w' g (dNew []) ∧ Below w.heap.size w w' := by
  go_enter Try.func7, Try.ntmps7
  go_wp2_with fail
  refine (new_nil _).mono ?_
  rintro e w2 ⟨hb2, g, rfl, hd2⟩
  have HD := Lib.hid hd2
  clear hd2
  go_wp2_with fail
  refine (num10_any _ _).mono ?_
  rintro e w' ⟨rfl, rfl⟩
  go_wp2_with fail
  go_ret
  exact ⟨g, rfl, HD.out, hb2⟩

theorem againG_any {G : Nat → Prop} {D : PD} (g : Nat) (AP : Option Addr) (nP cP : Nat) (ps : List Int) (w : World) (h : HDG G w g D) (hP : ps.length = nP) (hr : Rd w AP (i64s ps)) (hc : nP ≤ cP) (hm : cP ≤ maxLen) (hpr : ∀ x ∈ ps, -9223372036854775808 ≤ x ∧ x ≤ 9223372036854775807) :
    Calls Try.prog 16 #[.pointer (some ⟨g, 0, none⟩), .slice AP nP cP] w fun e w' => ∃ g', e = .returned (.pointer (some ⟨g', 0, none⟩)) ∧ HDG (fun k => k < w.heap.size) w' g' (dNew (dCrash D ps)) ∧ Below w.heap.size w w' := by
  have HH := Lib.hid (hd_crash h AP nP cP ps hP hr hc hm hpr)
  have hmb := crash_may h.good ps
  obtain ⟨fs, hfs⟩ : ∃ fs, dCrash D ps = fs := ⟨_, rfl⟩
  rw [hfs] at hmb HH ⊢
  have HMB := Lib.hid hmb
  have hlen : fs.length ≤ 16 ∧ ∀ f ∈ fs, f.1.size ≤ 32 := by
    simp only [mayB, Bool.and_eq_true, decide_eq_true_eq, List.all_eq_true] at hmb
    refine ⟨hmb.1, fun f hf => ?_⟩
    obtain ⟨i, hi⟩ := List.mem_iff_getElem?.1 hf
    have hil := (List.getElem?_eq_some_iff.1 hi).1
    have h1 := hmb.2 i (by simpa using hil)
    rw [okAt, hi] at h1
    simp only [Bool.and_eq_true] at h1
    exact (okName_size h1.1).2
  have HLEN := Lib.hid hlen
  clear h hmb hlen hfs hP hr hpr
  go_enter Try.func16, Try.ntmps16
  go_wp2_with fail
  refine HH.out.mono ?_
  rintro e w2 ⟨v2, l2, rfl, hm2, ho2, hb2⟩
  obtain ⟨n2, hn2⟩ : ∃ n2, l2.length = n2 := ⟨_, rfl⟩
  have hrow2 := ho2.row
  rw [hn2] at hrow2
  obtain ⟨A2, c2, rfl, hnc2, _, hr2, _⟩ := ownS_slice hrow2
  have h16 : n2 ≤ 16 := by have := HLEN.out.1; rw [← hm2, List.length_map, hn2] at this; exact this
  have hnw := new_is A2 n2 c2 l2 fs w2 hn2 hm2 hr2 (fun f hf => ho2.fin hf) (fun f hf => by
    have := HLEN.out.2 f.pl (by rw [← hm2]; exact List.mem_map.2 ⟨f, hf, rfl⟩)
    have h3 : f.nm.size ≤ 32 := this
    unfold maxLen
    omega) hnc2 (by omega)
  have HNW := Lib.hid hnw
  have z2 := hb2.size
  clear hnw ho2 hrow2 hr2 hm2 hn2
  go_wp2_with fail
  refine HNW.out.mono ?_
  rintro e w3 ⟨hb3, hif⟩
  rw [if_pos HMB.out] at hif
  obtain ⟨g', F, rfl, hd3, hF⟩ := hif
  have HG3 := Lib.hid ((newTo_hd hd3 hF hb3).less (G' := fun k => k < w.heap.size) fun k hk => Nat.lt_of_lt_of_le hk z2)
  have hb13 := hb2.trans (hb3.mono z2)
  clear hd3 hF
  go_wp2_with fail
  refine (num10_any _ _).mono ?_
  rintro e w' ⟨rfl, rfl⟩
  go_wp2_with fail
  go_ret
  exact ⟨g', rfl, HG3.out, hb13⟩

end Go.Proofs.Ytaccmjgnggepjaa
