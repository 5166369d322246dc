/-
  What the laws on graphs are asked, in memory, and laid open; what is too heavy.
-/
import Derived.Test.YtejkeccoialogaaYMem
import Derived.Test.YtejkeccoialogaaOpenRow
import Derived.Test.YtejkeccoialogaaHWeigh
namespace Go.Proofs.Ytejkeccoialogaa
open Go.RowKit Go.ChangeShapes Go.WideShapes Go.Deep

/-- a row of certificates that came in -/
structure WkY (w : World) (o : Ad) (ms : List (CrtD × CrtA)) : Prop where
  row : SlIn w o ms.length (cellsY ms)
  sub : ∀ x ∈ ms, CIn w x.1 x.2
  num : ∀ x ∈ ms, (I64 x.1.a ∧ I64 x.1.r ∧ I64 x.1.d) ∧ I64s x.1.B ∧ I64s x.1.P ∧ I64s x.1.S
  big : ∀ x ∈ ms, x.1.B.length ≤ 140737488351232 ∧ x.1.P.length ≤ 140737488351232 ∧ x.1.S.length ≤ 140737488351232
  fit : ms.length ≤ 140737488351232
/-- lists that are played -/
def LightY (k : Nat) (ms : List (CrtD × CrtA)) : Prop := ms.length ≤ k ∧ ∀ x ∈ ms, x.1.B.length ≤ 3000 ∧ x.1.P.length ≤ 3000 ∧ x.1.S.length ≤ 3000
theorem WkY.below {w w' : World} {o : Ad} {ms : List (CrtD × CrtA)} (h : WkY w o ms) (hb : Below w.heap.size w w') : WkY w' o ms := ⟨h.row.below hb, fun x hx => (h.sub x hx).below hb, h.num, h.big, h.fit⟩
theorem WkY.gin {w : World} {o : Ad} {ms : List (CrtD × CrtA)} {k : Nat} (h : WkY w o ms) (hl : LightY k ms) (hk : k ≤ 3000) : GIn w o (ms.map Prod.fst) :=
  ⟨ms, ⟨h.row, h.sub, fun x hx => by
    obtain ⟨⟨n1, n2, n3⟩, n4, n5, n6⟩ := h.num x hx
    obtain ⟨l1, l2, l3⟩ := hl.2 x hx
    exact ⟨n1, n2, n3, n4, n5, n6, by omega, by omega, by omega⟩, by have := hl.1; omega⟩, rfl⟩

/-- what is asked -/
structure AskD where
  N : Int
  L : Int
  o : Ad
  ms : List (CrtD × CrtA)
  oc : Ad
  mc : List (CrtD × CrtA)
  oi : Ad
  zs : List Int
  op : Ad
  ps : List (Nat × Nat)
def AskD.l (q : AskD) : List CrtD := q.ms.map Prod.fst
def AskD.lc (q : AskD) : List CrtD := q.mc.map Prod.fst
def fcells (p : Nat × Nat) : List Value := [.float .f64 p.1, .float .f64 p.2]
def askC (q : AskD) : List Value := [.int .i64 q.N, .int .i64 q.L, .slice q.o.A q.o.n q.o.c, .slice q.oc.A q.oc.n q.oc.c, .slice q.oi.A q.oi.n q.oi.c, .slice q.op.A q.op.n q.op.c]
def askV (q : AskD) : Value := .agg #[.int .i64 q.N, .int .i64 q.L, .slice q.o.A q.o.n q.o.c, .slice q.oc.A q.oc.n q.oc.c, .slice q.oi.A q.oi.n q.oi.c, .slice q.op.A q.op.n q.op.c]
structure AskIn (w : World) (q : AskD) : Prop where
  d : WkY w q.o q.ms
  c : WkY w q.oc q.mc
  i : SlIn w q.oi q.zs.length (i64s q.zs)
  p : SlIn w q.op q.ps.length (q.ps.flatMap fcells)
  wN : I64 q.N
  wL : I64 q.L
  wi : I64s q.zs
  fi : q.zs.length ≤ 140737488351232
  fp : q.ps.length ≤ 140737488351232
theorem AskIn.below {w w' : World} {q : AskD} (h : AskIn w q) (hb : Below w.heap.size w w') : AskIn w' q := ⟨h.d.below hb, h.c.below hb, h.i.below hb, h.p.below hb, h.wN, h.wL, h.wi, h.fi, h.fp⟩
structure LightA (q : AskD) : Prop where
  d : LightY 80 q.ms
  c : LightY 40 q.mc
  i : q.zs.length ≤ 40
  p : q.ps.length ≤ 40
theorem ask_cells {w : World} {g : Nat} {q : AskD} (h : Box w g (askC q)) : w.cell? ⟨g, 0, none⟩ = some (.int .i64 q.N) ∧ w.cell? ⟨g, 1, none⟩ = some (.int .i64 q.L) ∧ w.cell? ⟨g, 2, none⟩ = some (.slice q.o.A q.o.n q.o.c) ∧ w.cell? ⟨g, 3, none⟩ = some (.slice q.oc.A q.oc.n q.oc.c) ∧ w.cell? ⟨g, 4, none⟩ = some (.slice q.oi.A q.oi.n q.oi.c) ∧ w.cell? ⟨g, 5, none⟩ = some (.slice q.op.A q.op.n q.op.c) :=
  ⟨(h.2 0 _ rfl).1, (h.2 1 _ rfl).1, (h.2 2 _ rfl).1, (h.2 3 _ rfl).1, (h.2 4 _ rfl).1, (h.2 5 _ rfl).1⟩

/-! ### laid open -/
theorem ycells_cert : Try.prog.cellsOf 37 = 6 := by kernel_rfl
theorem ycells_certs : Try.prog.cellsOf 22 = 1 := by kernel_rfl
theorem ycells_hdr : Try.prog.cellsOf 35 = 4 := by kernel_rfl
theorem ycells_dag : Try.prog.cellsOf 24 = 3 := by kernel_rfl
theorem ycells_ask : Try.prog.cellsOf 28 = 6 := by kernel_rfl
theorem ycells_pair : Try.prog.cellsOf 145 = 2 := by kernel_rfl
theorem ycells_pairs : Try.prog.cellsOf 26 = 1 := by kernel_rfl
theorem ycells_float : Try.prog.cellsOf 118 = 1 := by kernel_rfl
theorem ybytes_cert : 1 ≤ Try.prog.bytesOf 37 := by decide +kernel
theorem ybytes_pair : 1 ≤ Try.prog.bytesOf 145 := by decide +kernel
theorem ybytes_int : Try.prog.bytesOf 3 = 8 := by kernel_rfl
theorem trod_floatY {H : Type} {enc : TypeId × Value → H} {P : Program} {w : World} {base : Nat} {spare : Nat → Bool} {held : Bool} {t : TypeId} {k : FloatKind} {fuel : Nat} {cs : List Value} {x : DataW H × List MemPlace} (ht : P.underlying t = some (.float k)) (h : DataW.trod enc P w base spare held fuel t cs = some x) :
    ∃ n, cs = [.float k n] := by
  cases fuel with
  | zero => simp [DataW.trod] at h
  | succ n =>
    unfold DataW.trod at h
    rw [ht] at h
    split at h <;> simp_all
/-- a slice has no more elements than bytes are within reach -/
theorem slice_fitY {H : Type} {enc : TypeId × Value → H} {P : Program} {w : World} {base : Nat} {spare : Nat → Bool} {held : Bool} {t e : TypeId} {fuel : Nat} {v : Value} {x : DataW H × List MemPlace} (ht : P.underlying t = some (.slice e)) (hby : 1 ≤ P.bytesOf e)
    (h : DataW.trod enc P w base spare held fuel t [v] = some x) (hw : ∀ n ∈ x.1.weights P t, n ≤ reachBytes) : ∀ (A : Option Addr) (n c : Nat), v = .slice A n c → n ≤ 140737488351232 := by
  intro A n c hv
  rcases open_slice ht h with ⟨h0, _⟩ | ⟨ad, len, cap, m, nn, D, Pl, h0, _, hl, hm, hmm, hz, hi⟩
  · simp only [List.cons.injEq, and_true] at h0
    rw [h0] at hv
    cases hv
    omega
  · simp only [List.cons.injEq, and_true] at h0
    rw [h0] at hv
    cases hv
    have hlm : n ≤ m := by rw [hmm]; split <;> omega
    have := hw ((n + (m - n)) * P.bytesOf e) (by
      rw [hz, DataW.weights, ht]
      refine List.mem_cons.2 (.inl ?_)
      simp)
    unfold reachBytes at this
    have h2 : n * 1 ≤ (n + (m - n)) * P.bytesOf e := Nat.mul_le_mul (by omega) hby
    omega
def OkC (w : World) (x : CrtD × CrtA) : Prop := CIn w x.1 x.2 ∧ ((I64 x.1.a ∧ I64 x.1.r ∧ I64 x.1.d) ∧ I64s x.1.B ∧ I64s x.1.P ∧ I64s x.1.S) ∧ x.1.B.length ≤ 140737488351232 ∧ x.1.P.length ≤ 140737488351232 ∧ x.1.S.length ≤ 140737488351232
set_option maxRecDepth 100000 in
set_option maxHeartbeats 4000000 in
theorem open_crt {H : Type} {enc : TypeId × Value → H} {w : World} {base : Nat} {spare : Nat → Bool} {held : Bool} (fuel : Nat) (cs : List Value) (x : DataW H × List MemPlace)
    (f0 : DataW.trod enc Try.prog w base spare held fuel 37 cs = some x) (hcl : cs.length = 6) (hw0 : ∀ n ∈ x.1.weights Try.prog 37, n ≤ reachBytes) :
    ∃ y : CrtD × CrtA, cs = crtC y.1 y.2 ∧ OkC w y := by
  match cs, hcl with
  | [c0, c1, c2, c3, c4, c5], _ =>
    obtain ⟨zs, n2, _, hag2, hlen2, hzl, hf2⟩ := DataW.trod_struct Try.underlying37 f0
    match zs, hzl with
    | [z0, z1, z2], _ =>
      have g0 := hf2 0 _ rfl
      have g1 := hf2 1 _ rfl
      have g2 := hf2 2 _ rfl
      simp [ycells_hdr, cells_int, cells_ints] at g0 g1 g2
      have hD2 : x.1 = .agg [z0.1, z1.1, z2.1] := by
        have := congrArg Prod.fst hag2
        simpa using this
      have hw2 : ∀ n ∈ z2.1.weights Try.prog 25, n ≤ reachBytes := fun n hn => hw0 n (by
        rw [hD2, DataW.weights, Try.underlying37]
        exact DataW.weights_mem_each (j := 2) (t := 25) (d := z2.1) rfl rfl n hn)
      have hw3 : ∀ n ∈ z0.1.weights Try.prog 35, n ≤ reachBytes := fun n hn => hw0 n (by
        rw [hD2, DataW.weights, Try.underlying37]
        exact DataW.weights_mem_each (j := 0) (t := 35) (d := z0.1) rfl rfl n hn)
      obtain ⟨rd, ed, _, wrd⟩ := DataW.trod_int Try.underlying3 g1
      obtain ⟨AS, cS, S, eS, hS, mS, rS, sS, zS⟩ := open_nums_fit Try.underlying25 Try.underlying3 cells_int ybytes_int (by decide) g2 hw2
      obtain ⟨us, n3, _, hag3, hlen3, hul, hf3⟩ := DataW.trod_struct Try.underlying35 g0
      match us, hul with
      | [u0, u1, u2, u3], _ =>
        have k0 := hf3 0 _ rfl
        have k1 := hf3 1 _ rfl
        have k2 := hf3 2 _ rfl
        have k3 := hf3 3 _ rfl
        simp [cells_int, cells_ints] at k0 k1 k2 k3
        have hD3 : z0.1 = .agg [u0.1, u1.1, u2.1, u3.1] := by
          have := congrArg Prod.fst hag3
          simpa using this
        have hw4 : ∀ n ∈ u2.1.weights Try.prog 25, n ≤ reachBytes := fun n hn => hw3 n (by
          rw [hD3, DataW.weights, Try.underlying35]
          exact DataW.weights_mem_each (j := 2) (t := 25) (d := u2.1) rfl rfl n hn)
        have hw5 : ∀ n ∈ u3.1.weights Try.prog 25, n ≤ reachBytes := fun n hn => hw3 n (by
          rw [hD3, DataW.weights, Try.underlying35]
          exact DataW.weights_mem_each (j := 3) (t := 25) (d := u3.1) rfl rfl n hn)
        obtain ⟨ra, ea, _, wra⟩ := DataW.trod_int Try.underlying3 k0
        obtain ⟨rr, er, _, wrr⟩ := DataW.trod_int Try.underlying3 k1
        obtain ⟨AB, cB, B, eB, hB, mB, rB, sB, zB⟩ := open_nums_fit Try.underlying25 Try.underlying3 cells_int ybytes_int (by decide) k2 hw4
        obtain ⟨AP, cP, P, eP, hP, mP, rP, sP, zP⟩ := open_nums_fit Try.underlying25 Try.underlying3 cells_int ybytes_int (by decide) k3 hw5
        simp at ed ea er
        subst ed ea er eS eB eP
        exact ⟨(⟨ra, rr, B, P, rd, S⟩, ⟨⟨AB, B.length, cB⟩, ⟨AP, P.length, cP⟩, ⟨AS, S.length, cS⟩⟩), rfl, ⟨⟨rfl, hB, mB, rB⟩, ⟨rfl, hP, mP, rP⟩, ⟨rfl, hS, mS, rS⟩⟩,
          ⟨⟨wf_i64 wra, wf_i64 wrr, wf_i64 wrd⟩, fun x hx => wf_i64 (sB x hx), fun x hx => wf_i64 (sP x hx), fun x hx => wf_i64 (sS x hx)⟩, zB, zP, zS⟩
theorem open_pairY {H : Type} {enc : TypeId × Value → H} {w : World} {base : Nat} {spare : Nat → Bool} {held : Bool} (fuel : Nat) (cs : List Value) (z : DataW H × List MemPlace)
    (h : DataW.trod enc Try.prog w base spare held fuel 145 cs = some z) (hcl : cs.length = 2) : ∃ y : Nat × Nat, cs = fcells y ∧ True := by
  match cs, hcl with
  | [c, d], _ =>
    obtain ⟨xs, m, _, _, _, hl, g⟩ := DataW.trod_array Try.underlying145 h
    match xs, hl with
    | [x0, x1], _ =>
      have g0 := g 0 (by omega)
      have g1 := g 1 (by omega)
      simp [ycells_float] at g0 g1
      obtain ⟨p, e0⟩ := trod_floatY Try.underlying118 g0
      obtain ⟨q, e1⟩ := trod_floatY Try.underlying118 g1
      simp at e0 e1
      exact ⟨(p, q), by rw [e0, e1]; rfl, trivial⟩
theorem row_wk {w : World} {A : Option Addr} {c : Nat} {M : List (CrtD × CrtA)} (h1 : M.length ≤ c) (h2 : c ≤ maxLen) (h3 : Rd w A (M.flatMap fun y => crtC y.1 y.2)) (h4 : ∀ y ∈ M, OkC w y) (h5 : M.length ≤ 140737488351232) : WkY w ⟨A, M.length, c⟩ M :=
  ⟨⟨rfl, h1, h2, h3⟩, fun x hx => (h4 x hx).1, fun x hx => (h4 x hx).2.1, fun x hx => (h4 x hx).2.2, h5⟩
set_option maxRecDepth 100000 in
set_option maxHeartbeats 4000000 in
theorem open_ask {H : Type} {enc : TypeId × Value → H} {w : World} {r : Reach} {b0 base : Nat} {spare : Nat → Bool} {held : Bool} {v : Value} {d : DataW H} {ps : List MemPlace}
    (hv : Value.okWide Try.prog w r b0 28 v) (h : DataW.Trod enc Try.prog w base spare held 28 v d ps) (hw : ∀ n ∈ d.weights Try.prog 28, n ≤ reachBytes) :
    ∃ q, v = askV q ∧ AskIn w q := by
  obtain ⟨cs, rfl, hsz⟩ := okWide_struct Try.underlying28 hv
  obtain ⟨l⟩ := cs
  match l, hsz.trans ycells_ask with
  | [c0, c1, c2, c3, c4, c5], _ =>
    obtain ⟨fuel, hf⟩ := h
    obtain ⟨ys, n', _, hag, hlen, hyl, hfs⟩ := DataW.trod_struct Try.underlying28 hf
    match ys, hyl with
    | [y0, y1, y2, y3], _ =>
      have f0 := hfs 0 _ rfl
      have f1 := hfs 1 _ rfl
      have f2 := hfs 2 _ rfl
      have f3 := hfs 3 _ rfl
      simp [Value.cells, ycells_dag, ycells_certs, cells_ints, ycells_pairs] at f0 f1 f2 f3
      have hD : d = .agg [y0.1, y1.1, y2.1, y3.1] := by
        have := congrArg Prod.fst hag
        simpa using this
      have hwm : ∀ (j : Nat) (t : TypeId) (e : DataW H), [y0.1, y1.1, y2.1, y3.1][j]? = some e → [24, 22, 25, 26][j]? = some t → ∀ n ∈ e.weights Try.prog t, n ≤ reachBytes := fun j t e he ht n hn => hw n (by
        rw [hD, DataW.weights, Try.underlying28]
        exact DataW.weights_mem_each (j := j) (t := t) (d := e) ht he n hn)
      have w1 := hwm 1 22 y1.1 rfl rfl
      have zC := slice_fitY Try.underlying22 ybytes_cert f1 w1
      obtain ⟨AC, cC, MC, eC, hC, mC, rC, sC⟩ := open_rowG (fun y : CrtD × CrtA => crtC y.1 y.2) (OkC w) (sz := 6) (fun _ => rfl) (by decide) Try.underlying22 ycells_cert (fun f c y h hl hw => open_crt f c y h hl hw) f1 w1
      obtain ⟨AI, cI, I, eI, hI, mI, rI, sI, zI⟩ := open_nums_fit Try.underlying25 Try.underlying3 cells_int ybytes_int (by decide) f2 (hwm 2 25 y2.1 rfl rfl)
      have w3 := hwm 3 26 y3.1 rfl rfl
      have zP := slice_fitY Try.underlying26 ybytes_pair f3 w3
      obtain ⟨AP, cP, MP, eP, hP, mP, rP, sP⟩ := open_rowG fcells (fun _ => True) (sz := 2) (fun _ => rfl) (by decide) Try.underlying26 ycells_pair (fun f c y h hl _ => open_pairY f c y h hl) f3 w3
      obtain ⟨zs, n2, _, hag2, hlen2, hzl, hf2⟩ := DataW.trod_struct Try.underlying24 f0
      match zs, hzl with
      | [z0, z1, z2], _ =>
        have g0 := hf2 0 _ rfl
        have g1 := hf2 1 _ rfl
        have g2 := hf2 2 _ rfl
        simp [cells_int, ycells_certs] at g0 g1 g2
        have hD2 : y0.1 = .agg [z0.1, z1.1, z2.1] := by
          have := congrArg Prod.fst hag2
          simpa using this
        obtain ⟨rN, eN, _, wrN⟩ := DataW.trod_int Try.underlying3 g0
        obtain ⟨rL, eL, _, wrL⟩ := DataW.trod_int Try.underlying3 g1
        have w0 : ∀ n ∈ z2.1.weights Try.prog 22, n ≤ reachBytes := fun n hn => hwm 0 24 y0.1 rfl rfl n (by
          rw [hD2, DataW.weights, Try.underlying24]
          exact DataW.weights_mem_each (j := 2) (t := 22) (d := z2.1) rfl rfl n hn)
        have zD := slice_fitY Try.underlying22 ybytes_cert g2 w0
        obtain ⟨AD, cD, MD, eD, hDD, mD, rD, sD⟩ := open_rowG (fun y : CrtD × CrtA => crtC y.1 y.2) (OkC w) (sz := 6) (fun _ => rfl) (by decide) Try.underlying22 ycells_cert (fun f c y h hl hw => open_crt f c y h hl hw) g2 w0
        simp at eN eL
        subst eN eL eC eI eP eD
        exact ⟨⟨rN, rL, ⟨AD, MD.length, cD⟩, MD, ⟨AC, MC.length, cC⟩, MC, ⟨AI, I.length, cI⟩, I, ⟨AP, MP.length, cP⟩, MP⟩, rfl,
          ⟨row_wk hDD mD rD sD (zD _ _ _ rfl), row_wk hC mC rC sC (zC _ _ _ rfl), ⟨rfl, hI, mI, rI⟩, ⟨rfl, hP, mP, rP⟩, wf_i64 wrN, wf_i64 wrL, fun x hx => wf_i64 (sI x hx), zI, zP _ _ _ rfl⟩⟩

end Go.Proofs.Ytejkeccoialogaa
