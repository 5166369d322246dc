/-
  What the laws on paths are asked, in memory, and laid open; what is too heavy; the waking call.
-/
import Derived.Test.YtfldfillcmamcaaYHeavy
import Derived.Test.YtfldfillcmamcaaQApi
namespace Go.Proofs.Ytfldfillcmamcaa
open Go.RowKit Go.ChangeShapes Go.WideShapes Go.Deep

/-- what is asked -/
structure AskQ where
  N : Int
  L : Int
  o : Ad
  ms : List (CrtD × CrtA)
  oi : Ad
  zs : List Int
  oj : Ad
  ws : List Int
def AskQ.l (q : AskQ) : List CrtD := q.ms.map Prod.fst
def askQC (q : AskQ) : List Value := [.int .i64 q.N, .int .i64 q.L, .slice q.o.A q.o.n q.o.c, .slice q.oi.A q.oi.n q.oi.c, .slice q.oj.A q.oj.n q.oj.c]
def askQV (q : AskQ) : Value := .agg #[.int .i64 q.N, .int .i64 q.L, .slice q.o.A q.o.n q.o.c, .slice q.oi.A q.oi.n q.oi.c, .slice q.oj.A q.oj.n q.oj.c]
structure AskQIn (w : World) (q : AskQ) : Prop where
  d : WkY w q.o q.ms
  i : SlIn w q.oi q.zs.length (i64s q.zs)
  j : SlIn w q.oj q.ws.length (i64s q.ws)
  wN : I64 q.N
  wL : I64 q.L
  wi : I64s q.zs
  wj : I64s q.ws
  fi : q.zs.length ≤ 140737488351232
  fj : q.ws.length ≤ 140737488351232
theorem AskQIn.below {w w' : World} {q : AskQ} (h : AskQIn w q) (hb : Below w.heap.size w w') : AskQIn w' q := ⟨h.d.below hb, h.i.below hb, h.j.below hb, h.wN, h.wL, h.wi, h.wj, h.fi, h.fj⟩
structure LightQ (q : AskQ) : Prop where
  d : LightY 80 q.ms
  i : q.zs.length ≤ 30
  j : q.ws.length ≤ 30
theorem askQ_cells {w : World} {g : Nat} {q : AskQ} (h : Box w g (askQC q)) : w.cell? ⟨g, 0, none⟩ = some (.int .i64 q.N) ∧ w.cell? ⟨g, 1, none⟩ = some (.int .i64 q.L) ∧ w.cell? ⟨g, 2, none⟩ = some (.slice q.o.A q.o.n q.o.c) ∧ w.cell? ⟨g, 3, none⟩ = some (.slice q.oi.A q.oi.n q.oi.c) ∧ w.cell? ⟨g, 4, none⟩ = some (.slice q.oj.A q.oj.n q.oj.c) :=
  ⟨(h.2 0 _ rfl).1, (h.2 1 _ rfl).1, (h.2 2 _ rfl).1, (h.2 3 _ rfl).1, (h.2 4 _ rfl).1⟩
theorem ycells_askQ : Try.prog.cellsOf 71 = 5 := by kernel_rfl

set_option maxRecDepth 100000 in
set_option maxHeartbeats 4000000 in
theorem open_askQ {H : Type} {enc : TypeId × Value → H} {w : World} {r : Reach} {b0 base : Nat} {spare : Nat → Bool} {held : Bool} {v : Value} {d : DataW H} {ps : List MemPlace}
    (hv : Value.okWide Try.prog w r b0 71 v) (h : DataW.Trod enc Try.prog w base spare held 71 v d ps) (hw : ∀ n ∈ d.weights Try.prog 71, n ≤ reachBytes) :
    ∃ q, v = askQV q ∧ AskQIn w q := by
  obtain ⟨cs, rfl, hsz⟩ := okWide_struct Try.underlying71 hv
  obtain ⟨l⟩ := cs
  match l, hsz.trans ycells_askQ with
  | [c0, c1, c2, c3, c4], _ =>
    obtain ⟨fuel, hf⟩ := h
    obtain ⟨ys, n', _, hag, hlen, hyl, hfs⟩ := DataW.trod_struct Try.underlying71 hf
    match ys, hyl with
    | [y0, y1, y2], _ =>
      have f0 := hfs 0 _ rfl
      have f1 := hfs 1 _ rfl
      have f2 := hfs 2 _ rfl
      simp [Value.cells, ycells_dag, cells_ints] at f0 f1 f2
      have hD : d = .agg [y0.1, y1.1, y2.1] := by
        have := congrArg Prod.fst hag
        simpa using this
      have hwm : ∀ (j : Nat) (t : TypeId) (e : DataW H), [y0.1, y1.1, y2.1][j]? = some e → [24, 25, 25][j]? = some t → ∀ n ∈ e.weights Try.prog t, n ≤ reachBytes := fun j t e he ht n hn => hw n (by
        rw [hD, DataW.weights, Try.underlying71]
        exact DataW.weights_mem_each (j := j) (t := t) (d := e) ht he n hn)
      obtain ⟨AI, cI, I, eI, hI, mI, rI, sI, zI⟩ := open_nums_fit Try.underlying25 Try.underlying3 cells_int ybytes_int (by decide) f1 (hwm 1 25 y1.1 rfl rfl)
      obtain ⟨AJ, cJ, J, eJ, hJ, mJ, rJ, sJ, zJ⟩ := open_nums_fit Try.underlying25 Try.underlying3 cells_int ybytes_int (by decide) f2 (hwm 2 25 y2.1 rfl rfl)
      obtain ⟨zs, n2, _, hag2, hlen2, hzl, hf2⟩ := DataW.trod_struct Try.underlying24 f0
      match zs, hzl with
      | [z0, z1, z2], _ =>
        have g0 := hf2 0 _ rfl
        have g1 := hf2 1 _ rfl
        have g2 := hf2 2 _ rfl
        simp [cells_int, ycells_certs] at g0 g1 g2
        have hD2 : y0.1 = .agg [z0.1, z1.1, z2.1] := by
          have := congrArg Prod.fst hag2
          simpa using this
        obtain ⟨rN, eN, _, wrN⟩ := DataW.trod_int Try.underlying3 g0
        obtain ⟨rL, eL, _, wrL⟩ := DataW.trod_int Try.underlying3 g1
        have w0 : ∀ n ∈ z2.1.weights Try.prog 22, n ≤ reachBytes := fun n hn => hwm 0 24 y0.1 rfl rfl n (by
          rw [hD2, DataW.weights, Try.underlying24]
          exact DataW.weights_mem_each (j := 2) (t := 22) (d := z2.1) rfl rfl n hn)
        have zD := slice_fitY Try.underlying22 ybytes_cert g2 w0
        obtain ⟨AD, cD, MD, eD, hDD, mD, rD, sD⟩ := open_rowG (fun y : CrtD × CrtA => crtC y.1 y.2) (OkC w) (sz := 6) (fun _ => rfl) (by decide) Try.underlying22 ycells_cert (fun f c y h hl hw => open_crt f c y h hl hw) g2 w0
        simp at eN eL
        subst eN eL eI eJ eD
        exact ⟨⟨rN, rL, ⟨AD, MD.length, cD⟩, MD, ⟨AI, I.length, cI⟩, I, ⟨AJ, J.length, cJ⟩, J⟩, rfl,
          ⟨row_wk hDD mD rD sD (zD _ _ _ rfl), ⟨rfl, hI, mI, rI⟩, ⟨rfl, hJ, mJ, rJ⟩, wf_i64 wrN, wf_i64 wrL, fun x hx => wf_i64 (sI x hx), fun x hx => wf_i64 (sJ x hx), zI, zJ⟩⟩

theorem numQ_any (n : Int) (w : World) : Calls Try.prog 44 #[.int .i64 n] w fun e w' => e = .returned (.int .i64 n) ∧ w = w' := by
  go_enter Try.func44, Try.ntmps44
  go_wp2
  go_ret
  exact ⟨rfl, rfl⟩
set_option maxRecDepth 100000 in
set_option maxHeartbeats 8000000 in
theorem heavyQ_is (q : AskQ) (w : World) (h : AskQIn w q) : Calls Try.prog 41 #[askQV q] w (HeavyTo (LightQ q) w) := by
  obtain ⟨w1, hw1⟩ : ∃ w1, w1 = w.alloc (.cells (askQC q).toArray 71) := ⟨_, rfl⟩
  obtain ⟨hb1, hsz, hx0⟩ := boxes1 w _ _ hw1
  have HW : Hid (w.alloc (.cells #[.int .i64 q.N, .int .i64 q.L, .slice q.o.A q.o.n q.o.c, .slice q.oi.A q.oi.n q.oi.c, .slice q.oj.A q.oj.n q.oj.c] 71) = w1) := hw1.symm
  have HB := Lib.hid hb1
  have HH := Lib.hid (heavyD_is q.N q.L q.o q.ms w1 (h.d.below hb1))
  have HX := Lib.hid hx0
  have HL : Hid (q.zs.length = q.oi.n ∧ q.ws.length = q.oj.n) := ⟨h.i.len, h.j.len⟩
  have HF : Hid (∀ wX, Below w1.heap.size w1 wX → wX.cell? ⟨w.heap.size, 3, none⟩ = some (.slice q.oi.A q.oi.n q.oi.c) ∧ wX.cell? ⟨w.heap.size, 4, none⟩ = some (.slice q.oj.A q.oj.n q.oj.c)) := fun wX hb => (askQ_cells (HX.out.below hb HX.out.1)).2.2.2
  obtain ⟨d0, d1, d2, d3, d4⟩ := askQ_cells hx0
  have hyes : ∀ wX, Below w.heap.size w wX → HeavyTo (LightQ q) w (.returned (.bool true)) wX := fun wX hb => ⟨true, rfl, (fun h => by cases h), hb⟩
  have HY := Lib.hid hyes
  clear hw1 hb1 hsz hx0 h hyes
  unfold dagV at HH
  unfold askQV
  go_enter Try.func41, Try.ntmps41
  go_upto_region 1 with fail
  rw [HW.out]
  have hls := HL.out
  by_cases h2 : 30 < q.oi.n
  all_goals by_cases h3 : 30 < q.oj.n
  all_goals
    first | (have i2 : (30 : Int) < (q.oi.n : Int) := by omega) | (have i2 : ¬ ((30 : Int) < (q.oi.n : Int)) := by omega)
    first | (have i3 : (30 : Int) < (q.oj.n : Int) := by omega) | (have i3 : ¬ ((30 : Int) < (q.oj.n : Int)) := by omega)
    go_wp2_with (go_at_call 51; refine HH.out.mono ?_; rintro e w2 ⟨b, rfl, hz, hb2⟩; obtain ⟨e3, e4⟩ := HF.out w2 hb2; cases b)
    all_goals try go_wp2_with fail
    all_goals go_ret
    all_goals first
      | exact HY.out _ (HB.out.trans (hb2.mono HB.out.size))
      | (refine ⟨_, rfl, fun h => ?_, HB.out.trans (hb2.mono HB.out.size)⟩
         simp at h
         first | (exfalso; omega) | exact ⟨hz (by simp), by omega, by omega⟩)

/-! ### the waking call -/
def wakeQ : CrtD := ⟨1, 1, [], [], 3, [1]⟩
theorem wakeP_may : MayG 1 0 [wakeQ] := ⟨by decide, by decide, by decide, by decide, fun i x hx => by
  match i, hx with
  | 0, hx =>
    simp at hx
    subst hx
    exact ⟨by decide +kernel, by decide, fun y h0 => absurd h0 (Nat.lt_irrefl 0), fun k y hk => absurd hk (Nat.not_lt_zero k)⟩
  | i + 1, hx => simp at hx, fun x hx => by
    simp at hx
    subst hx
    rfl⟩

theorem rd_box {w : World} {g : Nat} {vs : List Value} (h : Box w g vs) : Rd w (some ⟨g, 0, none⟩) vs := fun _ => ⟨g, 0, rfl, h.1, fun i v hv => by rw [Nat.zero_add]; exact (h.2 i v hv).1⟩
theorem wakeQ_fit : CrtFit wakeQ := by
  have h1 : I64 1 := by unfold I64; omega
  have h3 : I64 3 := by unfold I64; omega
  exact ⟨h1, h1, h3, i64s_nil, i64s_nil, fun x hx => by simp [wakeQ] at hx; rw [hx]; exact h1, by simp [wakeQ], by simp [wakeQ], by simp [wakeQ]⟩
theorem wakeQ_at : [wakeQ][cutF (neD 3) [wakeQ]]? = some wakeQ := by decide +kernel
theorem rowQ_one {w : World} {g1 g2 : Nat} (h1 : Box w g1 [.int .i64 1]) (h2 : Box w g2 (crtC wakeQ ⟨noAd, noAd, ⟨some ⟨g1, 0, none⟩, 1, 1⟩⟩)) : GIn w ⟨some ⟨g2, 0, none⟩, 1, 1⟩ [wakeQ] :=
  ⟨[(wakeQ, ⟨noAd, noAd, ⟨some ⟨g1, 0, none⟩, 1, 1⟩⟩)], ⟨⟨rfl, Nat.le_refl _, by simp [maxLen], by rw [cellsY_one]; exact rd_box h2⟩, fun x hx => by
    simp at hx
    subst hx
    exact ⟨slIn_none _, slIn_none _, ⟨rfl, Nat.le_refl _, by simp [maxLen], rd_box h1⟩⟩, fun x hx => by
    simp at hx
    subst hx
    exact wakeQ_fit, by simp⟩, rfl⟩
set_option maxRecDepth 100000 in
set_option maxHeartbeats 4000000 in
theorem wakesQ_any (w : World) : Calls Try.prog 45 #[] w fun e w' => e = .returned (.bool true) ∧ Below w.heap.size w w' := by
  obtain ⟨g, hg⟩ : ∃ g, g = w.heap.size := ⟨_, rfl⟩
  obtain ⟨w3, hw3⟩ : ∃ w3, w3 = ((w.alloc (.cells [Value.int .i64 1].toArray 3)).alloc (.cells (crtC wakeQ ⟨noAd, noAd, ⟨some ⟨g, 0, none⟩, 1, 1⟩⟩).toArray 45)).alloc (.cells (dagC 1 0 ⟨some ⟨g + 1, 0, none⟩, 1, 1⟩).toArray 24) := ⟨_, rfl⟩
  obtain ⟨hb3, hsz, hx0, hx1, hx2⟩ := boxes3 w _ _ _ _ _ _ hw3
  rw [← hg] at hb3 hsz hx0 hx1 hx2
  have HG : Hid (w.heap.size = g) := hg.symm
  have HW : Hid (((w.alloc (.cells #[.int .i64 1] 3)).alloc (.cells #[.int .i64 1, .int .i64 1, .slice none 0 0, .slice none 0 0, .int .i64 3, .slice (some ⟨g, 0, none⟩) 1 1] 45)).alloc (.cells #[.int .i64 1, .int .i64 0, .slice (some ⟨g + 1, 0, none⟩) 1 1] 24) = w3) := hw3.symm
  have HR := Lib.hid (reach_ok 1 0 3 3 ⟨some ⟨g + 1, 0, none⟩, 1, 1⟩ [wakeQ] wakeQ wakeQ w3 (rowQ_one hx0 hx1) wakeP_may wakeQ_at wakeQ_at)
  rw [rchB_iff.2 .refl] at HR
  have d0 : w3.cell? ⟨g + 1 + 1, 0, none⟩ = some (.int .i64 1) := (dag_cells hx2).1
  have d1 : w3.cell? ⟨g + 1 + 1, 1, none⟩ = some (.int .i64 0) := (dag_cells hx2).2.1
  have d2 : w3.cell? ⟨g + 1 + 1, 2, none⟩ = some (.slice (some ⟨g + 1, 0, none⟩) 1 1) := (dag_cells hx2).2.2
  have HB := Lib.hid hb3
  have HS : Hid (g ≤ w3.heap.size) := by show _ ≤ _; omega
  unfold dagV at HR
  clear hg hw3 hb3 hsz hx0 hx1 hx2
  rw [HG.out]
  go_enter Try.func45, Try.ntmps45
  go_upto_region 2 with fail
  rw [HG.out, HW.out]
  go_wp2_with (first
    | (go_at_call 43; refine HR.out.mono ?_; rintro e w4 ⟨rfl, hb4⟩)
    | (go_at_call 44; refine (numQ_any _ _).mono ?_; rintro e w6 ⟨rfl, rfl⟩))
  go_ret
  exact ⟨rfl, HB.out.trans (hb4.mono HS.out)⟩

end Go.Proofs.Ytfldfillcmamcaa
