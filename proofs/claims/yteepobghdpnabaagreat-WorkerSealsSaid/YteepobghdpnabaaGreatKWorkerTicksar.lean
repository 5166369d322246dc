/-
  A script that came in, laid open.
-/
import Derived.Test.YteepobghdpnabaaGreatKWorkerTicksu
import Derived.Test.YteepobghdpnabaaGreatKWorkerTicksaq
namespace Go.Proofs.YteepobghdpnabaaGreat
open Go.RowKit Go.ChangeShapes Go.WideShapes Go.Deep

theorem zcells_waits : Tryz.prog.cellsOf 23 = 1 := by kernel_rfl
theorem zcells_helds : Tryz.prog.cellsOf 24 = 1 := by kernel_rfl
theorem zcells_wait : Tryz.prog.cellsOf 56 = 2 := by kernel_rfl
theorem zcells_held : Tryz.prog.cellsOf 70 = 4 := by kernel_rfl
theorem zcells_wk : Tryz.prog.cellsOf 27 = 9 := by kernel_rfl
theorem zcells_act : Tryz.prog.cellsOf 50 = 26 := by kernel_rfl
theorem zcells_acts : Tryz.prog.cellsOf 28 = 1 := by kernel_rfl
theorem zcells_scr : Tryz.prog.cellsOf 30 = 10 := by kernel_rfl
theorem zcells_tx : Tryz.prog.cellsOf 40 = 4 := by kernel_rfl
theorem zcells_bool : Tryz.prog.cellsOf 4 = 1 := by kernel_rfl
theorem zbytes_wait : Tryz.prog.bytesOf 56 = 32 := by kernel_rfl
theorem zbytes_held : Tryz.prog.bytesOf 70 = 48 := by kernel_rfl
theorem zbytes_act : 1 ≤ Tryz.prog.bytesOf 50 := by decide +kernel
/-- a slice has no more elements than bytes are within reach -/
theorem slice_fit {H : Type} {enc : TypeId × Value → H} {P : Program} {w : World} {base : Nat} {spare : Nat → Bool} {held : Bool} {t e : TypeId} {fuel : Nat} {v : Value} {x : DataW H × List MemPlace} (ht : P.underlying t = some (.slice e)) (hby : 1 ≤ P.bytesOf e)
    (h : DataW.trod enc P w base spare held fuel t [v] = some x) (hw : ∀ n ∈ x.1.weights P t, n ≤ reachBytes) : ∀ (A : Option Addr) (n c : Nat), v = .slice A n c → n ≤ 140737488351232 := by
  intro A n c hv
  rcases open_slice ht h with ⟨h0, _⟩ | ⟨ad, len, cap, m, nn, D, Pl, h0, _, hl, hm, hmm, hz, hi⟩
  · simp only [List.cons.injEq, and_true] at h0
    rw [h0] at hv
    cases hv
    omega
  · simp only [List.cons.injEq, and_true] at h0
    rw [h0] at hv
    cases hv
    have hlm : n ≤ m := by rw [hmm]; split <;> omega
    have := hw ((n + (m - n)) * P.bytesOf e) (by
      rw [hz, DataW.weights, ht]
      refine List.mem_cons.2 (.inl ?_)
      simp)
    unfold reachBytes at this
    have h2 : n * 1 ≤ (n + (m - n)) * P.bytesOf e := Nat.mul_le_mul (by omega) hby
    omega

set_option maxRecDepth 100000 in
set_option maxHeartbeats 1600000 in
theorem open_wait {H : Type} {enc : TypeId × Value → H} {w : World} {base : Nat} {spare : Nat → Bool} {held : Bool} (fuel : Nat) (cs : List Value) (x : DataW H × List MemPlace)
    (ht : DataW.trod enc Tryz.prog w base spare held fuel 56 cs = some x) (hcl : cs.length = 2) (hw0 : ∀ n ∈ x.1.weights Tryz.prog 56, n ≤ reachBytes) :
    ∃ y : WtD × Ad, cs = KW.cells y.1 y.2.v ∧ SlIn w y.2 (KW.len y.1) (KW.bd y.1) ∧ y.1.S.length ≤ 140737488351232 := by
  match cs, hcl with
  | [c0, c1], _ =>
    obtain ⟨zs, n2, _, hag2, hlen2, hzl, hf2⟩ := DataW.trod_struct Tryz.underlying56 ht
    match zs, hzl with
    | [z0, z1], _ =>
      have g0 := hf2 0 _ rfl
      have g1 := hf2 1 _ rfl
      simp [cells_int, cells_ints] at g0 g1
      have hD2 : x.1 = .agg [z0.1, z1.1] := by
        have := congrArg Prod.fst hag2
        simpa using this
      obtain ⟨rd, ed, _, wrd⟩ := DataW.trod_int Tryz.underlying3 g0
      obtain ⟨AD, cD, lD, eD, hD7, mD, rD, sD, zD⟩ := open_nums_fit Tryz.underlying25 Tryz.underlying3 cells_int bytes_intO (by decide) g1 (fun n hn => hw0 n (by
        rw [hD2, DataW.weights, Tryz.underlying56]
        exact DataW.weights_mem_each (j := 1) (t := 25) (d := z1.1) rfl rfl n hn))
      simp at ed
      subst ed eD
      exact ⟨(⟨rd, lD⟩, ⟨AD, lD.length, cD⟩), rfl, ⟨rfl, hD7, mD, rD⟩, zD⟩
set_option maxRecDepth 100000 in
set_option maxHeartbeats 1600000 in
theorem open_held {H : Type} {enc : TypeId × Value → H} {w : World} {base : Nat} {spare : Nat → Bool} {held : Bool} (fuel : Nat) (cs : List Value) (x : DataW H × List MemPlace)
    (ht : DataW.trod enc Tryz.prog w base spare held fuel 70 cs = some x) (hcl : cs.length = 4) (hw0 : ∀ n ∈ x.1.weights Tryz.prog 70, n ≤ reachBytes) :
    ∃ y : HlD × Ad, cs = KH.cells y.1 y.2.v ∧ SlIn w y.2 (KH.len y.1) (KH.bd y.1) ∧ y.1.L.length ≤ 140737488351232 ∧ ∀ t ∈ y.1.L, TxOk t := by
  match cs, hcl with
  | [c0, c1, c2, c3], _ =>
    obtain ⟨zs, n2, _, hag2, hlen2, hzl, hf2⟩ := DataW.trod_struct Tryz.underlying70 ht
    match zs, hzl with
    | [z0, z1], _ =>
      have g0 := hf2 0 _ rfl
      have g1 := hf2 1 _ rfl
      simp [cells_int, mcells_batch] at g0 g1
      have hD2 : x.1 = .agg [z0.1, z1.1] := by
        have := congrArg Prod.fst hag2
        simpa using this
      obtain ⟨rd, ed, _, wrd⟩ := DataW.trod_int Tryz.underlying3 g0
      have w1 : ∀ n ∈ z1.1.weights Tryz.prog 42, n ≤ reachBytes := fun n hn => hw0 n (by
        rw [hD2, DataW.weights, Tryz.underlying70]
        exact DataW.weights_mem_each (j := 1) (t := 42) (d := z1.1) rfl rfl n hn)
      obtain ⟨bs, n4, _, hagb, hlenb, hbl, hfb⟩ := DataW.trod_struct Tryz.underlying42 g1
      match bs, hbl with
      | [b0, b1, b2], _ =>
        have k0 := hfb 0 _ rfl
        have k1 := hfb 1 _ rfl
        have k2 := hfb 2 _ rfl
        simp [cells_int, mcells_txs] at k0 k1 k2
        have hDb : z1.1 = .agg [b0.1, b1.1, b2.1] := by
          have := congrArg Prod.fst hagb
          simpa using this
        have wb2 : ∀ n ∈ b2.1.weights Tryz.prog 22, n ≤ reachBytes := fun n hn => w1 n (by
          rw [hDb, DataW.weights, Tryz.underlying42]
          exact DataW.weights_mem_each (j := 2) (t := 22) (d := b2.1) rfl rfl n hn)
        obtain ⟨rba, eba, _, wrba⟩ := DataW.trod_int Tryz.underlying3 k0
        obtain ⟨rbn, ebn, _, wrbn⟩ := DataW.trod_int Tryz.underlying3 k1
        have zL := txs_fit k2 wb2
        obtain ⟨AL, cL, L, eL, hL, mL, rL, sL⟩ := open_txs k2 wb2
        simp at ed eba ebn
        subst ed eba ebn eL
        exact ⟨(⟨rd, rba, rbn, L⟩, ⟨AL, L.length, cL⟩), rfl, ⟨rfl, hL, mL, rL⟩, zL AL cL L.length rfl, sL⟩
set_option maxRecDepth 100000 in
set_option maxHeartbeats 1600000 in
theorem open_tx {H : Type} {enc : TypeId × Value → H} {w : World} {base : Nat} {spare : Nat → Bool} {held : Bool} {fuel : Nat} {cs : List Value} {x : DataW H × List MemPlace}
    (ht : DataW.trod enc Tryz.prog w base spare held fuel 40 cs = some x) (hcl : cs.length = 4) (hw0 : ∀ n ∈ x.1.weights Tryz.prog 40, n ≤ reachBytes) :
    ∃ t : TxD, cs = t.cells ∧ TxOk t := by
  match cs, hcl with
  | [c0, c1, c2, c3], _ =>
    obtain ⟨ys, n', _, hag, hlen, hyl, hf⟩ := DataW.trod_struct Tryz.underlying40 ht
    match ys, hyl with
    | [y0, y1, y2, y3], _ =>
      have f0 := hf 0 _ rfl
      have f1 := hf 1 _ rfl
      have f2 := hf 2 _ rfl
      have f3 := hf 3 _ rfl
      simp [cells_int, cells_str] at f0 f1 f2 f3
      obtain ⟨r, e0, _, wr⟩ := DataW.trod_int Tryz.underlying3 f0
      obtain ⟨s, e1, _, ws⟩ := DataW.trod_int Tryz.underlying3 f1
      obtain ⟨k, e2, g2, _⟩ := DataW.trod_string Tryz.underlying9 f2
      obtain ⟨q, e3, g3, _⟩ := DataW.trod_string Tryz.underlying9 f3
      have hD : x.1 = .agg [y0.1, y1.1, y2.1, y3.1] := by
        have := congrArg Prod.fst hag
        simpa using this
      have hk : k.data.toList.length ≤ reachBytes := hw0 _ (by
        rw [hD, DataW.weights, Tryz.underlying40]
        refine DataW.weights_mem_each (j := 2) (t := 9) (d := y2.1) rfl rfl _ ?_
        rw [g2]; simp [DataW.weights])
      have hq : q.data.toList.length ≤ reachBytes := hw0 _ (by
        rw [hD, DataW.weights, Tryz.underlying40]
        refine DataW.weights_mem_each (j := 3) (t := 9) (d := y3.1) rfl rfl _ ?_
        rw [g3]; simp [DataW.weights])
      simp at e0 e1 e2 e3
      subst e0 e1 e2 e3
      exact ⟨⟨r, s, k, q⟩, rfl, ⟨wf_i64 wr, wf_i64 ws, hk, hq⟩⟩
theorem txFit {t : TxD} (h : TxOk t) : t.k.size ≤ 140737488351232 ∧ t.v.size ≤ 140737488351232 := h.2.2
set_option maxRecDepth 100000 in
set_option maxHeartbeats 4000000 in
theorem open_wk {H : Type} {enc : TypeId × Value → H} {w : World} {base : Nat} {spare : Nat → Bool} {held : Bool} {fuel : Nat} {cs : List Value} {x : DataW H × List MemPlace}
    (ht : DataW.trod enc Tryz.prog w base spare held fuel 27 cs = some x) (hcl : cs.length = 9) (hw0 : ∀ n ∈ x.1.weights Tryz.prog 27, n ≤ reachBytes) :
    ∃ (P : WkD) (a : WkA), cs = wkC P a ∧ WIn w P a ∧ WkFit P := by
  match cs, hcl with
  | [c0, c1, c2, c3, c4, c5, c6, c7, c8], _ =>
    obtain ⟨zs, n2, _, hag2, hlen2, hzl, hf2⟩ := DataW.trod_struct Tryz.underlying27 ht
    match zs, hzl with
    | [z0, z1, z2, z3, z4, z5, z6, z7, z8], _ =>
      have g0 := hf2 0 _ rfl
      have g1 := hf2 1 _ rfl
      have g2 := hf2 2 _ rfl
      have g3 := hf2 3 _ rfl
      have g4 := hf2 4 _ rfl
      have g5 := hf2 5 _ rfl
      have g6 := hf2 6 _ rfl
      have g7 := hf2 7 _ rfl
      have g8 := hf2 8 _ rfl
      simp [cells_int, cells_ints, mcells_txs, zcells_waits, zcells_helds] at g0 g1 g2 g3 g4 g5 g6 g7 g8
      have hD2 : x.1 = .agg [z0.1, z1.1, z2.1, z3.1, z4.1, z5.1, z6.1, z7.1, z8.1] := by
        have := congrArg Prod.fst hag2
        simpa using this
      have hwm : ∀ (j : Nat) (t : TypeId) (d : DataW H), [z0.1, z1.1, z2.1, z3.1, z4.1, z5.1, z6.1, z7.1, z8.1][j]? = some d → [3, 3, 3, 22, 3, 3, 23, 24, 25][j]? = some t → ∀ n ∈ d.weights Tryz.prog t, n ≤ reachBytes := fun j t d hd ht n hn => hw0 n (by
        rw [hD2, DataW.weights, Tryz.underlying27]
        exact DataW.weights_mem_each (j := j) (t := t) (d := d) ht hd n hn)
      obtain ⟨r0, e0, _, _⟩ := DataW.trod_int Tryz.underlying3 g0
      obtain ⟨r1, e1, _, _⟩ := DataW.trod_int Tryz.underlying3 g1
      obtain ⟨r2, e2, _, _⟩ := DataW.trod_int Tryz.underlying3 g2
      obtain ⟨r4, e4, _, _⟩ := DataW.trod_int Tryz.underlying3 g4
      obtain ⟨r5, e5, _, _⟩ := DataW.trod_int Tryz.underlying3 g5
      have w3 := hwm 3 22 z3.1 rfl rfl
      have zO := txs_fit g3 w3
      obtain ⟨AO, cO, O, eO, hO, mO, rO, sO⟩ := open_txs g3 w3
      have w6 := hwm 6 23 z6.1 rfl rfl
      have zW := slice_fit Tryz.underlying23 (by rw [zbytes_wait]; decide) g6 w6
      obtain ⟨AW, cW, W, eW, hW, mW, rW, sW⟩ := open_rowG (fun y : WtD × Ad => KW.cells y.1 y.2.v) (fun y => SlIn w y.2 (KW.len y.1) (KW.bd y.1) ∧ y.1.S.length ≤ 140737488351232) (sz := 2) (fun _ => rfl) (by decide) Tryz.underlying23 zcells_wait (fun f c y h hl hw => open_wait f c y h hl hw) g6 w6
      have w7 := hwm 7 24 z7.1 rfl rfl
      have zH := slice_fit Tryz.underlying24 (by rw [zbytes_held]; decide) g7 w7
      obtain ⟨AH, cH, H, eH, hH, mH, rH, sH⟩ := open_rowG (fun y : HlD × Ad => KH.cells y.1 y.2.v) (fun y => SlIn w y.2 (KH.len y.1) (KH.bd y.1) ∧ y.1.L.length ≤ 140737488351232 ∧ ∀ t ∈ y.1.L, TxOk t) (sz := 4) (fun _ => rfl) (by decide) Tryz.underlying24 zcells_held (fun f c y h hl hw => open_held f c y h hl hw) g7 w7
      obtain ⟨AR, cR, R, eR, hR, mR, rR, sR, zR⟩ := open_nums_fit Tryz.underlying25 Tryz.underlying3 cells_int bytes_intO (by decide) g8 (hwm 8 25 z8.1 rfl rfl)
      simp at e0 e1 e2 e4 e5
      subst e0 e1 e2 e4 e5 eO eW eH eR
      refine ⟨⟨r0, r1, r2, O, r4, r5, W.map Prod.fst, H.map Prod.fst, R⟩, ⟨⟨AO, O.length, cO⟩, ⟨AW, W.length, cW⟩, ⟨AH, H.length, cH⟩, ⟨AR, R.length, cR⟩, W, H⟩, rfl, ⟨⟨rfl, hO, mO, rO⟩, ⟨⟨rfl, hW, mW, rW⟩, fun x hx => (sW x hx).1⟩, rfl, ⟨⟨rfl, hH, mH, rH⟩, fun x hx => (sH x hx).1⟩, rfl, ⟨rfl, hR, mR, rR⟩⟩, ?_⟩
      refine ⟨zO _ _ _ rfl, fun t h => txFit (sO t h), by rw [List.length_map]; exact zW _ _ _ rfl, by rw [List.length_map]; exact zH _ _ _ rfl, zR, fun x hx => ?_, fun x hx => ?_, fun x hx t h => ?_⟩
      · obtain ⟨y, hy, rfl⟩ := List.mem_map.1 hx
        exact (sW y hy).2
      · obtain ⟨y, hy, rfl⟩ := List.mem_map.1 hx
        exact (sH y hy).2.1
      · obtain ⟨y, hy, rfl⟩ := List.mem_map.1 hx
        exact txFit ((sH y hy).2.2 t h)
set_option maxRecDepth 100000 in
set_option maxHeartbeats 4000000 in
theorem open_act {H : Type} {enc : TypeId × Value → H} {w : World} {base : Nat} {spare : Nat → Bool} {held : Bool} (fuel : Nat) (cs : List Value) (x : DataW H × List MemPlace)
    (ht : DataW.trod enc Tryz.prog w base spare held fuel 50 cs = some x) (hcl : cs.length = 26) (hw0 : ∀ n ∈ x.1.weights Tryz.prog 50, n ≤ reachBytes) :
    ∃ y : ActD, cs = actC y ∧ ActIn w y ∧ y.n ≤ 140737488351232 := by
  match cs, hcl with
  | [c0, c1, c2, c3, c4, c5, c6, c7, c8, c9, c10, c11, c12, c13, c14, c15, c16, c17, c18, c19, c20, c21, c22, c23, c24, c25], _ =>
    obtain ⟨zs, n2, _, hag2, hlen2, hzl, hf2⟩ := DataW.trod_struct Tryz.underlying50 ht
    match zs, hzl with
    | [z0, z1, z2, z3, z4, z5], _ =>
      have g0 := hf2 0 _ rfl
      have g1 := hf2 1 _ rfl
      have g2 := hf2 2 _ rfl
      have g3 := hf2 3 _ rfl
      have g4 := hf2 4 _ rfl
      have g5 := hf2 5 _ rfl
      simp [cells_int, cells_ints, zcells_tx, cells_msg, zcells_bool] at g0 g1 g2 g3 g4 g5
      have hD2 : x.1 = .agg [z0.1, z1.1, z2.1, z3.1, z4.1, z5.1] := by
        have := congrArg Prod.fst hag2
        simpa using this
      have hwm : ∀ (j : Nat) (t : TypeId) (d : DataW H), [z0.1, z1.1, z2.1, z3.1, z4.1, z5.1][j]? = some d → [3, 3, 40, 48, 4, 25][j]? = some t → ∀ n ∈ d.weights Tryz.prog t, n ≤ reachBytes := fun j t d hd ht n hn => hw0 n (by
        rw [hD2, DataW.weights, Tryz.underlying50]
        exact DataW.weights_mem_each (j := j) (t := t) (d := d) ht hd n hn)
      obtain ⟨r0, e0, _, wr0⟩ := DataW.trod_int Tryz.underlying3 g0
      obtain ⟨r1, e1, _, wr1⟩ := DataW.trod_int Tryz.underlying3 g1
      obtain ⟨tx, et, okt⟩ := open_tx g2 rfl (hwm 2 40 z2.1 rfl rfl)
      obtain ⟨m, b, em, hm1, hm2, hm3, _⟩ := open_msg g3 rfl (hwm 3 48 z3.1 rfl rfl)
      obtain ⟨bf, ef, _⟩ := DataW.trod_bool Tryz.underlying4 g4
      obtain ⟨AD, cD, lD, eD, hD7, mD, rD, sD, zD⟩ := open_nums_fit Tryz.underlying25 Tryz.underlying3 cells_int bytes_intO (by decide) g5 (hwm 5 25 z5.1 rfl rfl)
      simp [TxD.cells, msgC] at e0 e1 et em ef
      obtain ⟨rfl, rfl, rfl, rfl⟩ := et
      obtain ⟨rfl, rfl, rfl, rfl, rfl, rfl, rfl, rfl, rfl, rfl, rfl, rfl, rfl, rfl, rfl, rfl, rfl, rfl⟩ := em
      subst e0 e1 ef eD
      exact ⟨⟨r0, r1, tx, m, b, bf, AD, lD.length, cD, lD⟩, rfl, ⟨wf_i64 wr0, wf_i64 wr1, okt, hm1, hm2, hm3, rfl, rD, hD7, mD⟩, zD⟩
set_option maxRecDepth 100000 in
set_option maxHeartbeats 4000000 in
theorem open_scr {H : Type} {enc : TypeId × Value → H} {w : World} {r : Reach} {b0 base : Nat} {spare : Nat → Bool} {held : Bool} {v : Value} {d : DataW H} {ps : List MemPlace}
    (hv : Value.okWide Tryz.prog w r b0 30 v) (h : DataW.Trod enc Tryz.prog w base spare held 30 v d ps) (hw : ∀ n ∈ d.weights Tryz.prog 30, n ≤ reachBytes) :
    ∃ s, v = scrV s ∧ ScrIn w s := by
  obtain ⟨cs, rfl, hsz⟩ := okWide_struct Tryz.underlying30 hv
  obtain ⟨l⟩ := cs
  match l, hsz.trans zcells_scr with
  | [c0, c1, c2, c3, c4, c5, c6, c7, c8, c9], _ =>
    obtain ⟨fuel, hf⟩ := h
    obtain ⟨ys, n', _, hag, hlen, hyl, hfs⟩ := DataW.trod_struct Tryz.underlying30 hf
    match ys, hyl with
    | [y0, y1], _ =>
      have f0 := hfs 0 _ rfl
      have f1 := hfs 1 _ rfl
      simp [Value.cells, zcells_wk, zcells_acts] at f0 f1
      have hD : d = .agg [y0.1, y1.1] := by
        have := congrArg Prod.fst hag
        simpa using this
      obtain ⟨P, a, ew, hin, hfit⟩ := open_wk f0 rfl (fun n hn => hw n (by
        rw [hD, DataW.weights, Tryz.underlying30]
        exact DataW.weights_mem_each (j := 0) (t := 27) (d := y0.1) rfl rfl n hn))
      have w1 : ∀ n ∈ y1.1.weights Tryz.prog 28, n ≤ reachBytes := fun n hn => hw n (by
        rw [hD, DataW.weights, Tryz.underlying30]
        exact DataW.weights_mem_each (j := 1) (t := 28) (d := y1.1) rfl rfl n hn)
      have zL := slice_fit Tryz.underlying28 zbytes_act f1 w1
      obtain ⟨AL, cL, L, eL, hL, mL, rL, sL⟩ := open_rowG actC (fun y => ActIn w y ∧ y.n ≤ 140737488351232) (sz := 26) actC_len (by decide) Tryz.underlying28 zcells_act (fun f c y h hl hw => open_act f c y h hl hw) f1 w1
      simp [wkC] at ew
      obtain ⟨rfl, rfl, rfl, rfl, rfl, rfl, rfl, rfl, rfl⟩ := ew
      subst eL
      exact ⟨⟨P, a, AL, L.length, cL, L⟩, rfl, ⟨hin, hfit, rfl, rL, hL, mL, fun x hx => (sL x hx).1, zL _ _ _ rfl, fun x hx => (sL x hx).2⟩⟩

end Go.Proofs.YteepobghdpnabaaGreat
