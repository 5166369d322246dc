/-
 A message that came in, laid open.
-/
import Derived.Deep.Heap
import Derived.Lib.MinMax
import Derived.Test.YteepobghdpnabaaGreatKBae
import Derived.Test.YteepobghdpnabaaGreatKBp
import Derived.Test.YteepobghdpnabaaGreatKBh
import Derived.Test.YteepobghdpnabaaGreatKBl
import Derived.Test.YteepobghdpnabaaGreatKBd
import Derived.Test.YteepobghdpnabaaGreatKBaa
import Derived.Test.YteepobghdpnabaaGreatKBv
import Derived.Test.YteepobghdpnabaaGreatKBab
import Derived.Test.YteepobghdpnabaaGreatKBm
namespace Go.Proofs.YteepobghdpnabaaGreat
open Go.RowKit Go.ChangeShapes Go.WideShapes Go.Deep

theorem cells_certO : Tryz.prog.cellsOf 46 = 6 := by kernel_rfl
theorem cells_hdrO : Tryz.prog.cellsOf 44 = 4 := by kernel_rfl
theorem bytes_intO : Tryz.prog.bytesOf 3 = 8 := by kernel_rfl
theorem nums_fit8 {H : Type} {enc : TypeId × Value → H} {P : Program} {w : World} {base : Nat} {spare : Nat → Bool} {held : Bool} {t e : TypeId} {fuel : Nat} {v : Value} {x : DataW H × List MemPlace} {k : IntKind} (ht : P.underlying t = some (.slice e)) (he : P.underlying e = some (.int k)) (hc : P.cellsOf e = 1) (hby : P.bytesOf e = 8)
  (h : DataW.trod enc P w base spare held fuel t [v] = some x) (hw : ∀ n ∈ x.1.weights P t, n ≤ reachBytes) : ∀ (A : Option Addr) (n c : Nat), v = .slice A n c → n * 8 ≤ 140737488351232 := by
 intro A n c hv
 rcases open_ints ht he hc h with ⟨h0, _⟩ | ⟨a', len', cap', zs, h0, _, hl, hm, hz, hx, _, _⟩
 ·simp only [List.cons.injEq, and_true] at h0
  rw [h0] at hv
  cases hv
  omega
 ·simp only [List.cons.injEq, and_true] at h0
  rw [h0] at hv
  cases hv
  have hlen : n ≤ zs.length := by rw [hz]; split <;> omega
  have := hw ((n + (zs.length - n)) * 8) (by
   rw [hx, DataW.weights, ht]
   simp only [hby]
   refine List.mem_cons.2 (.inl ?_)
   congr 1
   simp [lits]
   omega)
  unfold reachBytes at this
  omega

set_option maxRecDepth 100000 in
set_option maxHeartbeats 16000000 in
theorem open_msg {H : Type} {enc : TypeId × Value → H} {w : World} {base : Nat} {spare : Nat → Bool} {held : Bool} {fuel : Nat} {cs : List Value} {x : DataW H × List MemPlace}
    (ht : DataW.trod enc Tryz.prog w base spare held fuel 48 cs = some x) (hcl : cs.length = 18) (hw0 : ∀ n ∈ x.1.weights Tryz.prog 48, n ≤ reachBytes) :
    ∃ (m : MsgD) (a : MsgA), cs = msgC m a ∧ MsgIn w m a ∧ MsgOk m ∧ MsgFew 140737488351232 a ∧ m.D.length * 8 ≤ 140737488351232 := by
  match cs, hcl with
  | [c0, c1, c2, c3, c4, c5, c6, c7, c8, c9, c10, c11, c12, c13, c14, c15, c16, c17], _ =>
    obtain ⟨zs, n2, _, hag2, hlen2, hzl, hf2⟩ := DataW.trod_struct Tryz.underlying48 ht
    match zs, hzl with
    | [z0, z1, z2, z3, z4, z5, z6, z7], _ =>
      have g0 := hf2 0 _ rfl
      have g1 := hf2 1 _ rfl
      have g2 := hf2 2 _ rfl
      have g3 := hf2 3 _ rfl
      have g4 := hf2 4 _ rfl
      have g5 := hf2 5 _ rfl
      have g6 := hf2 6 _ rfl
      have g7 := hf2 7 _ rfl
      simp [mcells_batch, cells_hdrO, cells_certO, cells_int, cells_ints] at g0 g1 g2 g3 g4 g5 g6 g7
      have hD2 : x.1 = .agg [z0.1, z1.1, z2.1, z3.1, z4.1, z5.1, z6.1, z7.1] := by
        have := congrArg Prod.fst hag2
        simpa using this
      have hwm : ∀ (j : Nat) (t : TypeId) (d : DataW H), [z0.1, z1.1, z2.1, z3.1, z4.1, z5.1, z6.1, z7.1][j]? = some d → [3, 3, 3, 3, 42, 44, 46, 25][j]? = some t → ∀ n ∈ d.weights Tryz.prog t, n ≤ reachBytes := fun j t d hd ht n hn => hw0 n (by
        rw [hD2, DataW.weights, Tryz.underlying48]
        exact DataW.weights_mem_each (j := j) (t := t) (d := d) ht hd n hn)
      obtain ⟨rk, ek, _, wrk⟩ := DataW.trod_int Tryz.underlying3 g0
      obtain ⟨rf, ef, _, wrf⟩ := DataW.trod_int Tryz.underlying3 g1
      obtain ⟨rt, et, _, wrt⟩ := DataW.trod_int Tryz.underlying3 g2
      obtain ⟨rd, ed, _, wrd⟩ := DataW.trod_int Tryz.underlying3 g3
      have wD := hwm 7 25 z7.1 rfl rfl
      have fit8 := nums_fit8 Tryz.underlying25 Tryz.underlying3 cells_int bytes_intO g7 wD
      obtain ⟨AD, cD, lD, eD, hD7, mD, rD, sD, zD⟩ := open_nums_fit Tryz.underlying25 Tryz.underlying3 cells_int bytes_intO (by decide) g7 wD
      have w4 := hwm 4 42 z4.1 rfl rfl
      have w5 := hwm 5 44 z5.1 rfl rfl
      have w6 := hwm 6 46 z6.1 rfl rfl
      obtain ⟨bs, n4, _, hagb, hlenb, hbl, hfb⟩ := DataW.trod_struct Tryz.underlying42 g4
      match bs, hbl with
      | [b0, b1, b2], _ =>
        have k0 := hfb 0 _ rfl
        have k1 := hfb 1 _ rfl
        have k2 := hfb 2 _ rfl
        simp [cells_int, mcells_txs] at k0 k1 k2
        have hDb : z4.1 = .agg [b0.1, b1.1, b2.1] := by
          have := congrArg Prod.fst hagb
          simpa using this
        have wb2 : ∀ n ∈ b2.1.weights Tryz.prog 22, n ≤ reachBytes := fun n hn => w4 n (by
          rw [hDb, DataW.weights, Tryz.underlying42]
          exact DataW.weights_mem_each (j := 2) (t := 22) (d := b2.1) rfl rfl n hn)
        obtain ⟨rba, eba, _, wrba⟩ := DataW.trod_int Tryz.underlying3 k0
        obtain ⟨rbn, ebn, _, wrbn⟩ := DataW.trod_int Tryz.underlying3 k1
        have zL := txs_fit k2 wb2
        obtain ⟨AL, cL, L, eL, hL, mL, rL, sL⟩ := open_txs k2 wb2
        obtain ⟨us, n5, _, hagh, hlenh, hul, hfh⟩ := DataW.trod_struct Tryz.underlying44 g5
        match us, hul with
        | [u0, u1, u2, u3], _ =>
          have k0 := hfh 0 _ rfl
          have k1 := hfh 1 _ rfl
          have k2 := hfh 2 _ rfl
          have k3 := hfh 3 _ rfl
          simp [cells_int, cells_ints] at k0 k1 k2 k3
          have hDh : z5.1 = .agg [u0.1, u1.1, u2.1, u3.1] := by
            have := congrArg Prod.fst hagh
            simpa using this
          have wu2 : ∀ n ∈ u2.1.weights Tryz.prog 25, n ≤ reachBytes := fun n hn => w5 n (by
            rw [hDh, DataW.weights, Tryz.underlying44]
            exact DataW.weights_mem_each (j := 2) (t := 25) (d := u2.1) rfl rfl n hn)
          have wu3 : ∀ n ∈ u3.1.weights Tryz.prog 25, n ≤ reachBytes := fun n hn => w5 n (by
            rw [hDh, DataW.weights, Tryz.underlying44]
            exact DataW.weights_mem_each (j := 3) (t := 25) (d := u3.1) rfl rfl n hn)
          obtain ⟨rha, eha, _, wrha⟩ := DataW.trod_int Tryz.underlying3 k0
          obtain ⟨rhr, ehr, _, wrhr⟩ := DataW.trod_int Tryz.underlying3 k1
          obtain ⟨AhB, chB, lhB, ehB, hhB, mhB, rhB, shB, zhB⟩ := open_nums_fit Tryz.underlying25 Tryz.underlying3 cells_int bytes_intO (by decide) k2 wu2
          obtain ⟨AhP, chP, lhP, ehP, hhP, mhP, rhP, shP, zhP⟩ := open_nums_fit Tryz.underlying25 Tryz.underlying3 cells_int bytes_intO (by decide) k3 wu3
          obtain ⟨vs, n6, _, hagc, hlenc, hvl, hfc⟩ := DataW.trod_struct Tryz.underlying46 g6
          match vs, hvl with
          | [v0, v1, v2], _ =>
            have k0 := hfc 0 _ rfl
            have k1 := hfc 1 _ rfl
            have k2 := hfc 2 _ rfl
            simp [cells_hdrO, cells_int, cells_ints] at k0 k1 k2
            have hDc : z6.1 = .agg [v0.1, v1.1, v2.1] := by
              have := congrArg Prod.fst hagc
              simpa using this
            have wv0 : ∀ n ∈ v0.1.weights Tryz.prog 44, n ≤ reachBytes := fun n hn => w6 n (by
              rw [hDc, DataW.weights, Tryz.underlying46]
              exact DataW.weights_mem_each (j := 0) (t := 44) (d := v0.1) rfl rfl n hn)
            have wv2 : ∀ n ∈ v2.1.weights Tryz.prog 25, n ≤ reachBytes := fun n hn => w6 n (by
              rw [hDc, DataW.weights, Tryz.underlying46]
              exact DataW.weights_mem_each (j := 2) (t := 25) (d := v2.1) rfl rfl n hn)
            obtain ⟨rcd, ecd, _, wrcd⟩ := DataW.trod_int Tryz.underlying3 k1
            obtain ⟨AcS, ccS, lcS, ecS, hcS, mcS, rcS, scS, zcS⟩ := open_nums_fit Tryz.underlying25 Tryz.underlying3 cells_int bytes_intO (by decide) k2 wv2
            obtain ⟨qs, n7, _, hagq, hlenq, hql, hfq⟩ := DataW.trod_struct Tryz.underlying44 k0
            match qs, hql with
            | [q0, q1, q2, q3], _ =>
              have k0 := hfq 0 _ rfl
              have k1 := hfq 1 _ rfl
              have k2 := hfq 2 _ rfl
              have k3 := hfq 3 _ rfl
              simp [cells_int, cells_ints] at k0 k1 k2 k3
              have hDq : v0.1 = .agg [q0.1, q1.1, q2.1, q3.1] := by
                have := congrArg Prod.fst hagq
                simpa using this
              have wq2 : ∀ n ∈ q2.1.weights Tryz.prog 25, n ≤ reachBytes := fun n hn => wv0 n (by
                rw [hDq, DataW.weights, Tryz.underlying44]
                exact DataW.weights_mem_each (j := 2) (t := 25) (d := q2.1) rfl rfl n hn)
              have wq3 : ∀ n ∈ q3.1.weights Tryz.prog 25, n ≤ reachBytes := fun n hn => wv0 n (by
                rw [hDq, DataW.weights, Tryz.underlying44]
                exact DataW.weights_mem_each (j := 3) (t := 25) (d := q3.1) rfl rfl n hn)
              obtain ⟨rca, eca, _, wrca⟩ := DataW.trod_int Tryz.underlying3 k0
              obtain ⟨rcr, ecr, _, wrcr⟩ := DataW.trod_int Tryz.underlying3 k1
              obtain ⟨AcB, ccB, lcB, ecB, hcB, mcB, rcB, scB, zcB⟩ := open_nums_fit Tryz.underlying25 Tryz.underlying3 cells_int bytes_intO (by decide) k2 wq2
              obtain ⟨AcP, ccP, lcP, ecP, hcP, mcP, rcP, scP, zcP⟩ := open_nums_fit Tryz.underlying25 Tryz.underlying3 cells_int bytes_intO (by decide) k3 wq3
              simp at ek ef et ed eba ebn eha ehr eca ecr ecd
              subst ek ef et ed eba ebn eha ehr eca ecr ecd eD eL ehB ehP ecB ecP ecS
              refine ⟨⟨rk, rf, rt, rd, rba, rbn, L, rha, rhr, lhB, lhP, rca, rcr, lcB, lcP, rcd, lcS, lD⟩, ⟨AL, L.length, cL, AhB, lhB.length, chB, AhP, lhP.length, chP, AcB, lcB.length, ccB, AcP, lcP.length, ccP, AcS, lcS.length, ccS, AD, lD.length, cD⟩, rfl,
                    ⟨rfl, rL, hL, mL, rfl, rhB, hhB, mhB, rfl, rhP, hhP, mhP, rfl, rcB, hcB, mcB, rfl, rcP, hcP, mcP, rfl, rcS, hcS, mcS, rfl, rD, hD7, mD⟩,
                     ⟨wf_i64 wrk, wf_i64 wrf, wf_i64 wrt, wf_i64 wrd, wf_i64 wrba, wf_i64 wrbn, sL, wf_i64 wrha, wf_i64 wrhr, fun x hx => wf_i64 (shB x hx), fun x hx => wf_i64 (shP x hx), wf_i64 wrca, wf_i64 wrcr, fun x hx => wf_i64 (scB x hx), fun x hx => wf_i64 (scP x hx), wf_i64 wrcd, fun x hx => wf_i64 (scS x hx), fun x hx => wf_i64 (sD x hx)⟩,
                     ⟨zL AL cL L.length rfl, zhB, zhP, zcB, zcP, zcS, zD⟩, fit8 AD _ cD rfl⟩

end Go.Proofs.YteepobghdpnabaaGreat
namespace Go.Proofs.YteepobghdpnabaaGreat
open Go.RowKit Go.ChangeShapes Go.WideShapes Go.Deep

theorem zcells_waits : Tryz.prog.cellsOf 23 = 1 := by kernel_rfl
theorem zcells_helds : Tryz.prog.cellsOf 24 = 1 := by kernel_rfl
theorem zcells_wait : Tryz.prog.cellsOf 56 = 2 := by kernel_rfl
theorem zcells_held : Tryz.prog.cellsOf 70 = 4 := by kernel_rfl
theorem zcells_wk : Tryz.prog.cellsOf 27 = 9 := by kernel_rfl
theorem zcells_act : Tryz.prog.cellsOf 50 = 26 := by kernel_rfl
theorem zcells_acts : Tryz.prog.cellsOf 28 = 1 := by kernel_rfl
theorem zcells_scr : Tryz.prog.cellsOf 30 = 10 := by kernel_rfl
theorem zcells_tx : Tryz.prog.cellsOf 40 = 4 := by kernel_rfl
theorem zcells_bool : Tryz.prog.cellsOf 4 = 1 := by kernel_rfl
theorem zbytes_wait : Tryz.prog.bytesOf 56 = 32 := by kernel_rfl
theorem zbytes_held : Tryz.prog.bytesOf 70 = 48 := by kernel_rfl
theorem zbytes_act : 1 ≤ Tryz.prog.bytesOf 50 := by decide +kernel
theorem slice_fit {H : Type} {enc : TypeId × Value → H} {P : Program} {w : World} {base : Nat} {spare : Nat → Bool} {held : Bool} {t e : TypeId} {fuel : Nat} {v : Value} {x : DataW H × List MemPlace} (ht : P.underlying t = some (.slice e)) (hby : 1 ≤ P.bytesOf e)
  (h : DataW.trod enc P w base spare held fuel t [v] = some x) (hw : ∀ n ∈ x.1.weights P t, n ≤ reachBytes) : ∀ (A : Option Addr) (n c : Nat), v = .slice A n c → n ≤ 140737488351232 := by
 intro A n c hv
 rcases open_slice ht h with ⟨h0, _⟩ | ⟨ad, len, cap, m, nn, D, Pl, h0, _, hl, hm, hmm, hz, hi⟩
 ·simp only [List.cons.injEq, and_true] at h0
  rw [h0] at hv
  cases hv
  omega
 ·simp only [List.cons.injEq, and_true] at h0
  rw [h0] at hv
  cases hv
  have hlm : n ≤ m := by rw [hmm]; split <;> omega
  have := hw ((n + (m - n)) * P.bytesOf e) (by
   rw [hz, DataW.weights, ht]
   refine List.mem_cons.2 (.inl ?_)
   simp)
  unfold reachBytes at this
  have h2 : n * 1 ≤ (n + (m - n)) * P.bytesOf e := Nat.mul_le_mul (by omega) hby
  omega

set_option maxRecDepth 100000 in
set_option maxHeartbeats 1600000 in
theorem open_wait {H : Type} {enc : TypeId × Value → H} {w : World} {base : Nat} {spare : Nat → Bool} {held : Bool} (fuel : Nat) (cs : List Value) (x : DataW H × List MemPlace)
  (ht : DataW.trod enc Tryz.prog w base spare held fuel 56 cs = some x) (hcl : cs.length = 2) (hw0 : ∀ n ∈ x.1.weights Tryz.prog 56, n ≤ reachBytes) :
  ∃ y : WtD × Ad, cs = KW.cells y.1 y.2.v ∧ SlIn w y.2 (KW.len y.1) (KW.bd y.1) ∧ y.1.S.length ≤ 140737488351232 := by
 match cs, hcl with
 | [c0, c1], _ =>
  obtain ⟨zs, n2, _, hag2, hlen2, hzl, hf2⟩ := DataW.trod_struct Tryz.underlying56 ht
  match zs, hzl with
  | [z0, z1], _ =>
   have g0 := hf2 0 _ rfl
   have g1 := hf2 1 _ rfl
   simp [cells_int, cells_ints] at g0 g1
   have hD2 : x.1 = .agg [z0.1, z1.1] := by
    have := congrArg Prod.fst hag2
    simpa using this
   obtain ⟨rd, ed, _, wrd⟩ := DataW.trod_int Tryz.underlying3 g0
   obtain ⟨AD, cD, lD, eD, hD7, mD, rD, sD, zD⟩ := open_nums_fit Tryz.underlying25 Tryz.underlying3 cells_int bytes_intO (by decide) g1 (fun n hn => hw0 n (by
    rw [hD2, DataW.weights, Tryz.underlying56]
    exact DataW.weights_mem_each (j := 1) (t := 25) (d := z1.1) rfl rfl n hn))
   simp at ed
   subst ed eD
   exact ⟨(⟨rd, lD⟩, ⟨AD, lD.length, cD⟩), rfl, ⟨rfl, hD7, mD, rD⟩, zD⟩
set_option maxRecDepth 100000 in
set_option maxHeartbeats 1600000 in
theorem open_held {H : Type} {enc : TypeId × Value → H} {w : World} {base : Nat} {spare : Nat → Bool} {held : Bool} (fuel : Nat) (cs : List Value) (x : DataW H × List MemPlace)
  (ht : DataW.trod enc Tryz.prog w base spare held fuel 70 cs = some x) (hcl : cs.length = 4) (hw0 : ∀ n ∈ x.1.weights Tryz.prog 70, n ≤ reachBytes) :
  ∃ y : HlD × Ad, cs = KH.cells y.1 y.2.v ∧ SlIn w y.2 (KH.len y.1) (KH.bd y.1) ∧ y.1.L.length ≤ 140737488351232 ∧ ∀ t ∈ y.1.L, TxOk t := by
 match cs, hcl with
 | [c0, c1, c2, c3], _ =>
  obtain ⟨zs, n2, _, hag2, hlen2, hzl, hf2⟩ := DataW.trod_struct Tryz.underlying70 ht
  match zs, hzl with
  | [z0, z1], _ =>
   have g0 := hf2 0 _ rfl
   have g1 := hf2 1 _ rfl
   simp [cells_int, mcells_batch] at g0 g1
   have hD2 : x.1 = .agg [z0.1, z1.1] := by
    have := congrArg Prod.fst hag2
    simpa using this
   obtain ⟨rd, ed, _, wrd⟩ := DataW.trod_int Tryz.underlying3 g0
   have w1 : ∀ n ∈ z1.1.weights Tryz.prog 42, n ≤ reachBytes := fun n hn => hw0 n (by
    rw [hD2, DataW.weights, Tryz.underlying70]
    exact DataW.weights_mem_each (j := 1) (t := 42) (d := z1.1) rfl rfl n hn)
   obtain ⟨bs, n4, _, hagb, hlenb, hbl, hfb⟩ := DataW.trod_struct Tryz.underlying42 g1
   match bs, hbl with
   | [b0, b1, b2], _ =>
    have k0 := hfb 0 _ rfl
    have k1 := hfb 1 _ rfl
    have k2 := hfb 2 _ rfl
    simp [cells_int, mcells_txs] at k0 k1 k2
    have hDb : z1.1 = .agg [b0.1, b1.1, b2.1] := by
     have := congrArg Prod.fst hagb
     simpa using this
    have wb2 : ∀ n ∈ b2.1.weights Tryz.prog 22, n ≤ reachBytes := fun n hn => w1 n (by
     rw [hDb, DataW.weights, Tryz.underlying42]
     exact DataW.weights_mem_each (j := 2) (t := 22) (d := b2.1) rfl rfl n hn)
    obtain ⟨rba, eba, _, wrba⟩ := DataW.trod_int Tryz.underlying3 k0
    obtain ⟨rbn, ebn, _, wrbn⟩ := DataW.trod_int Tryz.underlying3 k1
    have zL := txs_fit k2 wb2
    obtain ⟨AL, cL, L, eL, hL, mL, rL, sL⟩ := open_txs k2 wb2
    simp at ed eba ebn
    subst ed eba ebn eL
    exact ⟨(⟨rd, rba, rbn, L⟩, ⟨AL, L.length, cL⟩), rfl, ⟨rfl, hL, mL, rL⟩, zL AL cL L.length rfl, sL⟩
set_option maxRecDepth 100000 in
set_option maxHeartbeats 1600000 in
theorem open_tx {H : Type} {enc : TypeId × Value → H} {w : World} {base : Nat} {spare : Nat → Bool} {held : Bool} {fuel : Nat} {cs : List Value} {x : DataW H × List MemPlace}
  (ht : DataW.trod enc Tryz.prog w base spare held fuel 40 cs = some x) (hcl : cs.length = 4) (hw0 : ∀ n ∈ x.1.weights Tryz.prog 40, n ≤ reachBytes) :
  ∃ t : TxD, cs = t.cells ∧ TxOk t := by
 match cs, hcl with
 | [c0, c1, c2, c3], _ =>
  obtain ⟨ys, n', _, hag, hlen, hyl, hf⟩ := DataW.trod_struct Tryz.underlying40 ht
  match ys, hyl with
  | [y0, y1, y2, y3], _ =>
   have f0 := hf 0 _ rfl
   have f1 := hf 1 _ rfl
   have f2 := hf 2 _ rfl
   have f3 := hf 3 _ rfl
   simp [cells_int, cells_str] at f0 f1 f2 f3
   obtain ⟨r, e0, _, wr⟩ := DataW.trod_int Tryz.underlying3 f0
   obtain ⟨s, e1, _, ws⟩ := DataW.trod_int Tryz.underlying3 f1
   obtain ⟨k, e2, g2, _⟩ := DataW.trod_string Tryz.underlying9 f2
   obtain ⟨q, e3, g3, _⟩ := DataW.trod_string Tryz.underlying9 f3
   have hD : x.1 = .agg [y0.1, y1.1, y2.1, y3.1] := by
    have := congrArg Prod.fst hag
    simpa using this
   have hk : k.data.toList.length ≤ reachBytes := hw0 _ (by
    rw [hD, DataW.weights, Tryz.underlying40]
    refine DataW.weights_mem_each (j := 2) (t := 9) (d := y2.1) rfl rfl _ ?_
    rw [g2]; simp [DataW.weights])
   have hq : q.data.toList.length ≤ reachBytes := hw0 _ (by
    rw [hD, DataW.weights, Tryz.underlying40]
    refine DataW.weights_mem_each (j := 3) (t := 9) (d := y3.1) rfl rfl _ ?_
    rw [g3]; simp [DataW.weights])
   simp at e0 e1 e2 e3
   subst e0 e1 e2 e3
   exact ⟨⟨r, s, k, q⟩, rfl, ⟨wf_i64 wr, wf_i64 ws, hk, hq⟩⟩
theorem txFit {t : TxD} (h : TxOk t) : t.k.size ≤ 140737488351232 ∧ t.v.size ≤ 140737488351232 := h.2.2
set_option maxRecDepth 100000 in
set_option maxHeartbeats 4000000 in
theorem open_wk {H : Type} {enc : TypeId × Value → H} {w : World} {base : Nat} {spare : Nat → Bool} {held : Bool} {fuel : Nat} {cs : List Value} {x : DataW H × List MemPlace}
  (ht : DataW.trod enc Tryz.prog w base spare held fuel 27 cs = some x) (hcl : cs.length = 9) (hw0 : ∀ n ∈ x.1.weights Tryz.prog 27, n ≤ reachBytes) :
  ∃ (P : WkD) (a : WkA), cs = wkC P a ∧ WIn w P a ∧ WkFit P := by
 match cs, hcl with
 | [c0, c1, c2, c3, c4, c5, c6, c7, c8], _ =>
  obtain ⟨zs, n2, _, hag2, hlen2, hzl, hf2⟩ := DataW.trod_struct Tryz.underlying27 ht
  match zs, hzl with
  | [z0, z1, z2, z3, z4, z5, z6, z7, z8], _ =>
   have g0 := hf2 0 _ rfl
   have g1 := hf2 1 _ rfl
   have g2 := hf2 2 _ rfl
   have g3 := hf2 3 _ rfl
   have g4 := hf2 4 _ rfl
   have g5 := hf2 5 _ rfl
   have g6 := hf2 6 _ rfl
   have g7 := hf2 7 _ rfl
   have g8 := hf2 8 _ rfl
   simp [cells_int, cells_ints, mcells_txs, zcells_waits, zcells_helds] at g0 g1 g2 g3 g4 g5 g6 g7 g8
   have hD2 : x.1 = .agg [z0.1, z1.1, z2.1, z3.1, z4.1, z5.1, z6.1, z7.1, z8.1] := by
    have := congrArg Prod.fst hag2
    simpa using this
   have hwm : ∀ (j : Nat) (t : TypeId) (d : DataW H), [z0.1, z1.1, z2.1, z3.1, z4.1, z5.1, z6.1, z7.1, z8.1][j]? = some d → [3, 3, 3, 22, 3, 3, 23, 24, 25][j]? = some t → ∀ n ∈ d.weights Tryz.prog t, n ≤ reachBytes := fun j t d hd ht n hn => hw0 n (by
    rw [hD2, DataW.weights, Tryz.underlying27]
    exact DataW.weights_mem_each (j := j) (t := t) (d := d) ht hd n hn)
   obtain ⟨r0, e0, _, _⟩ := DataW.trod_int Tryz.underlying3 g0
   obtain ⟨r1, e1, _, _⟩ := DataW.trod_int Tryz.underlying3 g1
   obtain ⟨r2, e2, _, _⟩ := DataW.trod_int Tryz.underlying3 g2
   obtain ⟨r4, e4, _, _⟩ := DataW.trod_int Tryz.underlying3 g4
   obtain ⟨r5, e5, _, _⟩ := DataW.trod_int Tryz.underlying3 g5
   have w3 := hwm 3 22 z3.1 rfl rfl
   have zO := txs_fit g3 w3
   obtain ⟨AO, cO, O, eO, hO, mO, rO, sO⟩ := open_txs g3 w3
   have w6 := hwm 6 23 z6.1 rfl rfl
   have zW := slice_fit Tryz.underlying23 (by rw [zbytes_wait]; decide) g6 w6
   obtain ⟨AW, cW, W, eW, hW, mW, rW, sW⟩ := open_rowG (fun y : WtD × Ad => KW.cells y.1 y.2.v) (fun y => SlIn w y.2 (KW.len y.1) (KW.bd y.1) ∧ y.1.S.length ≤ 140737488351232) (sz := 2) (fun _ => rfl) (by decide) Tryz.underlying23 zcells_wait (fun f c y h hl hw => open_wait f c y h hl hw) g6 w6
   have w7 := hwm 7 24 z7.1 rfl rfl
   have zH := slice_fit Tryz.underlying24 (by rw [zbytes_held]; decide) g7 w7
   obtain ⟨AH, cH, H, eH, hH, mH, rH, sH⟩ := open_rowG (fun y : HlD × Ad => KH.cells y.1 y.2.v) (fun y => SlIn w y.2 (KH.len y.1) (KH.bd y.1) ∧ y.1.L.length ≤ 140737488351232 ∧ ∀ t ∈ y.1.L, TxOk t) (sz := 4) (fun _ => rfl) (by decide) Tryz.underlying24 zcells_held (fun f c y h hl hw => open_held f c y h hl hw) g7 w7
   obtain ⟨AR, cR, R, eR, hR, mR, rR, sR, zR⟩ := open_nums_fit Tryz.underlying25 Tryz.underlying3 cells_int bytes_intO (by decide) g8 (hwm 8 25 z8.1 rfl rfl)
   simp at e0 e1 e2 e4 e5
   subst e0 e1 e2 e4 e5 eO eW eH eR
   refine ⟨⟨r0, r1, r2, O, r4, r5, W.map Prod.fst, H.map Prod.fst, R⟩, ⟨⟨AO, O.length, cO⟩, ⟨AW, W.length, cW⟩, ⟨AH, H.length, cH⟩, ⟨AR, R.length, cR⟩, W, H⟩, rfl, ⟨⟨rfl, hO, mO, rO⟩, ⟨⟨rfl, hW, mW, rW⟩, fun x hx => (sW x hx).1⟩, rfl, ⟨⟨rfl, hH, mH, rH⟩, fun x hx => (sH x hx).1⟩, rfl, ⟨rfl, hR, mR, rR⟩⟩, ?_⟩
   refine ⟨zO _ _ _ rfl, fun t h => txFit (sO t h), by rw [List.length_map]; exact zW _ _ _ rfl, by rw [List.length_map]; exact zH _ _ _ rfl, zR, fun x hx => ?_, fun x hx => ?_, fun x hx t h => ?_⟩
   ·obtain ⟨y, hy, rfl⟩ := List.mem_map.1 hx
    exact (sW y hy).2
   ·obtain ⟨y, hy, rfl⟩ := List.mem_map.1 hx
    exact (sH y hy).2.1
   ·obtain ⟨y, hy, rfl⟩ := List.mem_map.1 hx
    exact txFit ((sH y hy).2.2 t h)
set_option maxRecDepth 100000 in
set_option maxHeartbeats 4000000 in
theorem open_act {H : Type} {enc : TypeId × Value → H} {w : World} {base : Nat} {spare : Nat → Bool} {held : Bool} (fuel : Nat) (cs : List Value) (x : DataW H × List MemPlace)
  (ht : DataW.trod enc Tryz.prog w base spare held fuel 50 cs = some x) (hcl : cs.length = 26) (hw0 : ∀ n ∈ x.1.weights Tryz.prog 50, n ≤ reachBytes) :
  ∃ y : ActD, cs = actC y ∧ ActIn w y ∧ y.n ≤ 140737488351232 := by
 match cs, hcl with
 | [c0, c1, c2, c3, c4, c5, c6, c7, c8, c9, c10, c11, c12, c13, c14, c15, c16, c17, c18, c19, c20, c21, c22, c23, c24, c25], _ =>
  obtain ⟨zs, n2, _, hag2, hlen2, hzl, hf2⟩ := DataW.trod_struct Tryz.underlying50 ht
  match zs, hzl with
  | [z0, z1, z2, z3, z4, z5], _ =>
   have g0 := hf2 0 _ rfl
   have g1 := hf2 1 _ rfl
   have g2 := hf2 2 _ rfl
   have g3 := hf2 3 _ rfl
   have g4 := hf2 4 _ rfl
   have g5 := hf2 5 _ rfl
   simp [cells_int, cells_ints, zcells_tx, cells_msg, zcells_bool] at g0 g1 g2 g3 g4 g5
   have hD2 : x.1 = .agg [z0.1, z1.1, z2.1, z3.1, z4.1, z5.1] := by
    have := congrArg Prod.fst hag2
    simpa using this
   have hwm : ∀ (j : Nat) (t : TypeId) (d : DataW H), [z0.1, z1.1, z2.1, z3.1, z4.1, z5.1][j]? = some d → [3, 3, 40, 48, 4, 25][j]? = some t → ∀ n ∈ d.weights Tryz.prog t, n ≤ reachBytes := fun j t d hd ht n hn => hw0 n (by
    rw [hD2, DataW.weights, Tryz.underlying50]
    exact DataW.weights_mem_each (j := j) (t := t) (d := d) ht hd n hn)
   obtain ⟨r0, e0, _, wr0⟩ := DataW.trod_int Tryz.underlying3 g0
   obtain ⟨r1, e1, _, wr1⟩ := DataW.trod_int Tryz.underlying3 g1
   obtain ⟨tx, et, okt⟩ := open_tx g2 rfl (hwm 2 40 z2.1 rfl rfl)
   obtain ⟨m, b, em, hm1, hm2, hm3, _⟩ := open_msg g3 rfl (hwm 3 48 z3.1 rfl rfl)
   obtain ⟨bf, ef, _⟩ := DataW.trod_bool Tryz.underlying4 g4
   obtain ⟨AD, cD, lD, eD, hD7, mD, rD, sD, zD⟩ := open_nums_fit Tryz.underlying25 Tryz.underlying3 cells_int bytes_intO (by decide) g5 (hwm 5 25 z5.1 rfl rfl)
   simp [TxD.cells, msgC] at e0 e1 et em ef
   obtain ⟨rfl, rfl, rfl, rfl⟩ := et
   obtain ⟨rfl, rfl, rfl, rfl, rfl, rfl, rfl, rfl, rfl, rfl, rfl, rfl, rfl, rfl, rfl, rfl, rfl, rfl⟩ := em
   subst e0 e1 ef eD
   exact ⟨⟨r0, r1, tx, m, b, bf, AD, lD.length, cD, lD⟩, rfl, ⟨wf_i64 wr0, wf_i64 wr1, okt, hm1, hm2, hm3, rfl, rD, hD7, mD⟩, zD⟩
set_option maxRecDepth 100000 in
set_option maxHeartbeats 4000000 in
theorem open_scr {H : Type} {enc : TypeId × Value → H} {w : World} {r : Reach} {b0 base : Nat} {spare : Nat → Bool} {held : Bool} {v : Value} {d : DataW H} {ps : List MemPlace}
  (hv : Value.okWide Tryz.prog w r b0 30 v) (h : DataW.Trod enc Tryz.prog w base spare held 30 v d ps) (hw : ∀ n ∈ d.weights Tryz.prog 30, n ≤ reachBytes) :
  ∃ s, v = scrV s ∧ ScrIn w s := by
 obtain ⟨cs, rfl, hsz⟩ := okWide_struct Tryz.underlying30 hv
 obtain ⟨l⟩ := cs
 match l, hsz.trans zcells_scr with
 | [c0, c1, c2, c3, c4, c5, c6, c7, c8, c9], _ =>
  obtain ⟨fuel, hf⟩ := h
  obtain ⟨ys, n', _, hag, hlen, hyl, hfs⟩ := DataW.trod_struct Tryz.underlying30 hf
  match ys, hyl with
  | [y0, y1], _ =>
   have f0 := hfs 0 _ rfl
   have f1 := hfs 1 _ rfl
   simp [Value.cells, zcells_wk, zcells_acts] at f0 f1
   have hD : d = .agg [y0.1, y1.1] := by
    have := congrArg Prod.fst hag
    simpa using this
   obtain ⟨P, a, ew, hin, hfit⟩ := open_wk f0 rfl (fun n hn => hw n (by
    rw [hD, DataW.weights, Tryz.underlying30]
    exact DataW.weights_mem_each (j := 0) (t := 27) (d := y0.1) rfl rfl n hn))
   have w1 : ∀ n ∈ y1.1.weights Tryz.prog 28, n ≤ reachBytes := fun n hn => hw n (by
    rw [hD, DataW.weights, Tryz.underlying30]
    exact DataW.weights_mem_each (j := 1) (t := 28) (d := y1.1) rfl rfl n hn)
   have zL := slice_fit Tryz.underlying28 zbytes_act f1 w1
   obtain ⟨AL, cL, L, eL, hL, mL, rL, sL⟩ := open_rowG actC (fun y => ActIn w y ∧ y.n ≤ 140737488351232) (sz := 26) actC_len (by decide) Tryz.underlying28 zcells_act (fun f c y h hl hw => open_act f c y h hl hw) f1 w1
   simp [wkC] at ew
   obtain ⟨rfl, rfl, rfl, rfl, rfl, rfl, rfl, rfl, rfl⟩ := ew
   subst eL
   exact ⟨⟨P, a, AL, L.length, cL, L⟩, rfl, ⟨hin, hfit, rfl, rL, hL, mL, fun x hx => (sL x hx).1, zL _ _ _ rfl, fun x hx => (sL x hx).2⟩⟩

end Go.Proofs.YteepobghdpnabaaGreat
namespace Go.Proofs.YteepobghdpnabaaGreat
open Go.RowKit Go.Deep

def outOf (L l : List Int) : List Int := l.filter fun d => decide (d ∉ L)
theorem outOf_take {L l : List Int} {k : Nat} {d : Int} (h : l[k]? = some d) : outOf L (l.take (k + 1)) = outOf L (l.take k) ++ (if d ∈ L then [] else [d]) := by
 unfold outOf
 rw [take_nxt h, List.filter_append]
 congr 1
 by_cases hd : d ∈ L
 ·simp [hd]
 ·simp [hd]
structure DF (B g n cap b mS p q : Nat) (l L ys : List Int) (w wr : World) : Prop where
 own : wr.ownsRow B 3 1 (.slice (some ⟨g, 0, none⟩) n cap) n (i64s ys)
 len : ys.length = n
 low : ys.take p = outOf L (l.take q)
 high : ∀ j, q ≤ j → ys[j]? = l[j]?
 set : SetIs wr b mS L
 lt : p < q
 touch : Touch (fun k => k = g) w wr
section
variable {B g n cap b mS p q : Nat} {l L ys : List Int} {w wr w' : World}
theorem DF.below (h : DF B g n cap b mS p q l L ys w wr) (hb : Below wr.heap.size wr w') : DF B g n cap b mS p q l L ys w w' :=
 ⟨ownS_below h.own hb, h.len, h.low, h.high, h.set.below hb, h.lt, h.touch.then hb⟩
theorem DF.skip {y : Int} (h : DF B g n cap b mS p q l L ys w wr) (hy : l[q]? = some y) (hi : y ∈ L) : DF B g n cap b mS p (q + 1) l L ys w wr :=
 ⟨h.own, h.len, by rw [h.low, outOf_take hy, if_pos hi, List.append_nil], fun j hj => h.high j (by omega), h.set, by have := h.lt; omega, h.touch⟩
theorem DF.keep {y : Int} (h : DF B g n cap b mS p q l L ys w wr) (hq : q < n) (hg : g ≠ b) (hy : l[q]? = some y) (hi : y ∉ L) : DF B g n cap b mS (p + 1) (q + 1) l L (ys.set p y) w (wr.setCell ⟨g, p, none⟩ (.int .i64 y)) := by
 have hlt := h.lt
 obtain ⟨s1, s2⟩ := h.own.stored p (.int .i64 y)
 refine ⟨by rw [show i64s (ys.set p y) = (i64s ys).set p (.int .i64 y) from by simp [i64s, List.map_set]]; exact s1, by rw [List.length_set]; exact h.len, ?_, fun j hj => by rw [List.getElem?_set_ne (by omega)]; exact h.high j (by omega), ?_, by omega, h.touch.set (.inl rfl) _⟩
 ·have e : (ys.set p y).take (p + 1) = ys.take p ++ [y] := by
   apply List.ext_getElem?
   intro j
   simp only [List.getElem?_take, List.getElem?_set, List.getElem?_append, List.length_take, h.len]
   rcases Nat.lt_trichotomy j p with h1 | h1 | h1
   ·rw [if_pos (by omega), if_neg (by omega), if_pos (by omega), if_pos h1]
   ·subst h1
    rw [if_pos (by omega), if_pos rfl, if_pos (by omega), if_neg (by omega), Nat.min_eq_left (by omega), Nat.sub_self]
    rfl
   ·rw [if_neg (by omega), if_neg (by omega), Nat.min_eq_left (by omega)]
    rw [List.getElem?_eq_none (by simp; omega)]
  rw [e, h.low, outOf_take hy, if_neg hi]
 ·exact h.set.block (blk_setCell_other _ _ _ _ (Ne.symm hg))
end

end Go.Proofs.YteepobghdpnabaaGreat
namespace Go.Proofs.YteepobghdpnabaaGreat
open Go.RowKit

structure TR (D x : Nat) (P : WkD) (a : WkA) (l : List Int) (w : World) (o : Ad) (k : Nat) (wr : World) : Prop where
 box : Box wr x (wkC { P with R := outOf l (P.R.take k) } { a with R := o })
 row : wr.ownsRow D 3 1 o.v o.n (i64s (outOf l (P.R.take k)))
 len : (outOf l (P.R.take k)).length = o.n
 keep : WNew D wr P a
 bel : Below D w wr
 oD : ∀ j, o.v.ownBlock = some j → w.heap.size ≤ j
 wsz : w.heap.size ≤ wr.heap.size
section
variable {D x k : Nat} {P : WkD} {a : WkA} {l : List Int} {w wr w1 w2 : World} {o o' : Ad} {y : Int}
theorem TR.below (h : TR D x P a l w o k wr) (hb : Below wr.heap.size wr w1) (hD : D ≤ w.heap.size) : TR D x P a l w o k w1 :=
 ⟨h.box.below hb h.box.1, ownS_below h.row hb, h.len, h.keep.below hb, h.bel.trans (hb.mono (Nat.le_trans hD h.wsz)), h.oD, Nat.le_trans h.wsz hb.size⟩
theorem TR.skip (h : TR D x P a l w o k wr) (hy : P.R[k]? = some y) (hm : y ∈ l) : TR D x P a l w o (k + 1) wr := by
 have e : outOf l (P.R.take (k + 1)) = outOf l (P.R.take k) := by rw [outOf_take hy, if_pos hm, List.append_nil]
 exact ⟨by rw [e]; exact h.box, by rw [e]; exact h.row, by rw [e]; exact h.len, h.keep, h.bel, h.oD, h.wsz⟩
theorem TR.more (h : TR D x P a l w o k wr) (hx : x < w.heap.size) (hy : P.R[k]? = some y) (hm : y ∉ l) (hg : wr.grownBy w2 o.v.ownBlock) (ho : w2.ownsRow D 3 1 o'.v o'.n (i64s (outOf l (P.R.take k)) ++ [.int .i64 y])) (hn : o'.n = o.n + 1)
  (hat : o.v.ownBlock = o'.v.ownBlock ∨ o'.v.ownBlock = some wr.heap.size) (hD : D ≤ x) (hfar : ∀ j, w.heap.size ≤ j → ¬ a.owns j ∧ a.O.v.ownBlock ≠ some j) (hxo : ¬ a.owns x ∧ a.O.v.ownBlock ≠ some x) : TR D x P a l w o' (k + 1) (w2.setCell ⟨x, 8, none⟩ o'.v) := by
 have hT : Touch (fun j => o.v.ownBlock = some j) wr w2 := Touch.grown hg fun j hj => hj
 have Tg : Touch (fun j => j = x) w2 (w2.setCell ⟨x, 8, none⟩ o'.v) := (Touch.refl (fun j => j = x) w2).set (.inl rfl) o'.v
 have e : outOf l (P.R.take (k + 1)) = outOf l (P.R.take k) ++ [y] := by rw [outOf_take hy, if_neg hm]
 have hblk : ∀ j, o'.v.ownBlock = some j → w.heap.size ≤ j := fun j hj => by
  rcases hat with e | e
  ·exact h.oD j (e.trans hj)
  ·rw [e] at hj; cases hj; exact h.wsz
 have hbx := (h.box.touch hT fun hf => by have := h.oD x hf; omega).set (j := 8) (u := o'.v) (show 8 < 9 by decide)
 have hs1 := hT.size
 have hs2 := Tg.size
 have hw := h.wsz
 have hxl := h.box.1
 refine ⟨by rw [e]; exact hbx, by rw [e, i64s_append]; exact own_kept ho fun j hj hl => Tg.block j hl (by have := hblk j hj; omega), by rw [e, List.length_append, h.len, hn]; rfl,
  (h.keep.touch hT (fun j hj => (hfar j (h.oD j hj)).1) (fun j hj => (hfar j (h.oD j hj)).2)).touch Tg (fun j hj => by rw [hj]; exact hxo.1) (fun j hj => by rw [hj]; exact hxo.2), (h.bel.trans (hT.below (fun j hj => by have := h.oD j hj; omega) (by omega))).trans (Tg.below (fun j hj => by omega) (by omega)), hblk, by omega⟩
end

end Go.Proofs.YteepobghdpnabaaGreat
