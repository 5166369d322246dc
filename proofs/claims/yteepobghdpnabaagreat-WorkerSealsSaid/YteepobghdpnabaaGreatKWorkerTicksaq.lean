/-
  The walk of 'WorkerTicks'.
-/
import Derived.Test.YteepobghdpnabaaGreatKWorkerTicksan
import Derived.Test.YteepobghdpnabaaGreatKWorkerTicksap
import Derived.Test.YteepobghdpnabaaGreatKWorkerTickse
import Derived.Test.YteepobghdpnabaaGreatKWorkerTicksu
namespace Go.Proofs.YteepobghdpnabaaGreat
open Go.RowKit

set_option maxRecDepth 100000 in
theorem workerTicks_walk (s : ScrZ) (w : World) (h : ScrIn w s) : Calls Tryz.prog 7 #[scrV s] w (Tells w.heap.size w (.bool true)) := by
  obtain ⟨w1, hw1⟩ : ∃ w1, w1 = w.alloc (.cells #[.int .i64 s.P.i, .int .i64 s.P.N, .int .i64 s.P.x, .slice s.a.O.A s.a.O.n s.a.O.c, .int .i64 s.P.g, .int .i64 s.P.c, .slice s.a.W.A s.a.W.n s.a.W.c, .slice s.a.H.A s.a.H.n s.a.H.c, .slice s.a.R.A s.a.R.n s.a.R.c, .slice s.A s.n s.c] 30) := ⟨_, rfl⟩
  have hb1 : Below w.heap.size w w1 := by rw [hw1]; exact (Below.refl _ _).alloc (Nat.le_refl _) _
  have bx1 : Box w1 w.heap.size (scrC s) := by rw [hw1]; exact box_new w (scrC s) 30
  have HW := Lib.hid hw1
  have HX := Lib.hid bx1
  have HI := Lib.hid (h.below hb1)
  clear hw1 bx1 h
  unfold scrV
  go_enter Tryz.func7, Tryz.ntmps7
  go_upto_region 1 with fail
  rw [← HW.out]
  go_wp2_with (refine wpList_load_box rfl 30 _ rfl w.heap.size rfl (scrC s) HX.out _ Tryz.underlying30 rfl size_scr ?_)
  refine (only_is 8 (by decide) (by decide +kernel) (fun P a x w h hg hx hf hr => step_8 0 P a x w h hg (by decide) hx hf hr) s _ HI.out).mono ?_
  rintro e w2 ⟨rfl, hq2⟩
  go_wp2_with fail
  go_ret
  exact ⟨rfl, hb1.trans (hq2.mono hb1.size)⟩

end Go.Proofs.YteepobghdpnabaaGreat
namespace Go.Proofs.YteepobghdpnabaaGreat
open Go.RowKit Go.ChangeShapes Go.WideShapes Go.Deep

structure MAsked where
  m : MsgD
  a : MsgA
  N : Int
  AX : Option Addr
  cX : Nat
  X : List Int
def askC (m : MsgD) (a : MsgA) (N : Int) (AX : Option Addr) (nX cX : Nat) : List Value := [.int .i64 m.k, .int .i64 m.f, .int .i64 m.t, .int .i64 m.d, .int .i64 m.ba, .int .i64 m.bn, .slice a.AL a.nL a.cL, .int .i64 m.ha, .int .i64 m.hr, .slice a.AhB a.nhB a.chB, .slice a.AhP a.nhP a.chP, .int .i64 m.ca, .int .i64 m.cr, .slice a.AcB a.ncB a.ccB, .slice a.AcP a.ncP a.ccP, .int .i64 m.cd, .slice a.AcS a.ncS a.ccS, .slice a.AD a.nD a.cD, .int .i64 N, .slice AX nX cX]
structure MAskOk (w : World) (q : MAsked) : Prop where
  hi : MsgIn w q.m q.a
  ok : MsgOk q.m
  few : MsgFew 140737488351232 q.a
  wN : I64 q.N
  hX : q.X.length ≤ q.cX
  mX : q.cX ≤ maxLen
  rX : Rd w q.AX (u8s q.X)
  sX : Byts q.X
theorem MAskOk.below {w w' : World} {q : MAsked} (h : MAskOk w q) (hb : Below w.heap.size w w') : MAskOk w' q := ⟨h.hi.below hb, h.ok, h.few, h.wN, h.hX, h.mX, h.rX.below hb, h.sX⟩
def MAskAt (w : World) (a : Option Addr) (i : Nat) : Prop :=
  ∃ (b off : Nat) (q : MAsked), a = some ⟨b, off, none⟩ ∧ b < w.heap.size ∧ MAskOk w q ∧ w.rangeAt b (off + i * 20) (askC q.m q.a q.N q.AX q.X.length q.cX)
theorem range_below {w w' : World} {b o : Nat} {cs : List Value} (h : w.rangeAt b o cs) (hb : Below w.heap.size w w') (hlt : b < w.heap.size) : w'.rangeAt b o cs := fun j v hv => (hb.cell (p := ⟨b, o + j, none⟩) hlt).trans (h j v hv)
/-- what is asked at an index, in every later world -/
theorem MAskAt.all {w : World} {a : Option Addr} {i : Nat} (h : MAskAt w a i) : ∃ (b off : Nat) (q : MAsked) (nX : Nat), a = some ⟨b, off, none⟩ ∧ q.X.length = nX ∧ ∀ wX, Below w.heap.size w wX → MAskOk wX q ∧ wX.rangeAt b (off + i * 20) (askC q.m q.a q.N q.AX nX q.cX) := by
  obtain ⟨b, off, q, rfl, hlt, ok, hr⟩ := h
  exact ⟨b, off, q, _, rfl, rfl, fun wX hb => ⟨ok.below hb, range_below hr hb hlt⟩⟩

theorem mbytes_tx : Tryz.prog.bytesOf 40 = 48 := by kernel_rfl
/-- transactions that came in fit into memory -/
theorem txs_fit {H : Type} {enc : TypeId × Value → H} {w : World} {base : Nat} {spare : Nat → Bool} {held : Bool} {fuel : Nat} {v : Value} {x : DataW H × List MemPlace}
    (h : DataW.trod enc Tryz.prog w base spare held fuel 22 [v] = some x) (hw : ∀ n ∈ x.1.weights Tryz.prog 22, n ≤ reachBytes) : ∀ (A : Option Addr) (c n : Nat), v = .slice A n c → n ≤ 140737488351232 := by
  intro A c n hv
  rcases open_slice Tryz.underlying22 h with ⟨h0, _⟩ | ⟨ad, len, cap, m, k, D, Pl, h0, _, _, _, _, hz, _⟩
  · simp only [List.cons.injEq, and_true] at h0
    rw [h0] at hv
    cases hv
    omega
  · simp only [List.cons.injEq, and_true] at h0
    rw [h0] at hv
    cases hv
    have h1 := hw (((List.range n).map D).length * 48 + ((List.range (m - n)).map fun j => D (n + j)).length * 48) (by
      rw [hz, DataW.weights, Tryz.underlying22]
      simp only [mbytes_tx]
      refine List.mem_cons.2 (.inl ?_)
      rw [Nat.add_mul])
    rw [List.length_map, List.length_range] at h1
    unfold reachBytes at h1
    omega
theorem cells_msg : Tryz.prog.cellsOf 48 = 18 := by kernel_rfl
theorem mcells_batch : Tryz.prog.cellsOf 42 = 3 := by kernel_rfl
theorem mcells_txs : Tryz.prog.cellsOf 22 = 1 := by kernel_rfl

/-! ### what is asked of package message -/
end Go.Proofs.YteepobghdpnabaaGreat
namespace Go.Proofs.YteepobghdpnabaaGreat
open Go.RowKit Go.ChangeShapes Go.WideShapes Go.Deep

theorem cells_certO : Tryz.prog.cellsOf 46 = 6 := by kernel_rfl
theorem cells_hdrO : Tryz.prog.cellsOf 44 = 4 := by kernel_rfl
theorem bytes_intO : Tryz.prog.bytesOf 3 = 8 := by kernel_rfl
theorem nums_fit8 {H : Type} {enc : TypeId × Value → H} {P : Program} {w : World} {base : Nat} {spare : Nat → Bool} {held : Bool} {t e : TypeId} {fuel : Nat} {v : Value} {x : DataW H × List MemPlace} {k : IntKind} (ht : P.underlying t = some (.slice e)) (he : P.underlying e = some (.int k)) (hc : P.cellsOf e = 1) (hby : P.bytesOf e = 8)
    (h : DataW.trod enc P w base spare held fuel t [v] = some x) (hw : ∀ n ∈ x.1.weights P t, n ≤ reachBytes) : ∀ (A : Option Addr) (n c : Nat), v = .slice A n c → n * 8 ≤ 140737488351232 := by
  intro A n c hv
  rcases open_ints ht he hc h with ⟨h0, _⟩ | ⟨a', len', cap', zs, h0, _, hl, hm, hz, hx, _, _⟩
  · simp only [List.cons.injEq, and_true] at h0
    rw [h0] at hv
    cases hv
    omega
  · simp only [List.cons.injEq, and_true] at h0
    rw [h0] at hv
    cases hv
    have hlen : n ≤ zs.length := by rw [hz]; split <;> omega
    have := hw ((n + (zs.length - n)) * 8) (by
      rw [hx, DataW.weights, ht]
      simp only [hby]
      refine List.mem_cons.2 (.inl ?_)
      congr 1
      simp [lits]
      omega)
    unfold reachBytes at this
    omega

set_option maxRecDepth 100000 in
set_option maxHeartbeats 16000000 in
theorem open_msg {H : Type} {enc : TypeId × Value → H} {w : World} {base : Nat} {spare : Nat → Bool} {held : Bool} {fuel : Nat} {cs : List Value} {x : DataW H × List MemPlace}
    (ht : DataW.trod enc Tryz.prog w base spare held fuel 48 cs = some x) (hcl : cs.length = 18) (hw0 : ∀ n ∈ x.1.weights Tryz.prog 48, n ≤ reachBytes) :
    ∃ (m : MsgD) (a : MsgA), cs = msgC m a ∧ MsgIn w m a ∧ MsgOk m ∧ MsgFew 140737488351232 a ∧ m.D.length * 8 ≤ 140737488351232 := by
  match cs, hcl with
  | [c0, c1, c2, c3, c4, c5, c6, c7, c8, c9, c10, c11, c12, c13, c14, c15, c16, c17], _ =>
    obtain ⟨zs, n2, _, hag2, hlen2, hzl, hf2⟩ := DataW.trod_struct Tryz.underlying48 ht
    match zs, hzl with
    | [z0, z1, z2, z3, z4, z5, z6, z7], _ =>
      have g0 := hf2 0 _ rfl
      have g1 := hf2 1 _ rfl
      have g2 := hf2 2 _ rfl
      have g3 := hf2 3 _ rfl
      have g4 := hf2 4 _ rfl
      have g5 := hf2 5 _ rfl
      have g6 := hf2 6 _ rfl
      have g7 := hf2 7 _ rfl
      simp [mcells_batch, cells_hdrO, cells_certO, cells_int, cells_ints] at g0 g1 g2 g3 g4 g5 g6 g7
      have hD2 : x.1 = .agg [z0.1, z1.1, z2.1, z3.1, z4.1, z5.1, z6.1, z7.1] := by
        have := congrArg Prod.fst hag2
        simpa using this
      have hwm : ∀ (j : Nat) (t : TypeId) (d : DataW H), [z0.1, z1.1, z2.1, z3.1, z4.1, z5.1, z6.1, z7.1][j]? = some d → [3, 3, 3, 3, 42, 44, 46, 25][j]? = some t → ∀ n ∈ d.weights Tryz.prog t, n ≤ reachBytes := fun j t d hd ht n hn => hw0 n (by
        rw [hD2, DataW.weights, Tryz.underlying48]
        exact DataW.weights_mem_each (j := j) (t := t) (d := d) ht hd n hn)
      obtain ⟨rk, ek, _, wrk⟩ := DataW.trod_int Tryz.underlying3 g0
      obtain ⟨rf, ef, _, wrf⟩ := DataW.trod_int Tryz.underlying3 g1
      obtain ⟨rt, et, _, wrt⟩ := DataW.trod_int Tryz.underlying3 g2
      obtain ⟨rd, ed, _, wrd⟩ := DataW.trod_int Tryz.underlying3 g3
      have wD := hwm 7 25 z7.1 rfl rfl
      have fit8 := nums_fit8 Tryz.underlying25 Tryz.underlying3 cells_int bytes_intO g7 wD
      obtain ⟨AD, cD, lD, eD, hD7, mD, rD, sD, zD⟩ := open_nums_fit Tryz.underlying25 Tryz.underlying3 cells_int bytes_intO (by decide) g7 wD
      have w4 := hwm 4 42 z4.1 rfl rfl
      have w5 := hwm 5 44 z5.1 rfl rfl
      have w6 := hwm 6 46 z6.1 rfl rfl
      obtain ⟨bs, n4, _, hagb, hlenb, hbl, hfb⟩ := DataW.trod_struct Tryz.underlying42 g4
      match bs, hbl with
      | [b0, b1, b2], _ =>
        have k0 := hfb 0 _ rfl
        have k1 := hfb 1 _ rfl
        have k2 := hfb 2 _ rfl
        simp [cells_int, mcells_txs] at k0 k1 k2
        have hDb : z4.1 = .agg [b0.1, b1.1, b2.1] := by
          have := congrArg Prod.fst hagb
          simpa using this
        have wb2 : ∀ n ∈ b2.1.weights Tryz.prog 22, n ≤ reachBytes := fun n hn => w4 n (by
          rw [hDb, DataW.weights, Tryz.underlying42]
          exact DataW.weights_mem_each (j := 2) (t := 22) (d := b2.1) rfl rfl n hn)
        obtain ⟨rba, eba, _, wrba⟩ := DataW.trod_int Tryz.underlying3 k0
        obtain ⟨rbn, ebn, _, wrbn⟩ := DataW.trod_int Tryz.underlying3 k1
        have zL := txs_fit k2 wb2
        obtain ⟨AL, cL, L, eL, hL, mL, rL, sL⟩ := open_txs k2 wb2
        obtain ⟨us, n5, _, hagh, hlenh, hul, hfh⟩ := DataW.trod_struct Tryz.underlying44 g5
        match us, hul with
        | [u0, u1, u2, u3], _ =>
          have k0 := hfh 0 _ rfl
          have k1 := hfh 1 _ rfl
          have k2 := hfh 2 _ rfl
          have k3 := hfh 3 _ rfl
          simp [cells_int, cells_ints] at k0 k1 k2 k3
          have hDh : z5.1 = .agg [u0.1, u1.1, u2.1, u3.1] := by
            have := congrArg Prod.fst hagh
            simpa using this
          have wu2 : ∀ n ∈ u2.1.weights Tryz.prog 25, n ≤ reachBytes := fun n hn => w5 n (by
            rw [hDh, DataW.weights, Tryz.underlying44]
            exact DataW.weights_mem_each (j := 2) (t := 25) (d := u2.1) rfl rfl n hn)
          have wu3 : ∀ n ∈ u3.1.weights Tryz.prog 25, n ≤ reachBytes := fun n hn => w5 n (by
            rw [hDh, DataW.weights, Tryz.underlying44]
            exact DataW.weights_mem_each (j := 3) (t := 25) (d := u3.1) rfl rfl n hn)
          obtain ⟨rha, eha, _, wrha⟩ := DataW.trod_int Tryz.underlying3 k0
          obtain ⟨rhr, ehr, _, wrhr⟩ := DataW.trod_int Tryz.underlying3 k1
          obtain ⟨AhB, chB, lhB, ehB, hhB, mhB, rhB, shB, zhB⟩ := open_nums_fit Tryz.underlying25 Tryz.underlying3 cells_int bytes_intO (by decide) k2 wu2
          obtain ⟨AhP, chP, lhP, ehP, hhP, mhP, rhP, shP, zhP⟩ := open_nums_fit Tryz.underlying25 Tryz.underlying3 cells_int bytes_intO (by decide) k3 wu3
          obtain ⟨vs, n6, _, hagc, hlenc, hvl, hfc⟩ := DataW.trod_struct Tryz.underlying46 g6
          match vs, hvl with
          | [v0, v1, v2], _ =>
            have k0 := hfc 0 _ rfl
            have k1 := hfc 1 _ rfl
            have k2 := hfc 2 _ rfl
            simp [cells_hdrO, cells_int, cells_ints] at k0 k1 k2
            have hDc : z6.1 = .agg [v0.1, v1.1, v2.1] := by
              have := congrArg Prod.fst hagc
              simpa using this
            have wv0 : ∀ n ∈ v0.1.weights Tryz.prog 44, n ≤ reachBytes := fun n hn => w6 n (by
              rw [hDc, DataW.weights, Tryz.underlying46]
              exact DataW.weights_mem_each (j := 0) (t := 44) (d := v0.1) rfl rfl n hn)
            have wv2 : ∀ n ∈ v2.1.weights Tryz.prog 25, n ≤ reachBytes := fun n hn => w6 n (by
              rw [hDc, DataW.weights, Tryz.underlying46]
              exact DataW.weights_mem_each (j := 2) (t := 25) (d := v2.1) rfl rfl n hn)
            obtain ⟨rcd, ecd, _, wrcd⟩ := DataW.trod_int Tryz.underlying3 k1
            obtain ⟨AcS, ccS, lcS, ecS, hcS, mcS, rcS, scS, zcS⟩ := open_nums_fit Tryz.underlying25 Tryz.underlying3 cells_int bytes_intO (by decide) k2 wv2
            obtain ⟨qs, n7, _, hagq, hlenq, hql, hfq⟩ := DataW.trod_struct Tryz.underlying44 k0
            match qs, hql with
            | [q0, q1, q2, q3], _ =>
              have k0 := hfq 0 _ rfl
              have k1 := hfq 1 _ rfl
              have k2 := hfq 2 _ rfl
              have k3 := hfq 3 _ rfl
              simp [cells_int, cells_ints] at k0 k1 k2 k3
              have hDq : v0.1 = .agg [q0.1, q1.1, q2.1, q3.1] := by
                have := congrArg Prod.fst hagq
                simpa using this
              have wq2 : ∀ n ∈ q2.1.weights Tryz.prog 25, n ≤ reachBytes := fun n hn => wv0 n (by
                rw [hDq, DataW.weights, Tryz.underlying44]
                exact DataW.weights_mem_each (j := 2) (t := 25) (d := q2.1) rfl rfl n hn)
              have wq3 : ∀ n ∈ q3.1.weights Tryz.prog 25, n ≤ reachBytes := fun n hn => wv0 n (by
                rw [hDq, DataW.weights, Tryz.underlying44]
                exact DataW.weights_mem_each (j := 3) (t := 25) (d := q3.1) rfl rfl n hn)
              obtain ⟨rca, eca, _, wrca⟩ := DataW.trod_int Tryz.underlying3 k0
              obtain ⟨rcr, ecr, _, wrcr⟩ := DataW.trod_int Tryz.underlying3 k1
              obtain ⟨AcB, ccB, lcB, ecB, hcB, mcB, rcB, scB, zcB⟩ := open_nums_fit Tryz.underlying25 Tryz.underlying3 cells_int bytes_intO (by decide) k2 wq2
              obtain ⟨AcP, ccP, lcP, ecP, hcP, mcP, rcP, scP, zcP⟩ := open_nums_fit Tryz.underlying25 Tryz.underlying3 cells_int bytes_intO (by decide) k3 wq3
              simp at ek ef et ed eba ebn eha ehr eca ecr ecd
              subst ek ef et ed eba ebn eha ehr eca ecr ecd eD eL ehB ehP ecB ecP ecS
              refine ⟨⟨rk, rf, rt, rd, rba, rbn, L, rha, rhr, lhB, lhP, rca, rcr, lcB, lcP, rcd, lcS, lD⟩, ⟨AL, L.length, cL, AhB, lhB.length, chB, AhP, lhP.length, chP, AcB, lcB.length, ccB, AcP, lcP.length, ccP, AcS, lcS.length, ccS, AD, lD.length, cD⟩, rfl,
                    ⟨rfl, rL, hL, mL, rfl, rhB, hhB, mhB, rfl, rhP, hhP, mhP, rfl, rcB, hcB, mcB, rfl, rcP, hcP, mcP, rfl, rcS, hcS, mcS, rfl, rD, hD7, mD⟩,
                     ⟨wf_i64 wrk, wf_i64 wrf, wf_i64 wrt, wf_i64 wrd, wf_i64 wrba, wf_i64 wrbn, sL, wf_i64 wrha, wf_i64 wrhr, fun x hx => wf_i64 (shB x hx), fun x hx => wf_i64 (shP x hx), wf_i64 wrca, wf_i64 wrcr, fun x hx => wf_i64 (scB x hx), fun x hx => wf_i64 (scP x hx), wf_i64 wrcd, fun x hx => wf_i64 (scS x hx), fun x hx => wf_i64 (sD x hx)⟩,
                     ⟨zL AL cL L.length rfl, zhB, zhP, zcB, zcP, zcS, zD⟩, fit8 AD _ cD rfl⟩

end Go.Proofs.YteepobghdpnabaaGreat
