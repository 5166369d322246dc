/-
  Transactions that came in, laid open.
-/
import Derived.Test.YteepobghdpnabaaGreatRows
import Derived.WalkSpells
import Derived.WalkLawsBesides
import Derived.Deep.QuietTactic
import Derived.BigQuiet
import Derived.LoopTactic
import Derived.ScopeJumps
import Derived.Test.YteepobghdpnabaaGreatKWorkerTicksc
import Derived.Test.YteepobghdpnabaaGreatKWorkerTicksa
import Derived.Test.YteepobghdpnabaaGreatKWorkerTicksb
namespace Go.Proofs.YteepobghdpnabaaGreat
open Go.RowKit Go.ChangeShapes Go.WideShapes Go.Deep

theorem list_of {α : Type} {Q : Nat → α → Prop} : ∀ {n : Nat}, (∀ i, i < n → ∃ a, Q i a) → ∃ L : List α, L.length = n ∧ ∀ i a, L[i]? = some a → Q i a
  | 0, _ => ⟨[], rfl, fun i a h => by simp at h⟩
  | n + 1, h => by
    obtain ⟨L, hl, hL⟩ := list_of (n := n) fun i hi => h i (by omega)
    obtain ⟨a, ha⟩ := h n (by omega)
    refine ⟨L ++ [a], by simp [hl], fun i b hb => ?_⟩
    rcases Nat.lt_or_ge i L.length with h' | h'
    · rw [List.getElem?_append_left h'] at hb; exact hL i b hb
    · rw [List.getElem?_append_right h'] at hb
      have hi : i - L.length = 0 := by
        rcases Nat.eq_zero_or_pos (i - L.length) with h0 | h0
        · exact h0
        · rw [List.getElem?_eq_none (by simp; omega)] at hb; cases hb
      rw [hi] at hb
      simp only [List.getElem?_cons_zero, Option.some.injEq] at hb
      subst hb
      obtain rfl : i = n := by omega
      exact ha
theorem cells_tx : Tryz.prog.cellsOf 40 = 4 := by kernel_rfl
theorem txs_get {L : List TxD} {i : Nat} {v : Value} (h : (txs L)[i]? = some v) : ∃ t, L[i / 4]? = some t ∧ t.cells[i % 4]? = some v := by
  have hl : i < (txs L).length := by
    rcases Nat.lt_or_ge i (txs L).length with h' | h'
    · exact h'
    · rw [List.getElem?_eq_none h'] at h; cases h
  rw [txs_length] at hl
  obtain ⟨t, ht⟩ := txD_at (L := L) (i := i / 4) (by omega)
  refine ⟨t, ht, ?_⟩
  obtain ⟨h0, h1, h2, h3⟩ := txs_at ht
  rcases (show i % 4 = 0 ∨ i % 4 = 1 ∨ i % 4 = 2 ∨ i % 4 = 3 by omega) with e | e | e | e
  · rw [show i = i / 4 * 4 by omega, h0, Option.some.injEq] at h
    rw [e, ← h]; rfl
  · rw [show i = i / 4 * 4 + 1 by omega, h1, Option.some.injEq] at h
    rw [e, ← h]; rfl
  · rw [show i = i / 4 * 4 + 2 by omega, h2, Option.some.injEq] at h
    rw [e, ← h]; rfl
  · rw [show i = i / 4 * 4 + 3 by omega, h3, Option.some.injEq] at h
    rw [e, ← h]; rfl

/-- a transaction whose numbers fit, and whose texts are within reach -/
def TxOk (t : TxD) : Prop := (-9223372036854775808 ≤ t.s ∧ t.s ≤ 9223372036854775807) ∧ (-9223372036854775808 ≤ t.q ∧ t.q ≤ 9223372036854775807) ∧ t.k.size ≤ 140737488351232 ∧ t.v.size ≤ 140737488351232

set_option maxRecDepth 100000 in
set_option maxHeartbeats 800000 in
theorem open_txs {H : Type} {enc : TypeId × Value → H} {w : World} {base : Nat} {spare : Nat → Bool} {held : Bool} {fuel : Nat} {v : Value} {x : DataW H × List MemPlace}
    (h : DataW.trod enc Tryz.prog w base spare held fuel 22 [v] = some x) (hw : ∀ n ∈ x.1.weights Tryz.prog 22, n ≤ reachBytes) :
    ∃ (A : Option Addr) (c : Nat) (L : List TxD), v = .slice A L.length c ∧ L.length ≤ c ∧ c ≤ maxLen ∧ Rd w A (txs L) ∧ ∀ t ∈ L, TxOk t := by
  rcases open_slice Tryz.underlying22 h with ⟨h0, _⟩ | ⟨ad, len, cap, m, n, D, Pl, h0, _, hl, hm, hmm, hz, hi⟩
  · simp only [List.cons.injEq, and_true] at h0
    subst h0
    exact ⟨none, 0, [], rfl, by simp, by simp [maxLen], Rd.nil _ _, fun t ht => by simp at ht⟩
  · simp only [List.cons.injEq, and_true] at h0
    subst h0
    have each : ∀ i, i < len → ∃ t : TxD, TxOk t ∧ ∀ j u, t.cells[j]? = some u → w.cell? (ad.add (i * 4 + j)) = some u := by
      intro i hil
      have him : i < m := by rw [hmm]; split <;> omega
      obtain ⟨cs, hc, ht⟩ := hi i him
      rw [cells_tx] at hc
      obtain ⟨_, hcl, hat⟩ := World.cells?_some hc
      obtain ⟨ys, n', _, hag, hlen, hyl, hf⟩ := DataW.trod_struct Tryz.underlying40 ht
      match cs, hcl with
      | [c0, c1, c2, c3], _ =>
        match ys, hyl with
        | [y0, y1, y2, y3], _ =>
          have f0 := hf 0 _ rfl
          have f1 := hf 1 _ rfl
          have f2 := hf 2 _ rfl
          have f3 := hf 3 _ rfl
          simp [cells_int, cells_str] at f0 f1 f2 f3
          obtain ⟨r, e0, _, wr⟩ := DataW.trod_int Tryz.underlying3 f0
          obtain ⟨s, e1, _, ws⟩ := DataW.trod_int Tryz.underlying3 f1
          obtain ⟨k, e2, g2, _⟩ := DataW.trod_string Tryz.underlying9 f2
          obtain ⟨q, e3, g3, _⟩ := DataW.trod_string Tryz.underlying9 f3
          have hD : D i = .agg [y0.1, y1.1, y2.1, y3.1] := by
            have := congrArg Prod.fst hag
            simpa using this
          have hwi : ∀ n ∈ (D i).weights Tryz.prog 40, n ≤ reachBytes := fun n hn => hw n (by
            rw [hz]
            exact weights_slice Tryz.underlying22 (List.mem_map.2 ⟨i, List.mem_range.2 hil, rfl⟩) hn)
          have hk : k.data.toList.length ≤ reachBytes := hwi _ (by
            rw [hD, DataW.weights, Tryz.underlying40]
            refine DataW.weights_mem_each (j := 2) (t := 9) (d := y2.1) rfl rfl _ ?_
            rw [g2]; simp [DataW.weights])
          have hq : q.data.toList.length ≤ reachBytes := hwi _ (by
            rw [hD, DataW.weights, Tryz.underlying40]
            refine DataW.weights_mem_each (j := 3) (t := 9) (d := y3.1) rfl rfl _ ?_
            rw [g3]; simp [DataW.weights])
          simp at e0 e1 e2 e3
          subst e0 e1 e2 e3
          refine ⟨⟨r, s, k, q⟩, ⟨wf_i64 wr, wf_i64 ws, hk, hq⟩, fun j u hu => ?_⟩
          rw [← add_add, hat j (by
            rcases Nat.lt_or_ge j 4 with h' | h'
            · exact h'
            · rw [List.getElem?_eq_none (by simp [TxD.cells]; omega)] at hu; cases hu)]
          exact hu
    obtain ⟨L, hL, hLe⟩ := list_of each
    refine ⟨some ad, cap, L, by rw [hL], by omega, hm, rd_of fun i u hu => ?_, fun t ht => ?_⟩
    · obtain ⟨t, h1, h2⟩ := txs_get hu
      have := (hLe _ _ h1).2 _ _ h2
      rwa [show i / 4 * 4 + i % 4 = i by omega] at this
    · obtain ⟨i, hi'⟩ := List.getElem?_of_mem ht
      exact (hLe _ _ hi').1

end Go.Proofs.YteepobghdpnabaaGreat
namespace Go.Proofs.YteepobghdpnabaaGreat
open Go.RowKit

theorem take_nxt {α : Type} {l : List α} {k : Nat} {x : α} (h : l[k]? = some x) : l.take (k + 1) = l.take k ++ [x] := by
  rw [List.take_add_one, h]; rfl

set_option maxHeartbeats 800000 in
theorem eqNumbers_any (A A' : Option Addr) (c c' n n' : Nat) (L M : List Int) (w : World) (hz : L.length = n) (hz' : M.length = n') (hr : Rd w A (i64s L)) (hr' : Rd w A' (i64s M)) (hn : n ≤ 1073741824) (hn' : n' ≤ 1073741824) :
    Calls Tryz.prog 70 #[.slice A n c, .slice A' n' c'] w fun e w' => e = .returned (.bool (decide (L = M))) ∧ ∃ d, w' = w.drewN d := by
  have HZ := Lib.hid hz
  have HZ' := Lib.hid hz'
  clear hz hz'
  by_cases hnn : n = n'
  · subst hnn
    go_enter Tryz.func70, Tryz.ntmps70
    go_wp2
    go_loopw [5] (fun i wr => ∃ k d : Nat, i = .int .i64 k ∧ k ≤ n ∧ Hid (L.take k = M.take k) ∧ wr = w.drewN d) (fun i _ => n - (intOf i).toNat)
    case atStart => exact ⟨0, 0, rfl, by omega, rfl, rfl⟩
    case round =>
      obtain ⟨k, d, rfl, hk, HE, rfl⟩ := hrel
      by_cases hlt : k < n
      · obtain ⟨b, off, rfl, hbl, hcell⟩ := hr.open_ (by rw [i64s_length, HZ.out]; omega)
        obtain ⟨b', off', rfl, hbl', hcell'⟩ := hr'.open_ (by rw [i64s_length, HZ'.out]; omega)
        have hc1 := hcell k _ (i64s_at (by rw [HZ.out]; exact hlt))
        have hc2 := hcell' k _ (i64s_at (by rw [HZ'.out]; exact hlt))
        obtain ⟨x, hx⟩ : ∃ x, L[k]? = some x := ⟨L[k]'(by rw [HZ.out]; exact hlt), by simp⟩
        obtain ⟨y, hy⟩ : ∃ y, M[k]? = some y := ⟨M[k]'(by rw [HZ'.out]; exact hlt), by simp⟩
        rw [hx] at hc1
        rw [hy] at hc2
        simp only [Option.getD_some] at hc1 hc2
        have i0 : (0 : Int) ≤ (k : Int) := by omega
        have i1 : (k : Int) < (n : Int) := by omega
        by_cases hxy : x = y
        · have HT : Hid (L.take (k + 1) = M.take (k + 1)) := by
            show L.take (k + 1) = M.take (k + 1)
            rw [take_nxt hx, take_nxt hy, HE.out, hxy]
          subst hxy
          clear hcell hcell' hx hy
          go_wp2
          go_quiet (fail)
          go_wp2
          go_roundw
          case rel => exact ⟨k + 1, _, by go_num, by omega, HT.out, rfl⟩
          case measure => simp [intOf]; omega
        · have HT : Hid (decide (L = M) = false) := by
            show decide (L = M) = false
            simp only [decide_eq_false_iff_not]
            intro e
            rw [e, hy] at hx
            exact hxy (Option.some.inj hx).symm
          have j1 : (x == y) = false := by simp [hxy]
          have j2 : (x != y) = true := by simp [hxy]
          clear hcell hcell' hx hy hxy
          go_wp2
          go_quiet (fail)
          go_wp2
          go_ret
          exact ⟨by rw [HT.out]; rfl, d + _, World.drewN_drewN _ _ _⟩
      · have i1 : ¬ ((k : Int) < (n : Int)) := by omega
        have HT : Hid (decide (L = M) = true) := by
          show decide (L = M) = true
          have := HE.out
          rw [List.take_of_length_le (by rw [HZ.out]; omega), List.take_of_length_le (by rw [HZ'.out]; omega)] at this
          simp [this]
        go_wp2
        go_ret
        exact ⟨by rw [HT.out]; rfl, _, rfl⟩
  · have HT : Hid (decide (L = M) = false) := by
      show decide (L = M) = false
      simp only [decide_eq_false_iff_not]
      intro e
      have h1 := HZ.out
      have h2 := HZ'.out
      rw [e] at h1
      omega
    have j1 : ((n : Int) == (n' : Int)) = false := by simp; omega
    have j2 : ((n : Int) != (n' : Int)) = true := by simp; omega
    go_enter Tryz.func70, Tryz.ntmps70
    go_wp2
    go_ret
    exact ⟨by rw [HT.out]; rfl, 0, rfl⟩

end Go.Proofs.YteepobghdpnabaaGreat
namespace Go.Proofs.YteepobghdpnabaaGreat
open Go.RowKit

/-- a message -/
structure MsgD where
  k : Int
  f : Int
  t : Int
  d : Int
  ba : Int
  bn : Int
  L : List TxD
  ha : Int
  hr : Int
  hB : List Int
  hP : List Int
  ca : Int
  cr : Int
  cB : List Int
  cP : List Int
  cd : Int
  cS : List Int
  D : List Int
deriving DecidableEq
/-- where its lists lie -/
structure MsgA where
  AL : Option Addr
  nL : Nat
  cL : Nat
  AhB : Option Addr
  nhB : Nat
  chB : Nat
  AhP : Option Addr
  nhP : Nat
  chP : Nat
  AcB : Option Addr
  ncB : Nat
  ccB : Nat
  AcP : Option Addr
  ncP : Nat
  ccP : Nat
  AcS : Option Addr
  ncS : Nat
  ccS : Nat
  AD : Option Addr
  nD : Nat
  cD : Nat
def msgC (m : MsgD) (a : MsgA) : List Value := [.int .i64 m.k, .int .i64 m.f, .int .i64 m.t, .int .i64 m.d, .int .i64 m.ba, .int .i64 m.bn, .slice a.AL a.nL a.cL, .int .i64 m.ha, .int .i64 m.hr, .slice a.AhB a.nhB a.chB, .slice a.AhP a.nhP a.chP, .int .i64 m.ca, .int .i64 m.cr, .slice a.AcB a.ncB a.ccB, .slice a.AcP a.ncP a.ccP, .int .i64 m.cd, .slice a.AcS a.ncS a.ccS, .slice a.AD a.nD a.cD]
def msgV (m : MsgD) (a : MsgA) : Value := .agg #[.int .i64 m.k, .int .i64 m.f, .int .i64 m.t, .int .i64 m.d, .int .i64 m.ba, .int .i64 m.bn, .slice a.AL a.nL a.cL, .int .i64 m.ha, .int .i64 m.hr, .slice a.AhB a.nhB a.chB, .slice a.AhP a.nhP a.chP, .int .i64 m.ca, .int .i64 m.cr, .slice a.AcB a.ncB a.ccB, .slice a.AcP a.ncP a.ccP, .int .i64 m.cd, .slice a.AcS a.ncS a.ccS, .slice a.AD a.nD a.cD]
def zeroM : MsgD := ⟨0, 0, 0, 0, 0, 0, [], 0, 0, [], [], 0, 0, [], [], 0, [], []⟩
def zeroA : MsgA := ⟨none, 0, 0, none, 0, 0, none, 0, 0, none, 0, 0, none, 0, 0, none, 0, 0, none, 0, 0⟩
/-- a message in memory -/
structure MsgIn (w : World) (m : MsgD) (a : MsgA) : Prop where
  zL : m.L.length = a.nL
  rL : Rd w a.AL (txs m.L)
  kL : a.nL ≤ a.cL
  xL : a.cL ≤ maxLen
  zhB : m.hB.length = a.nhB
  rhB : Rd w a.AhB (i64s m.hB)
  khB : a.nhB ≤ a.chB
  xhB : a.chB ≤ maxLen
  zhP : m.hP.length = a.nhP
  rhP : Rd w a.AhP (i64s m.hP)
  khP : a.nhP ≤ a.chP
  xhP : a.chP ≤ maxLen
  zcB : m.cB.length = a.ncB
  rcB : Rd w a.AcB (i64s m.cB)
  kcB : a.ncB ≤ a.ccB
  xcB : a.ccB ≤ maxLen
  zcP : m.cP.length = a.ncP
  rcP : Rd w a.AcP (i64s m.cP)
  kcP : a.ncP ≤ a.ccP
  xcP : a.ccP ≤ maxLen
  zcS : m.cS.length = a.ncS
  rcS : Rd w a.AcS (i64s m.cS)
  kcS : a.ncS ≤ a.ccS
  xcS : a.ccS ≤ maxLen
  zD : m.D.length = a.nD
  rD : Rd w a.AD (i64s m.D)
  kD : a.nD ≤ a.cD
  xD : a.cD ≤ maxLen
theorem MsgIn.below {w w' : World} {m : MsgD} {a : MsgA} (h : MsgIn w m a) (hb : Below w.heap.size w w') : MsgIn w' m a :=
  ⟨h.zL, h.rL.below hb, h.kL, h.xL, h.zhB, h.rhB.below hb, h.khB, h.xhB, h.zhP, h.rhP.below hb, h.khP, h.xhP, h.zcB, h.rcB.below hb, h.kcB, h.xcB, h.zcP, h.rcP.below hb, h.kcP, h.xcP, h.zcS, h.rcS.below hb, h.kcS, h.xcS, h.zD, h.rD.below hb, h.kD, h.xD⟩
theorem MsgIn.all {w : World} {m : MsgD} {a : MsgA} (h : MsgIn w m a) : ∀ wX, Below w.heap.size w wX → MsgIn wX m a := fun _ hb => h.below hb
theorem msgIn_zero (w : World) : MsgIn w zeroM zeroA := ⟨rfl, Rd.nil _ _, Nat.le_refl _, by simp [zeroA, maxLen], rfl, Rd.nil _ _, Nat.le_refl _, by simp [zeroA, maxLen], rfl, Rd.nil _ _, Nat.le_refl _, by simp [zeroA, maxLen], rfl, Rd.nil _ _, Nat.le_refl _, by simp [zeroA, maxLen], rfl, Rd.nil _ _, Nat.le_refl _, by simp [zeroA, maxLen], rfl, Rd.nil _ _, Nat.le_refl _, by simp [zeroA, maxLen], rfl, Rd.nil _ _, Nat.le_refl _, by simp [zeroA, maxLen]⟩
/-- its numbers are numbers of the language -/
structure MsgOk (m : MsgD) : Prop where
  wk : I64 m.k
  wf : I64 m.f
  wt : I64 m.t
  wd : I64 m.d
  wba : I64 m.ba
  wbn : I64 m.bn
  wL : ∀ t ∈ m.L, TxOk t
  wha : I64 m.ha
  whr : I64 m.hr
  whB : I64s m.hB
  whP : I64s m.hP
  wca : I64 m.ca
  wcr : I64 m.cr
  wcB : I64s m.cB
  wcP : I64s m.cP
  wcd : I64 m.cd
  wcS : I64s m.cS
  wD : I64s m.D
/-- none of its lists is longer than s -/
structure MsgFew (s : Nat) (a : MsgA) : Prop where
  sL : a.nL ≤ s
  shB : a.nhB ≤ s
  shP : a.nhP ≤ s
  scB : a.ncB ≤ s
  scP : a.ncP ≤ s
  scS : a.ncS ≤ s
  sD : a.nD ≤ s
theorem MsgFew.more {s s' : Nat} {a : MsgA} (h : MsgFew s a) (hs : s ≤ s') : MsgFew s' a := ⟨Nat.le_trans h.sL hs, Nat.le_trans h.shB hs, Nat.le_trans h.shP hs, Nat.le_trans h.scB hs, Nat.le_trans h.scP hs, Nat.le_trans h.scS hs, Nat.le_trans h.sD hs⟩

/-! ### which may be -/
def digB (d : Int) : Bool := decide (1 ≤ d ∧ d ≤ 65536)
/-! ### comparisons, part by part -/
def eqBatM (a n : Int) (L : List TxD) (a' n' : Int) (L' : List TxD) : Bool := decide (a = a' ∧ n = n' ∧ L = L')
def eqCer (a r : Int) (B P : List Int) (d : Int) (S : List Int) (a' r' : Int) (B' P' : List Int) (d' : Int) (S' : List Int) : Bool := decide ((a = a' ∧ r = r' ∧ B = B' ∧ P = P') ∧ d = d' ∧ S = S')
theorem msg_eq (m m' : MsgD) : decide (m = m') = (decide (m.k = m'.k) && (decide (m.f = m'.f) && (decide (m.t = m'.t) && (decide (m.d = m'.d) && (eqBatM m.ba m.bn m.L m'.ba m'.bn m'.L && (eqHdr m.ha m.hr m.hB m.hP m'.ha m'.hr m'.hB m'.hP && (eqCer m.ca m.cr m.cB m.cP m.cd m.cS m'.ca m'.cr m'.cB m'.cP m'.cd m'.cS && decide (m.D = m'.D)))))))) := by
  rw [Bool.eq_iff_iff]
  obtain ⟨x0, x1, x2, x3, x4, x5, x6, x7, x8, x9, x10, x11, x12, x13, x14, x15, x16, x17⟩ := m
  obtain ⟨y0, y1, y2, y3, y4, y5, y6, y7, y8, y9, y10, y11, y12, y13, y14, y15, y16, y17⟩ := m'
  simp only [Bool.and_eq_true, decide_eq_true_eq, eqBatM, eqHdr, eqCer, MsgD.mk.injEq]
  constructor
  · rintro ⟨h1, h2, h3, h4, h5, h6, h7, h8, h9, h10, h11, h12, h13, h14, h15, h16, h17, h18⟩
    exact ⟨h1, h2, h3, h4, ⟨h5, h6, h7⟩, ⟨h8, h9, h10, h11⟩, ⟨⟨h12, h13, h14, h15⟩, h16, h17⟩, h18⟩
  · rintro ⟨h1, h2, h3, h4, ⟨h5, h6, h7⟩, ⟨h8, h9, h10, h11⟩, ⟨⟨h12, h13, h14, h15⟩, h16, h17⟩, h18⟩
    exact ⟨h1, h2, h3, h4, h5, h6, h7, h8, h9, h10, h11, h12, h13, h14, h15, h16, h17, h18⟩
/-! ### a message's block -/
/-- a block's cells, which may be written -/
def Box (w : World) (g : Nat) (vs : List Value) : Prop := g < w.heap.size ∧ ∀ i v, vs[i]? = some v → w.cell? ⟨g, i, none⟩ = some v ∧ w.frozen? ⟨g, i, none⟩ = false
theorem Box.lt {w : World} {g : Nat} {vs : List Value} (h : Box w g vs) : g < w.heap.size := h.1
theorem Box.below {w w' : World} {g B : Nat} {vs : List Value} (h : Box w g vs) (hb : Below B w w') (hg : g < B) : Box w' g vs :=
  ⟨by have := hb.size; have := h.1; omega, fun i v hv => ⟨(hb.cell (p := ⟨g, i, none⟩) hg).trans (h.2 i v hv).1, (hb.frozen (p := ⟨g, i, none⟩) hg).trans (h.2 i v hv).2⟩⟩
theorem box_new (w : World) (vs : List Value) (t : TypeId) : Box (w.alloc (.cells vs.toArray t)) w.heap.size vs :=
  ⟨by simp, fun i v hv => ⟨by rw [World.cell?_alloc_at _ _ _ _ rfl]; simpa using hv, by rw [World.frozen?, heap_alloc_new]; simp⟩⟩
theorem Box.set {w : World} {g j : Nat} {u : Value} {vs : List Value} (h : Box w g vs) (hj : j < vs.length) : Box (w.setCell ⟨g, j, none⟩ u) g (vs.set j u) := by
  refine ⟨by simpa using h.1, fun i v hv => ?_⟩
  rw [World.frozen?_setCell]
  by_cases hij : i = j
  · subst hij
    rw [List.getElem?_set_self hj] at hv
    simp only [Option.some.injEq] at hv
    subst hv
    obtain ⟨v0, hv0⟩ : ∃ v0, vs[i]? = some v0 := ⟨vs[i], by simp [hj]⟩
    exact ⟨World.cell?_setCell_same _ _ _ (h.2 i v0 hv0).1, (h.2 i v0 hv0).2⟩
  · rw [List.getElem?_set_ne (by omega)] at hv
    exact ⟨(World.cell?_setCell_other _ _ _ _ (by simp)).trans (h.2 i v hv).1, (h.2 i v hv).2⟩
theorem Box.far {w : World} {g g' j : Nat} {u : Value} {vs : List Value} (h : Box w g vs) (hne : g ≠ g') : Box (w.setCell ⟨g', j, none⟩ u) g vs :=
  ⟨by simpa using h.1, fun i v hv => ⟨(World.cell?_setCell_other _ _ _ _ (by simp)).trans (h.2 i v hv).1, by rw [World.frozen?_setCell]; exact (h.2 i v hv).2⟩⟩

end Go.Proofs.YteepobghdpnabaaGreat
namespace Go.Proofs.YteepobghdpnabaaGreat
open Go.RowKit

theorem ret_bpair {a b : Bool} {x : Value} (h : a = b) : Ending.returned (.tuple #[.bool a, x]) = .returned (.tuple #[.bool b, x]) := by rw [h]

/-- what holds where a number is passed by: all slots open but those that stay -/
def Next (N : Int) (A : Option Addr) (c n k B : Nat) (t : Int) (w : World) (s : Nat → Bool) (a' : Act) (w' : World) : Prop :=
  Flags w' B s ∧ Below w.heap.size w w' ∧ ∃ u8 u12 u13 u14 u15 u16 u17 u18 u19 u20 u21 u22 u23 u24 u25 u26 u27 u28 u29 : Value, a' = { tmps := #[.int .i64 N, .slice A n c, undef, undef, .int .i64 0, .pointer (some ⟨B, 0, none⟩), .int .i64 t, undef, u8, .slice A n c, .int .i64 n, .int .i64 k, u12, u13, u14, u15, u16, u17, u18, u19, u20, u21, u22, u23, u24, u25, u26, u27, u28, u29, undef], defers := [] }

theorem flags_new (w : World) (T : TypeId) : Flags (w.alloc (.cells #[.bool false, .bool false, .bool false, .bool false, .bool false, .bool false, .bool false, .bool false, .bool false, .bool false, .bool false, .bool false, .bool false, .bool false, .bool false, .bool false, .bool false] T)) w.heap.size (fun _ => false) where
  lt := by simp
  cell := fun j hj => by
    rw [World.cell?_alloc_at _ _ _ _ rfl]
    match j, hj with
    | 0, _ | 1, _ | 2, _ | 3, _ | 4, _ | 5, _ | 6, _ | 7, _ | 8, _ | 9, _ | 10, _ | 11, _ | 12, _ | 13, _ | 14, _ | 15, _ | 16, _ => rfl
    | j + 17, h => exact absurd h (by omega)
  free := fun j => by rw [World.frozen?, heap_alloc_new]; simp
theorem Flags.set {w : World} {B x : Nat} {s u : Nat → Bool} (h : Flags w B s) (hx : u x = true) (e : ∀ j, j ≠ x → u j = s j) : Flags (w.setCell ⟨B, x, none⟩ (.bool true)) B u where
  lt := by have := h.lt; simp [World.setCell]; omega
  cell := fun j hj => by
    rcases Nat.decEq j x with hj' | rfl
    · rw [World.cell?_setCell_other _ _ _ _ (by intro e; cases e; exact hj' rfl), h.cell j hj, e j hj']
    · rw [World.cell?_setCell_same _ _ _ (h.cell j hj), hx]
  free := fun j => by rw [World.frozen?_setCell]; exact h.free j

set_option maxHeartbeats 1000000 in
theorem tally_any (N : Int) (A : Option Addr) (c n : Nat) (zs : List Int) (w : World) (hN : 1 ≤ N) (hN2 : N ≤ 16) (hz : zs.length = n) (hr : Rd w A (i64s zs)) (hn : n ≤ 1073741824) :
    Calls Tryz.prog 147 #[.int .i64 N, .slice A n c] w fun e w' => e = .returned (.int .i64 (tal N zs : Int)) ∧ Below w.heap.size w w' := by
  have HZ := Lib.hid hz
  have hfl := flags_new w 173
  have hf0 : Flags _ w.heap.size (seen N (zs.take 0)) := hfl.conv fun j => seen_nil N j
  have hfz := Lib.hid hf0
  have HT0 : Hid (tal N (zs.take 0) = 0) := tal_nil N
  clear hz hfl hf0
  go_enter Tryz.func147, Tryz.ntmps147
  go_wp2
  go_loopw [6, 11] (fun t i wr => ∃ k : Nat, i = .int .i64 k ∧ k ≤ n ∧ t = .int .i64 (tal N (zs.take k) : Int) ∧ Flags wr w.heap.size (seen N (zs.take k)) ∧ Below w.heap.size w wr) (fun _ i _ => n - (intOf i).toNat)
  case atStart => exact ⟨0, rfl, by omega, by rw [HT0.out]; rfl, hfz.out, (Below.refl _ _).alloc (Nat.le_refl _) _⟩
  case round =>
    obtain ⟨k, rfl, hk, rfl, hfk, hb⟩ := hrel
    have HFK := Lib.hid hfk
    have htl := tal_le N (zs.take k)
    obtain ⟨t, ht⟩ : ∃ t, t = tal N (zs.take k) := ⟨_, rfl⟩
    rw [← ht] at htl
    rw [← ht]
    have HT := Lib.hid ht
    clear hfk hfz ht
    by_cases hlt : k < n
    · obtain ⟨b, off, rfl, hbl, hcell⟩ := (hr.below hb).open_ (by rw [i64s_length, HZ.out]; omega)
      have hat := at_some (l := zs) (k := k) (by rw [HZ.out]; exact hlt)
      have hc1 := hcell k _ (i64s_at (by rw [HZ.out]; exact hlt))
      clear hcell
      obtain ⟨y, hy⟩ : ∃ y, y = zs[k]?.getD 0 := ⟨_, rfl⟩
      rw [← hy] at hc1 hat
      have HAT := Lib.hid (take_one hat)
      clear hy hat
      have i0 : (0 : Int) ≤ (k : Int) := by omega
      have i1 : (k : Int) < (n : Int) := by omega
      by_cases hout : y < 1 ∨ N < y
      · have HO := Lib.hid hout
        go_wp2
        refine wp_scope_jumps 0 (Next N (some ⟨b, off, none⟩) c n k w.heap.size t w (seen N (zs.take k))) (fun _ _ => 0) rfl ?_ ?_
        · by_cases h1 : y < 1
          · clear hout
            go_wp2
            go_step3
            exact ⟨rfl, HFK.out, hb, _, _, _, _, _, _, _, _, _, _, _, _, _, _, _, _, _, _, _, rfl⟩
          · have h2 : N < y := by omega
            clear hout
            go_wp2
            go_step3
            exact ⟨rfl, HFK.out, hb, _, _, _, _, _, _, _, _, _, _, _, _, _, _, _, _, _, _, _, rfl⟩
        · rintro a' w' ⟨hf', hb', u8, u12, u13, u14, u15, u16, u17, u18, u19, u20, u21, u22, u23, u24, u25, u26, u27, u28, u29, rfl⟩
          have HF2 := Lib.hid hf'
          clear hf' hout
          go_wp2
          rename_i hK
          refine hK _ _ ?_
          go_wp2
          go_roundw
          case rel => exact ⟨k + 1, by go_num, by omega, by rw [HAT.out, tal_out HO.out, ← HT.out], by rw [HAT.out]; exact HF2.out.conv fun j => seen_out HO.out j, hb'⟩
          case measure => simp [intOf]; omega
      · obtain ⟨x, rfl⟩ : ∃ x : Nat, y = (x : Int) := ⟨y.toNat, by omega⟩
        have h1 : ¬ ((x : Int) < 1) := by omega
        have h2 : ¬ (N < (x : Int)) := by omega
        have h3 : x < 17 := by omega
        have h0 : (0 : Int) ≤ (x : Int) := by omega
        have h4 : (x : Int) < 17 := by omega
        have hcx := HFK.out.cell x h3
        have hfx := HFK.out.free x
        clear hout
        cases hs : seen N (zs.take k) x with
        | true =>
          rw [hs] at hcx
          have HS := Lib.hid hs
          clear hs
          go_wp2
          refine wp_scope_jumps 0 (Next N (some ⟨b, off, none⟩) c n k w.heap.size t w (seen N (zs.take k))) (fun _ _ => 0) rfl ?_ ?_
          · go_wp2
            go_step3
            exact ⟨rfl, HFK.out, hb, _, _, _, _, _, _, _, _, _, _, _, _, _, _, _, _, _, _, _, rfl⟩
          · rintro a' w' ⟨hf', hb', u8, u12, u13, u14, u15, u16, u17, u18, u19, u20, u21, u22, u23, u24, u25, u26, u27, u28, u29, rfl⟩
            have HF2 := Lib.hid hf'
            clear hf'
            go_wp2
            rename_i hK
            refine hK _ _ ?_
            go_wp2
            go_roundw
            case rel => exact ⟨k + 1, by go_num, by omega, by rw [HAT.out, tal_again HS.out, ← HT.out], by rw [HAT.out]; exact HF2.out.conv fun j => seen_again HS.out j, hb'⟩
            case measure => simp [intOf]; omega
        | false =>
          rw [hs] at hcx
          have HS := Lib.hid hs
          clear hs
          go_wp2
          refine wp_scope_jumps 0 (fun _ _ => False) (fun _ _ => 0) rfl ?_ ?_
          · go_wp2
            go_step3
            rename_i hK _ _
            refine hK _ _ ?_
            go_wp2
            go_roundw
            case rel => exact ⟨k + 1, by go_num, by omega, by rw [HAT.out, tal_new HS.out (by omega) (by omega) h3, ← HT.out]; go_num, by rw [HAT.out]; exact HFK.out.set (seen_self (by omega) (by omega)) fun j hj => seen_other j hj, hb.setCell (Nat.le_refl _) _⟩
            case measure => simp [intOf]; omega
          · rintro a' w' hf
            exact hf.elim
    · have i1 : ¬ ((k : Int) < (n : Int)) := by omega
      have HTE := Lib.hid (show (t : Int) = (tal N zs : Int) by rw [HT.out, List.take_of_length_le (by rw [HZ.out]; omega)])
      go_wp2
      go_ret
      exact ⟨ret_int HTE.out, hb⟩

/-- enough of these, or some, among N nodes? -/
def enough (N : Int) (L : List Int) : Bool := decide (2 * (N / 3) + 1 ≤ (tal N L : Int))
set_option maxHeartbeats 400000 in
theorem enough_yes (N : Int) (A : Option Addr) (c n : Nat) (zs : List Int) (w : World) (hm : may N = true) (hz : zs.length = n) (hr : Rd w A (i64s zs)) (hn : n ≤ 1073741824) :
    Calls Tryz.prog 132 #[.int .i64 N, .slice A n c] w (Tells w.heap.size w (.tuple #[.bool (enough N zs), .int .i64 0])) := by
  obtain ⟨h1, h2, h3⟩ := may_yes hm
  have HZ := Lib.hid hz
  have HM := Lib.hid hm
  have HE : Hid (decide (2 * (N / 3) + 1 ≤ (tal N zs : Int)) = enough N zs) := rfl
  have htl := tal_le N zs
  clear hz hm h3
  obtain ⟨t, ht⟩ : ∃ t, t = tal N zs := ⟨_, rfl⟩
  have HT := Lib.hid ht
  rw [← ht] at HE htl
  clear ht
  go_enter Tryz.func132, Tryz.ntmps132
  go_wp2_with fail
  refine (quorum_yes _ HM.out _).mono ?_
  rintro e w' ⟨rfl, rfl⟩
  go_wp2_with fail
  refine (tally_any N A c n zs _ h1 h2 HZ.out hr hn).mono ?_
  rw [← HT.out]
  rintro e w' ⟨rfl, hb⟩
  go_wp2_with fail
  go_ret2
  exact ⟨ret_bpair HE.out, hb⟩
end Go.Proofs.YteepobghdpnabaaGreat
