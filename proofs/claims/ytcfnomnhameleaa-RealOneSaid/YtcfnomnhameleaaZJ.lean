/-
  What the statements on messages share: what wakes them; a message out of a box.
-/
import Derived.Test.YtcfnomnhameleaaZE
import Derived.Test.YtcfnomnhameleaaMEq
import Derived.Test.YtcfnomnhameleaaRPutW
import Derived.Test.YtcfnomnhameleaaMWeigh
import Derived.Great.BuildSlice
namespace Go.Proofs.Ytcfnomnhameleaa
open Go.RowKit

/-- the first cells of what is asked are its message -/
theorem box_ask {w : World} {g : Nat} {m : MsgD} {a : MsgA} {N : Int} {AX : Option Addr} {nX cX : Nat} (h : Box w g (askC m a N AX nX cX)) : w.rangeAt g 0 (msgC m a) := fun j v hv => by
  rw [Nat.zero_add]
  refine (h.2 j v ?_).1
  have e : askC m a N AX nX cX = msgC m a ++ [.int .i64 N, .slice AX nX cX] := rfl
  rw [e, List.getElem?_append_left (List.getElem?_eq_some_iff.1 hv).1]
  exact hv
theorem box_range {w : World} {g : Nat} {cs : List Value} (h : Box w g cs) : w.rangeAt g 0 cs := fun j v hv => by
  rw [Nat.zero_add]
  exact (h.2 j v hv).1
/-- a struct out of the midst of a block, at an operation that is asked for -/
theorem wpList_load_midG {P : Program} {ops : Array Oper} {rest : List Oper} {op : Oper} {a : Act} {w : World} {Q : Exit → Act → World → Prop} (ty : TypeId) (x : Operand) (ho : op.op = .load ty x)
    (b o : Nat) (hx : a.eval x = .pointer (some ⟨b, o, none⟩)) (hw : Region.wanted op (yielded ops a.tmps) = true) (cs : List Value) (d : TypeDesc) (hc : w.rangeAt b o cs) (hu : P.underlying ty = some d) (hd : d.isRow = true) (hi : (P.info? ty).map (·.size) = some cs.length)
    (h : wpList P ops Q rest (a.put op.dst (.agg cs.toArray)) w) : wpList P ops Q (op :: rest) a w := by
  rw [wpList, if_pos hw]
  exact .inl (wp_load_mid ty x ho b o hx cs d hc hu hd hi h)
theorem Box.grown {w w' : World} {g : Nat} {vs : List Value} {row : Option Nat} (h : Box w g vs) (hg : w.grownBy w' row) (hne : some g ≠ row) : Box w' g vs :=
  ⟨Nat.lt_of_lt_of_le h.1 hg.size, fun i v hv => ⟨hg.cell (h.2 i v hv).1 hne, (hg.frozen_far ⟨g, i, none⟩ h.1 hne).trans (h.2 i v hv).2⟩⟩
theorem MsgIn.bn {w : World} {m : MsgD} {a : MsgA} (h : MsgIn w m a) (x : Int) : MsgIn w { m with bn := x } a := ⟨h.zL, h.rL, h.kL, h.xL, h.zhB, h.rhB, h.khB, h.xhB, h.zhP, h.rhP, h.khP, h.xhP, h.zcB, h.rcB, h.kcB, h.xcB, h.zcP, h.rcP, h.kcP, h.xcP, h.zcS, h.rcS, h.kcS, h.xcS, h.zD, h.rD, h.kD, h.xD⟩
theorem MsgOk.bn {m : MsgD} (h : MsgOk m) {x : Int} (hx : I64 x) : MsgOk { m with bn := x } := ⟨h.wk, h.wf, h.wt, h.wd, h.wba, hx, h.wL, h.wha, h.whr, h.whB, h.whP, h.wca, h.wcr, h.wcB, h.wcP, h.wcd, h.wcS, h.wD⟩
theorem MsgIn.ha {w : World} {m : MsgD} {a : MsgA} (h : MsgIn w m a) (x : Int) : MsgIn w { m with ha := x } a := ⟨h.zL, h.rL, h.kL, h.xL, h.zhB, h.rhB, h.khB, h.xhB, h.zhP, h.rhP, h.khP, h.xhP, h.zcB, h.rcB, h.kcB, h.xcB, h.zcP, h.rcP, h.kcP, h.xcP, h.zcS, h.rcS, h.kcS, h.xcS, h.zD, h.rD, h.kD, h.xD⟩
theorem MsgOk.ha {m : MsgD} (h : MsgOk m) {x : Int} (hx : I64 x) : MsgOk { m with ha := x } := ⟨h.wk, h.wf, h.wt, h.wd, h.wba, h.wbn, h.wL, hx, h.whr, h.whB, h.whP, h.wca, h.wcr, h.wcB, h.wcP, h.wcd, h.wcS, h.wD⟩
theorem MsgIn.cd {w : World} {m : MsgD} {a : MsgA} (h : MsgIn w m a) (x : Int) : MsgIn w { m with cd := x } a := ⟨h.zL, h.rL, h.kL, h.xL, h.zhB, h.rhB, h.khB, h.xhB, h.zhP, h.rhP, h.khP, h.xhP, h.zcB, h.rcB, h.kcB, h.xcB, h.zcP, h.rcP, h.kcP, h.xcP, h.zcS, h.rcS, h.kcS, h.xcS, h.zD, h.rD, h.kD, h.xD⟩
theorem MsgOk.cd {m : MsgD} (h : MsgOk m) {x : Int} (hx : I64 x) : MsgOk { m with cd := x } := ⟨h.wk, h.wf, h.wt, h.wd, h.wba, h.wbn, h.wL, h.wha, h.whr, h.whB, h.whP, h.wca, h.wcr, h.wcB, h.wcP, hx, h.wcS, h.wD⟩
theorem MsgOk.more0 {m : MsgD} (h : MsgOk m) : MsgOk { m with D := m.D ++ [0] } := ⟨h.wk, h.wf, h.wt, h.wd, h.wba, h.wbn, h.wL, h.wha, h.whr, h.whB, h.whP, h.wca, h.wcr, h.wcB, h.wcP, h.wcd, h.wcS, fun x hx => by rcases List.mem_append.1 hx with hx | hx; exact h.wD x hx; rw [List.mem_singleton.1 hx]; exact i64_zero⟩
theorem i64_wrap (x : Int) : I64 (IntKind.i64.wrap x) := by rw [IntKind.wrap_i64]; unfold I64; omega
/-- a struct's load in a statement that only reads -/
theorem wpQuiet_load_mid {P : Program} {ops : Array Oper} {C : World → Prop} {Q : Act → Prop} {o : Oper} {rest : List Oper} {a : Act} (ty : TypeId) (x : Operand) (ho : o.op = .load ty x) (b off : Nat) (hx : a.eval x = .pointer (some ⟨b, off, none⟩))
    (hw : Region.wanted o (yielded ops a.tmps) = true) (cs : List Value) (d : TypeDesc) (hc : ∀ w', C w' → w'.rangeAt b off cs) (hu : P.underlying ty = some d) (hd : d.isRow = true) (hi : (P.info? ty).map (·.size) = some cs.length)
    (h : wpQuiet P ops C Q rest (a.put o.dst (.agg cs.toArray))) : wpQuiet P ops C Q (o :: rest) a := by
  rw [wpQuiet, if_pos hw]
  refine ⟨.agg cs.toArray, fun w hC => ?_, h⟩
  unfold Oper.quietAt execOp
  simp only [ho, hx, Instr.loadAt, Instr.sureAddr, Sem.run_bind, Sem.run_pure, Result.andThen_ok, run_loadVar_mid w b off ty cs d (hc w hC) hu hd hi]
  exact ⟨rfl, rfl⟩
/-- four messages in one row -/
theorem range_four {w : World} {g : Nat} {m0 m1 m2 m3 : MsgD} {a0 a1 a2 a3 : MsgA} (h : Box w g (msgC m0 a0 ++ msgC m1 a1 ++ msgC m2 a2 ++ msgC m3 a3)) :
    w.rangeAt g (0 * 18) (msgC m0 a0) ∧ w.rangeAt g (1 * 18) (msgC m1 a1) ∧ w.rangeAt g (2 * 18) (msgC m2 a2) ∧ w.rangeAt g (3 * 18) (msgC m3 a3) := by
  have hl : ∀ (m : MsgD) (a : MsgA) (j : Nat) (v : Value), (msgC m a)[j]? = some v → j < 18 := fun m a j v hv => (List.getElem?_eq_some_iff.1 hv).1
  have ln : ∀ (m : MsgD) (a : MsgA), (msgC m a).length = 18 := fun _ _ => rfl
  refine ⟨fun j v hv => (h.2 _ v ?_).1, fun j v hv => (h.2 _ v ?_).1, fun j v hv => (h.2 _ v ?_).1, fun j v hv => (h.2 _ v ?_).1⟩
  all_goals
    have hj := hl _ _ _ _ hv
    simp only [List.append_assoc]
  · rw [List.getElem?_append_left (by rw [ln]; omega), Nat.zero_mul, Nat.zero_add]; exact hv
  · rw [List.getElem?_append_right (by rw [ln]; omega), List.getElem?_append_left (by rw [ln, ln]; omega), ln]; rw [show 1 * 18 + j - 18 = j by omega]; exact hv
  · rw [List.getElem?_append_right (by rw [ln]; omega), List.getElem?_append_right (by rw [ln, ln]; omega), List.getElem?_append_left (by rw [ln, ln, ln]; omega), ln, ln]; rw [show 2 * 18 + j - 18 - 18 = j by omega]; exact hv
  · rw [List.getElem?_append_right (by rw [ln]; omega), List.getElem?_append_right (by rw [ln, ln]; omega), List.getElem?_append_right (by rw [ln, ln, ln]; omega), ln, ln, ln]; rw [show 3 * 18 + j - 18 - 18 - 18 = j by omega]; exact hv
theorem size_msg : (Try.prog.info? 42).map (·.size) = some 18 := by kernel_rfl

/-! ### what wakes the statements -/
def voteM : MsgD := { zeroM with k := 5, f := 1, t := 2, d := 3 }
theorem vote_may : messB voteM 4 = true := by decide
theorem vote_ok : MsgOk voteM := ⟨by unfold I64 voteM; decide, by unfold I64 voteM; decide, by unfold I64 voteM; decide, by unfold I64 voteM; decide, i64_zero, i64_zero, fun x h => by simp [voteM, zeroM] at h, i64_zero, i64_zero, fun x h => by simp [voteM, zeroM] at h, fun x h => by simp [voteM, zeroM] at h, i64_zero, i64_zero, fun x h => by simp [voteM, zeroM] at h, fun x h => by simp [voteM, zeroM] at h, i64_zero, fun x h => by simp [voteM, zeroM] at h, fun x h => by simp [voteM, zeroM] at h⟩
theorem few_zeroA (s : Nat) : MsgFew s zeroA := by constructor <;> exact Nat.zero_le s
theorem vote_in (w : World) : MsgIn w voteM zeroA := by constructor <;> first | rfl | exact Rd.nil _ _ | exact Nat.le_refl _ | simp [zeroA, maxLen]
theorem i64_four : I64 4 := by unfold I64; omega

end Go.Proofs.Ytcfnomnhameleaa
/-
  What a statement on package real is asked: how many nodes, who lies, which messages, whether they are put into the book, who signs what; and which scripts are let go.
-/
namespace Go.Proofs.Ytcfnomnhameleaa
open Go.RowKit

structure ScrD where
  N : Int
  Al : Option Addr
  nl : Nat
  cl : Nat
  l : List Int
  AM : Option Addr
  nM : Nat
  cM : Nat
  M : List (MsgD × MsgA)
  AP : Option Addr
  nP : Nat
  cP : Nat
  P : List Bool
  AW : Option Addr
  nW : Nat
  cW : Nat
  W : List Int
  AX : Option Addr
  nX : Nat
  cX : Nat
  X : List Int
def bools (l : List Bool) : List Value := l.map Value.bool
theorem bools_length (l : List Bool) : (bools l).length = l.length := by simp [bools]
theorem bools_at {l : List Bool} {i : Nat} (h : i < l.length) : (bools l)[i]? = some (.bool (l[i]?.getD false)) := by simp [bools, h]
def scrC (s : ScrD) : List Value := [.int .i64 s.N, .slice s.Al s.nl s.cl, .slice s.AM s.nM s.cM, .slice s.AP s.nP s.cP, .slice s.AW s.nW s.cW, .slice s.AX s.nX s.cX]
def scrV (s : ScrD) : Value := .agg #[.int .i64 s.N, .slice s.Al s.nl s.cl, .slice s.AM s.nM s.cM, .slice s.AP s.nP s.cP, .slice s.AW s.nW s.cW, .slice s.AX s.nX s.cX]
structure ScrIn (w : World) (s : ScrD) : Prop where
  wN : I64 s.N
  zl : s.l.length = s.nl
  rl : Rd w s.Al (i64s s.l)
  kl : s.nl ≤ s.cl
  xl : s.cl ≤ maxLen
  zM : s.M.length = s.nM
  rM : Rd w s.AM (cellsM s.M)
  kM : s.nM ≤ s.cM
  xM : s.cM ≤ maxLen
  msgs : ∀ x ∈ s.M, MsgIn w x.1 x.2 ∧ MsgOk x.1 ∧ MsgFew 140737488351232 x.2
  zP : s.P.length = s.nP
  rP : Rd w s.AP (bools s.P)
  kP : s.nP ≤ s.cP
  xP : s.cP ≤ maxLen
  zW : s.W.length = s.nW
  rW : Rd w s.AW (i64s s.W)
  kW : s.nW ≤ s.cW
  xW : s.cW ≤ maxLen
  iW : I64s s.W
  zX : s.X.length = s.nX
  rX : Rd w s.AX (i64s s.X)
  kX : s.nX ≤ s.cX
  xX : s.cX ≤ maxLen
  iX : I64s s.X
theorem ScrIn.below {w w' : World} {s : ScrD} (h : ScrIn w s) (hb : Below w.heap.size w w') : ScrIn w' s :=
  ⟨h.wN, h.zl, h.rl.below hb, h.kl, h.xl, h.zM, h.rM.below hb, h.kM, h.xM, fun x hx => ⟨(h.msgs x hx).1.below hb, (h.msgs x hx).2⟩, h.zP, h.rP.below hb, h.kP, h.xP, h.zW, h.rW.below hb, h.kW, h.xW, h.iW, h.zX, h.rX.below hb, h.kX, h.xX, h.iX⟩
/-- a message of a script, as it lies -/
theorem ScrIn.at_ {w : World} {s : ScrD} (h : ScrIn w s) {k : Nat} (hk : k < s.nM) : ∃ (b off : Nat) (x : MsgD × MsgA), s.AM = some ⟨b, off, none⟩ ∧ s.M[k]? = some x ∧ x ∈ s.M ∧ w.rangeAt b (off + k * 18) (msgC x.1 x.2) := by
  have hk' : k < s.M.length := by rw [h.zM]; exact hk
  obtain ⟨x, hx⟩ : ∃ x, s.M[k]? = some x := ⟨s.M[k], by simp [hk']⟩
  obtain ⟨b, off, e, _, hc⟩ := h.rM.open_ (by rw [cellsM_len]; omega)
  refine ⟨b, off, x, e, hx, List.mem_of_getElem? hx, fun j v hv => ?_⟩
  have := hc _ v (cellsM_at hx j v hv)
  rw [Nat.add_assoc]
  exact this
theorem size_scr : (Try.prog.info? 26).map (·.size) = some 6 := by kernel_rfl
/-- a script that is not let go -/
def Light (s : ScrD) : Prop := (∀ (j : Nat) (x : MsgD × MsgA), j < 12 → s.M[j]? = some x → MsgFew 2000 x.2) ∧ s.nl ≤ 100 ∧ s.nW ≤ 200 ∧ s.nX ≤ 200
def Heavy8 (s : ScrD) (w : World) (e : Ending) (w' : World) : Prop := ∃ b : Bool, e = .returned (.bool b) ∧ Below w.heap.size w w' ∧ (b = false → Light s)

set_option maxRecDepth 100000 in
set_option maxHeartbeats 4000000 in
theorem heavy8_any (s : ScrD) (w : World) (h : ScrIn w s) :
    Calls Try.prog 15 #[scrV s] w (Heavy8 s w) := by
  obtain ⟨w1, hw1⟩ : ∃ w1, w1 = w.alloc (.cells #[.int .i64 s.N, .slice s.Al s.nl s.cl, .slice s.AM s.nM s.cM, .slice s.AP s.nP s.cP, .slice s.AW s.nW s.cW, .slice s.AX s.nX s.cX] 26) := ⟨_, rfl⟩
  have hb1 : Below w.heap.size w w1 := by rw [hw1]; exact (Below.refl _ _).alloc (Nat.le_refl _) _
  have bx1 : Box w1 w.heap.size (scrC s) := by rw [hw1]; exact box_new w (scrC s) 26
  have HW := Lib.hid hw1
  have HX : Hid (∀ wX, Below w1.heap.size w1 wX → Box wX w.heap.size (scrC s)) := fun wX h => bx1.below h bx1.1
  have HI : Hid (∀ wX, Below w1.heap.size w1 wX → ScrIn wX s) := fun wX hX => h.below (hb1.trans (hX.mono hb1.size))
  obtain ⟨nl, hnl⟩ : ∃ nl, s.nl = nl := ⟨_, rfl⟩
  obtain ⟨nW, hnW⟩ : ∃ nW, s.nW = nW := ⟨_, rfl⟩
  obtain ⟨nX, hnX⟩ : ∃ nX, s.nX = nX := ⟨_, rfl⟩
  obtain ⟨nM, hnM⟩ : ∃ nM, s.nM = nM := ⟨_, rfl⟩
  have HNL := Lib.hid hnl
  have HNW := Lib.hid hnW
  have HNX := Lib.hid hnX
  have HNM := Lib.hid hnM
  have HC1 : Hid (∀ wX, Below w1.heap.size w1 wX → wX.cell? ⟨w.heap.size, 1, none⟩ = some (.slice s.Al nl s.cl)) := fun wX h => by rw [← hnl]; exact ((HX.out _ h).2 1 _ rfl).1
  have HC2 : Hid (∀ wX, Below w1.heap.size w1 wX → wX.cell? ⟨w.heap.size, 2, none⟩ = some (.slice s.AM nM s.cM)) := fun wX h => by rw [← hnM]; exact ((HX.out _ h).2 2 _ rfl).1
  have HC4 : Hid (∀ wX, Below w1.heap.size w1 wX → wX.cell? ⟨w.heap.size, 4, none⟩ = some (.slice s.AW nW s.cW)) := fun wX h => by rw [← hnW]; exact ((HX.out _ h).2 4 _ rfl).1
  have HC5 : Hid (∀ wX, Below w1.heap.size w1 wX → wX.cell? ⟨w.heap.size, 5, none⟩ = some (.slice s.AX nX s.cX)) := fun wX h => by rw [← hnX]; exact ((HX.out _ h).2 5 _ rfl).1
  clear hw1 bx1 h hnl hnW hnX hnM
  unfold scrV
  go_enter Try.func15, Try.ntmps15
  go_upto_region 1 with fail
  rw [← HW.out]
  go_wp2_with fail
  go_loopw [3] (fun i wr => ∃ k : Nat, i = .int .i64 k ∧ k ≤ nM ∧ k ≤ 12 ∧ Below w1.heap.size w1 wr ∧ Hid (∀ (j : Nat) (x : MsgD × MsgA), j < k → s.M[j]? = some x → MsgFew 2000 x.2)) (fun i _ => 12 - (intOf i).toNat)
  case atStart => exact ⟨0, rfl, by omega, by omega, Below.refl _ _, fun j x hj => absurd hj (by omega)⟩
  case round =>
    obtain ⟨k, rfl, hk, hk12, hb, HLT⟩ := hrel
    have hbw := hb1.trans (hb.mono hb1.size)
    have c2 := HC2.out _ hb
    have i0 : (0 : Int) ≤ (k : Int) := by omega
    have tail : ∀ (_ : k = nM ∨ k = 12), ∀ (j : Nat) (x : MsgD × MsgA), j < 12 → s.M[j]? = some x → MsgFew 2000 x.2 := fun hkk j x hj hx => HLT.out j x (by
      rcases hkk with e | e
      · have h1 := (List.getElem?_eq_some_iff.1 hx).1
        have h2 := (HI.out _ (Below.refl _ _)).zM
        have h3 := HNM.out
        omega
      · omega) hx
    have HTAIL := Lib.hid tail
    clear tail
    by_cases hlt : k < nM
    · have i1 : (k : Int) < (nM : Int) := by omega
      by_cases h12 : k < 12
      · have i2 : (k : Int) < 12 := by omega
        obtain ⟨b, off, x, hAM, hx, hmem, hrg⟩ := (HI.out _ hb).at_ (k := k) (by rw [HNM.out]; exact hlt)
        rw [hAM] at c2
        have HRG := Lib.hid hrg
        have HMS := Lib.hid ((HI.out _ hb).msgs x hmem)
        have HXX := Lib.hid hx
        clear hAM hmem hrg hx
        go_wp2_with (refine wpList_load_mid rfl 42 _ rfl b (off + k * 18) rfl (msgC x.1 x.2) _ HRG.out Try.underlying42 rfl size_msg ?_)
        refine (mheavy_any x.1 x.2 _ HMS.out.1 HMS.out.2.1 HMS.out.2.2).mono ?_
        rintro e w2 ⟨hv, rfl, hb2, hfew⟩
        have HFE := Lib.hid hfew
        have hb3 := hb.trans (hb2.mono hb.size)
        clear hfew
        cases hv with
        | true =>
          go_wp2_with fail
          go_ret
          exact ⟨true, rfl, hb1.trans (hb3.mono hb1.size), fun h => by cases h⟩
        | false =>
          have HF2 := Lib.hid (HFE.out rfl)
          clear HFE
          go_wp2_with fail
          go_roundw
          case rel =>
            refine ⟨k + 1, by go_num, by omega, by omega, hb3, fun j y hj hy => ?_⟩
            by_cases hjk : j = k
            · subst hjk
              have e := HXX.out
              rw [hy] at e
              cases e
              exact HF2.out
            · exact HLT.out j y (by omega) hy
          case measure => simp [intOf]; omega
      · have i2 : ¬ ((k : Int) < 12) := by omega
        have HT2 := Lib.hid (HTAIL.out (.inr (by omega)))
        have c1 := HC1.out _ hb
        have c4 := HC4.out _ hb
        have c5 := HC5.out _ hb
        by_cases g1 : 100 < nl
        · have i3 : (100 : Int) < (nl : Int) := by omega
          go_wp2_with fail
          go_ret
          exact ⟨true, rfl, hbw, fun h => by cases h⟩
        have i3 : ¬ ((100 : Int) < (nl : Int)) := by omega
        by_cases g2 : 200 < nW
        · have i4 : (200 : Int) < (nW : Int) := by omega
          go_wp2_with fail
          go_ret
          exact ⟨true, rfl, hbw, fun h => by cases h⟩
        have i4 : ¬ ((200 : Int) < (nW : Int)) := by omega
        by_cases g3 : 200 < nX
        · have i5 : (200 : Int) < (nX : Int) := by omega
          go_wp2_with fail
          go_ret
          exact ⟨true, rfl, hbw, fun h => by cases h⟩
        have i5 : ¬ ((200 : Int) < (nX : Int)) := by omega
        go_wp2_with fail
        go_ret
        exact ⟨false, rfl, hbw, fun _ => ⟨HT2.out, by have := HNL.out; omega, by have := HNW.out; omega, by have := HNX.out; omega⟩⟩
    · have i1 : ¬ ((k : Int) < (nM : Int)) := by omega
      have HT2 := Lib.hid (HTAIL.out (.inl (by omega)))
      have c1 := HC1.out _ hb
      have c4 := HC4.out _ hb
      have c5 := HC5.out _ hb
      by_cases g1 : 100 < nl
      · have i3 : (100 : Int) < (nl : Int) := by omega
        go_wp2_with fail
        go_ret
        exact ⟨true, rfl, hbw, fun h => by cases h⟩
      have i3 : ¬ ((100 : Int) < (nl : Int)) := by omega
      by_cases g2 : 200 < nW
      · have i4 : (200 : Int) < (nW : Int) := by omega
        go_wp2_with fail
        go_ret
        exact ⟨true, rfl, hbw, fun h => by cases h⟩
      have i4 : ¬ ((200 : Int) < (nW : Int)) := by omega
      by_cases g3 : 200 < nX
      · have i5 : (200 : Int) < (nX : Int) := by omega
        go_wp2_with fail
        go_ret
        exact ⟨true, rfl, hbw, fun h => by cases h⟩
      have i5 : ¬ ((200 : Int) < (nX : Int)) := by omega
      go_wp2_with fail
      go_ret
      exact ⟨false, rfl, hbw, fun _ => ⟨HT2.out, by have := HNL.out; omega, by have := HNW.out; omega, by have := HNX.out; omega⟩⟩

end Go.Proofs.Ytcfnomnhameleaa
/-
  One message more; both books' Sign; what RealExact's rounds need.
-/
namespace Go.Proofs.Ytcfnomnhameleaa
open Go.RowKit

theorem info_mes8 : (Try.prog.info? 42).map (fun i => (i.zero, i.size, i.bytes)) = some (some (msgV zeroM zeroA), 18, 256) := by kernel_rfl
theorem one_msg (m : MsgD) (a : MsgA) : ∀ u ∈ msgC m a, u.oneCell' = true := fun u hu => by
  have h : (msgC m a).all (·.oneCell') = true := rfl
  exact List.all_eq_true.1 h u hu
theorem few_have : ∃ ie, Try.prog.info? 42 = some ie ∧ ie.zero = some (msgV zeroM zeroA) ∧ ie.size = 18 := by
  have h := info_mes8
  cases hie : Try.prog.info? 42 with
  | none => rw [hie] at h; cases h
  | some ie =>
    rw [hie] at h
    simp only [Option.map_some, Option.some.injEq, Prod.mk.injEq] at h
    exact ⟨ie, rfl, h.1, h.2.1⟩
theorem fill1 (m : MsgD) (a : MsgA) : Instr.fill (fun i => some (i * 18, 18)) ((Array.range (1 * 18)).map ((msgV zeroM zeroA).cells[· % (msgV zeroM zeroA).cells.size]!)) [(0, .agg (msgC m a).toArray)] = some (msgC m a).toArray := by kernel_rfl
/-- []T{m} of one message: a new block with its cells -/
theorem wpList_build_msg {ops : Array Oper} {rest : List Oper} {o : Oper} {a : Act} {w : World} {Q : Exit → Act → World → Prop} (hg : o.guard = none) (x : Operand) (ho : o.op = .buildSlice 23 1 #[(0, x)]) (m : MsgD) (am : MsgA) (hx : a.eval x = .agg (msgC m am).toArray)
    (h : wpList Try.prog ops Q rest (a.put o.dst (.slice (some ⟨w.heap.size, 0, none⟩) 1 1)) (w.alloc (.cells (msgC m am).toArray 42))) : wpList Try.prog ops Q (o :: rest) a w := by
  obtain ⟨ie, hie, hz, hs⟩ := few_have
  refine wpList_buildSlice hg 23 42 1 _ ho (msgC m am).toArray ie (msgV zeroM zeroA) Try.underlying23 hie hz (by rw [hs]; decide) (by rw [hs]; decide) ?_ h
  have e : ((#[(0, x)] : Array (Nat × Operand)).map fun (i, x) => (i, a.eval x)).toList = [(0, .agg (msgC m am).toArray)] := by
    rw [Array.toList_map]
    show [(0, a.eval x)] = _
    rw [hx]
  rw [e, hs]
  exact fill1 m am
/-- what a signature is answered with, of both books -/
theorem sign_two {I : BookIs} (K : BookK I) (gb gr : Nat) (L : List (List Int)) (S : List (Int × Int)) (who d : Int) (hL : L.length ≤ 1000) (hS : S.length ≤ 1000) : ∃ (cd : Int) (S2 : List (Int × Int)), S2.length ≤ S.length + 1 ∧
    (∀ (w : World) (F : Nat → Prop), I w gb F L S → Calls Try.prog 20 #[.pointer (some ⟨gb, 0, none⟩), .int .i64 who, .int .i64 d] w fun e w' => e = .returned (.int .i64 cd) ∧ BookTo I gb F L S2 w w') ∧
    (∀ (w : World) (G : Nat → Prop), IsRef w gr G L S → Calls Try.prog 21 #[.pointer (some ⟨gr, 0, none⟩), .int .i64 who, .int .i64 d] w fun e w' => e = .returned (.int .i64 cd) ∧ RefTo gr G L S2 w w') := by
  by_cases hw : 1 ≤ who ∧ who ≤ 16
  · by_cases hd : 1 ≤ d ∧ d ≤ (L.length : Int)
    · exact ⟨0, S ++ [(who, d)], by simp, fun w F h => K.sign_ok gb L S who d w h hL hS hw hd, fun w G h => rsign_ok gr L S who d w h hw hd hS⟩
    · exact ⟨3, S, by omega, fun w F h => K.sign_none gb L S who d w h hL hS hw hd, fun w G h => rsign_none gr L S who d w h hw hd⟩
  · exact ⟨1, S, by omega, fun w F h => K.sign_form gb L S who d w h hL hS hw, fun w G h => rsign_form gr L S who d w h hw⟩
theorem ScrIn.put_ {w : World} {s : ScrD} (h : ScrIn w s) {k : Nat} (hk : k < s.nP) : ∃ (b off : Nat) (x : Bool), s.AP = some ⟨b, off, none⟩ ∧ w.cell? ⟨b, off + k, none⟩ = some (.bool x) := by
  have hk' : k < s.P.length := by rw [h.zP]; exact hk
  obtain ⟨b, off, e, _, hc⟩ := h.rP.open_ (by rw [bools_length]; omega)
  exact ⟨b, off, _, e, hc k _ (bools_at hk')⟩
theorem rd_cell {w : World} {A : Option Addr} {xs : List Value} {b off : Nat} (hr : Rd w A xs) (hA : A = some ⟨b, off, none⟩) {i : Nat} {v : Value} (hv : xs[i]? = some v) : w.cell? ⟨b, off + i, none⟩ = some v := by
  obtain ⟨b', off', e, _, hc⟩ := hr.open_ (Nat.lt_of_le_of_lt (Nat.zero_le i) (List.getElem?_eq_some_iff.1 hv).1)
  rw [hA] at e
  cases e
  exact hc i v hv
/-- the page's list, as it lies -/
theorem ref_row {w : World} {g : Nat} {F : Nat → Prop} {L : List (List Int)} {S : List (Int × Int)} (h : IsRef w g F L S) {n : Nat} (hn : L.length = n) : ∃ A c, w.cell? ⟨g, 0, none⟩ = some (.slice A n c) ∧ g < w.heap.size := by
  obtain ⟨vL, vW, vD, es, h⟩ := h
  obtain ⟨A, c, rfl, _⟩ := own_val h.rL
  exact ⟨A, c, by rw [h.c0, hn], h.lt _ h.here⟩
theorem ScrIn.num_ {w : World} {A : Option Addr} {l : List Int} (hr : Rd w A (i64s l)) {k : Nat} (hk : k < l.length) : ∃ (b off : Nat), A = some ⟨b, off, none⟩ ∧ b < w.heap.size ∧ w.cell? ⟨b, off + k, none⟩ = some (.int .i64 (l[k]?.getD 0)) := by
  obtain ⟨b, off, e, hl, hc⟩ := hr.open_ (by rw [i64s_length]; omega)
  exact ⟨b, off, e, hl, hc k _ (i64s_at hk)⟩

end Go.Proofs.Ytcfnomnhameleaa
/-
  A script that came in, laid open: its numbers, messages, flags. And what its weights say.
-/
namespace Go.Proofs.Ytcfnomnhameleaa
open Go.RowKit Go.ChangeShapes Go.WideShapes Go.Deep

theorem nums_fit8 {H : Type} {enc : TypeId × Value → H} {P : Program} {w : World} {base : Nat} {spare : Nat → Bool} {held : Bool} {t e : TypeId} {fuel : Nat} {v : Value} {x : DataW H × List MemPlace} {k : IntKind} (ht : P.underlying t = some (.slice e)) (he : P.underlying e = some (.int k)) (hc : P.cellsOf e = 1) (hby : P.bytesOf e = 8)
    (h : DataW.trod enc P w base spare held fuel t [v] = some x) (hw : ∀ n ∈ x.1.weights P t, n ≤ reachBytes) : ∀ (A : Option Addr) (n c : Nat), v = .slice A n c → n * 8 ≤ 140737488351232 := by
  intro A n c hv
  rcases open_ints ht he hc h with ⟨h0, _⟩ | ⟨a', len', cap', zs, h0, _, hl, hm, hz, hx, _, _⟩
  · simp only [List.cons.injEq, and_true] at h0
    rw [h0] at hv
    cases hv
    omega
  · simp only [List.cons.injEq, and_true] at h0
    rw [h0] at hv
    cases hv
    have hlen : n ≤ zs.length := by rw [hz]; split <;> omega
    have := hw ((n + (zs.length - n)) * 8) (by
      rw [hx, DataW.weights, ht]
      simp only [hby]
      refine List.mem_cons.2 (.inl ?_)
      congr 1
      simp [lits]
      omega)
    unfold reachBytes at this
    omega

set_option maxRecDepth 100000 in
set_option maxHeartbeats 16000000 in
theorem open_msg {H : Type} {enc : TypeId × Value → H} {w : World} {base : Nat} {spare : Nat → Bool} {held : Bool} {fuel : Nat} {cs : List Value} {x : DataW H × List MemPlace}
    (ht : DataW.trod enc Try.prog w base spare held fuel 42 cs = some x) (hcl : cs.length = 18) (hw0 : ∀ n ∈ x.1.weights Try.prog 42, n ≤ reachBytes) :
    ∃ (m : MsgD) (a : MsgA), cs = msgC m a ∧ MsgIn w m a ∧ MsgOk m ∧ MsgFew 140737488351232 a ∧ m.D.length * 8 ≤ 140737488351232 := by
  match cs, hcl with
  | [c0, c1, c2, c3, c4, c5, c6, c7, c8, c9, c10, c11, c12, c13, c14, c15, c16, c17], _ =>
    obtain ⟨zs, n2, _, hag2, hlen2, hzl, hf2⟩ := DataW.trod_struct Try.underlying42 ht
    match zs, hzl with
    | [z0, z1, z2, z3, z4, z5, z6, z7], _ =>
      have g0 := hf2 0 _ rfl
      have g1 := hf2 1 _ rfl
      have g2 := hf2 2 _ rfl
      have g3 := hf2 3 _ rfl
      have g4 := hf2 4 _ rfl
      have g5 := hf2 5 _ rfl
      have g6 := hf2 6 _ rfl
      have g7 := hf2 7 _ rfl
      simp [mcells_batch, cells_hdr, cells_cert, cells_int, cells_ints] at g0 g1 g2 g3 g4 g5 g6 g7
      have hD2 : x.1 = .agg [z0.1, z1.1, z2.1, z3.1, z4.1, z5.1, z6.1, z7.1] := by
        have := congrArg Prod.fst hag2
        simpa using this
      have hwm : ∀ (j : Nat) (t : TypeId) (d : DataW H), [z0.1, z1.1, z2.1, z3.1, z4.1, z5.1, z6.1, z7.1][j]? = some d → [3, 3, 3, 3, 36, 38, 40, 22][j]? = some t → ∀ n ∈ d.weights Try.prog t, n ≤ reachBytes := fun j t d hd ht n hn => hw0 n (by
        rw [hD2, DataW.weights, Try.underlying42]
        exact DataW.weights_mem_each (j := j) (t := t) (d := d) ht hd n hn)
      obtain ⟨rk, ek, _, wrk⟩ := DataW.trod_int Try.underlying3 g0
      obtain ⟨rf, ef, _, wrf⟩ := DataW.trod_int Try.underlying3 g1
      obtain ⟨rt, et, _, wrt⟩ := DataW.trod_int Try.underlying3 g2
      obtain ⟨rd, ed, _, wrd⟩ := DataW.trod_int Try.underlying3 g3
      have wD := hwm 7 22 z7.1 rfl rfl
      have fit8 := nums_fit8 Try.underlying22 Try.underlying3 cells_int bytes_int g7 wD
      obtain ⟨AD, cD, lD, eD, hD7, mD, rD, sD, zD⟩ := open_nums_fit Try.underlying22 Try.underlying3 cells_int bytes_int (by decide) g7 wD
      have w4 := hwm 4 36 z4.1 rfl rfl
      have w5 := hwm 5 38 z5.1 rfl rfl
      have w6 := hwm 6 40 z6.1 rfl rfl
      obtain ⟨bs, n4, _, hagb, hlenb, hbl, hfb⟩ := DataW.trod_struct Try.underlying36 g4
      match bs, hbl with
      | [b0, b1, b2], _ =>
        have k0 := hfb 0 _ rfl
        have k1 := hfb 1 _ rfl
        have k2 := hfb 2 _ rfl
        simp [cells_int, mcells_txs] at k0 k1 k2
        have hDb : z4.1 = .agg [b0.1, b1.1, b2.1] := by
          have := congrArg Prod.fst hagb
          simpa using this
        have wb2 : ∀ n ∈ b2.1.weights Try.prog 34, n ≤ reachBytes := fun n hn => w4 n (by
          rw [hDb, DataW.weights, Try.underlying36]
          exact DataW.weights_mem_each (j := 2) (t := 34) (d := b2.1) rfl rfl n hn)
        obtain ⟨rba, eba, _, wrba⟩ := DataW.trod_int Try.underlying3 k0
        obtain ⟨rbn, ebn, _, wrbn⟩ := DataW.trod_int Try.underlying3 k1
        have zL := txs_fit k2 wb2
        obtain ⟨AL, cL, L, eL, hL, mL, rL, sL⟩ := open_txs k2 wb2
        obtain ⟨us, n5, _, hagh, hlenh, hul, hfh⟩ := DataW.trod_struct Try.underlying38 g5
        match us, hul with
        | [u0, u1, u2, u3], _ =>
          have k0 := hfh 0 _ rfl
          have k1 := hfh 1 _ rfl
          have k2 := hfh 2 _ rfl
          have k3 := hfh 3 _ rfl
          simp [cells_int, cells_ints] at k0 k1 k2 k3
          have hDh : z5.1 = .agg [u0.1, u1.1, u2.1, u3.1] := by
            have := congrArg Prod.fst hagh
            simpa using this
          have wu2 : ∀ n ∈ u2.1.weights Try.prog 22, n ≤ reachBytes := fun n hn => w5 n (by
            rw [hDh, DataW.weights, Try.underlying38]
            exact DataW.weights_mem_each (j := 2) (t := 22) (d := u2.1) rfl rfl n hn)
          have wu3 : ∀ n ∈ u3.1.weights Try.prog 22, n ≤ reachBytes := fun n hn => w5 n (by
            rw [hDh, DataW.weights, Try.underlying38]
            exact DataW.weights_mem_each (j := 3) (t := 22) (d := u3.1) rfl rfl n hn)
          obtain ⟨rha, eha, _, wrha⟩ := DataW.trod_int Try.underlying3 k0
          obtain ⟨rhr, ehr, _, wrhr⟩ := DataW.trod_int Try.underlying3 k1
          obtain ⟨AhB, chB, lhB, ehB, hhB, mhB, rhB, shB, zhB⟩ := open_nums_fit Try.underlying22 Try.underlying3 cells_int bytes_int (by decide) k2 wu2
          obtain ⟨AhP, chP, lhP, ehP, hhP, mhP, rhP, shP, zhP⟩ := open_nums_fit Try.underlying22 Try.underlying3 cells_int bytes_int (by decide) k3 wu3
          obtain ⟨vs, n6, _, hagc, hlenc, hvl, hfc⟩ := DataW.trod_struct Try.underlying40 g6
          match vs, hvl with
          | [v0, v1, v2], _ =>
            have k0 := hfc 0 _ rfl
            have k1 := hfc 1 _ rfl
            have k2 := hfc 2 _ rfl
            simp [cells_hdr, cells_int, cells_ints] at k0 k1 k2
            have hDc : z6.1 = .agg [v0.1, v1.1, v2.1] := by
              have := congrArg Prod.fst hagc
              simpa using this
            have wv0 : ∀ n ∈ v0.1.weights Try.prog 38, n ≤ reachBytes := fun n hn => w6 n (by
              rw [hDc, DataW.weights, Try.underlying40]
              exact DataW.weights_mem_each (j := 0) (t := 38) (d := v0.1) rfl rfl n hn)
            have wv2 : ∀ n ∈ v2.1.weights Try.prog 22, n ≤ reachBytes := fun n hn => w6 n (by
              rw [hDc, DataW.weights, Try.underlying40]
              exact DataW.weights_mem_each (j := 2) (t := 22) (d := v2.1) rfl rfl n hn)
            obtain ⟨rcd, ecd, _, wrcd⟩ := DataW.trod_int Try.underlying3 k1
            obtain ⟨AcS, ccS, lcS, ecS, hcS, mcS, rcS, scS, zcS⟩ := open_nums_fit Try.underlying22 Try.underlying3 cells_int bytes_int (by decide) k2 wv2
            obtain ⟨qs, n7, _, hagq, hlenq, hql, hfq⟩ := DataW.trod_struct Try.underlying38 k0
            match qs, hql with
            | [q0, q1, q2, q3], _ =>
              have k0 := hfq 0 _ rfl
              have k1 := hfq 1 _ rfl
              have k2 := hfq 2 _ rfl
              have k3 := hfq 3 _ rfl
              simp [cells_int, cells_ints] at k0 k1 k2 k3
              have hDq : v0.1 = .agg [q0.1, q1.1, q2.1, q3.1] := by
                have := congrArg Prod.fst hagq
                simpa using this
              have wq2 : ∀ n ∈ q2.1.weights Try.prog 22, n ≤ reachBytes := fun n hn => wv0 n (by
                rw [hDq, DataW.weights, Try.underlying38]
                exact DataW.weights_mem_each (j := 2) (t := 22) (d := q2.1) rfl rfl n hn)
              have wq3 : ∀ n ∈ q3.1.weights Try.prog 22, n ≤ reachBytes := fun n hn => wv0 n (by
                rw [hDq, DataW.weights, Try.underlying38]
                exact DataW.weights_mem_each (j := 3) (t := 22) (d := q3.1) rfl rfl n hn)
              obtain ⟨rca, eca, _, wrca⟩ := DataW.trod_int Try.underlying3 k0
              obtain ⟨rcr, ecr, _, wrcr⟩ := DataW.trod_int Try.underlying3 k1
              obtain ⟨AcB, ccB, lcB, ecB, hcB, mcB, rcB, scB, zcB⟩ := open_nums_fit Try.underlying22 Try.underlying3 cells_int bytes_int (by decide) k2 wq2
              obtain ⟨AcP, ccP, lcP, ecP, hcP, mcP, rcP, scP, zcP⟩ := open_nums_fit Try.underlying22 Try.underlying3 cells_int bytes_int (by decide) k3 wq3
              simp at ek ef et ed eba ebn eha ehr eca ecr ecd
              subst ek ef et ed eba ebn eha ehr eca ecr ecd eD eL ehB ehP ecB ecP ecS
              refine ⟨⟨rk, rf, rt, rd, rba, rbn, L, rha, rhr, lhB, lhP, rca, rcr, lcB, lcP, rcd, lcS, lD⟩, ⟨AL, L.length, cL, AhB, lhB.length, chB, AhP, lhP.length, chP, AcB, lcB.length, ccB, AcP, lcP.length, ccP, AcS, lcS.length, ccS, AD, lD.length, cD⟩, rfl,
                    ⟨rfl, rL, hL, mL, rfl, rhB, hhB, mhB, rfl, rhP, hhP, mhP, rfl, rcB, hcB, mcB, rfl, rcP, hcP, mcP, rfl, rcS, hcS, mcS, rfl, rD, hD7, mD⟩,
                     ⟨wf_i64 wrk, wf_i64 wrf, wf_i64 wrt, wf_i64 wrd, wf_i64 wrba, wf_i64 wrbn, sL, wf_i64 wrha, wf_i64 wrhr, fun x hx => wf_i64 (shB x hx), fun x hx => wf_i64 (shP x hx), wf_i64 wrca, wf_i64 wrcr, fun x hx => wf_i64 (scB x hx), fun x hx => wf_i64 (scP x hx), wf_i64 wrcd, fun x hx => wf_i64 (scS x hx), fun x hx => wf_i64 (sD x hx)⟩,
                     ⟨zL AL cL L.length rfl, zhB, zhP, zcB, zcP, zcS, zD⟩, fit8 AD _ cD rfl⟩

theorem cells_bool : Try.prog.cellsOf 4 = 1 := by kernel_rfl
/-- a list is made of what stands at each index -/
theorem list_upto {α : Type} {P : Nat → α → Prop} : ∀ {n : Nat}, (∀ i, i < n → ∃ a, P i a) → ∃ L : List α, L.length = n ∧ ∀ i x, L[i]? = some x → P i x
  | 0, _ => ⟨[], rfl, fun i x hx => by simp at hx⟩
  | n + 1, h => by
    obtain ⟨L, hl, hL⟩ := list_upto (n := n) fun i hi => h i (by omega)
    obtain ⟨x, hx⟩ := h n (by omega)
    refine ⟨L ++ [x], by simp [hl], fun i y hy => ?_⟩
    rcases Nat.lt_or_ge i n with hi | hi
    · exact hL i y (by rwa [List.getElem?_append_left (by omega)] at hy)
    · rw [List.getElem?_append_right (by omega), hl] at hy
      have h0 : i - n = 0 := by
        rcases Nat.eq_zero_or_pos (i - n) with h0 | h0
        · exact h0
        · rw [List.getElem?_eq_none (by simp; omega)] at hy; cases hy
      rw [h0] at hy
      simp at hy
      have : i = n := by omega
      subst this hy
      exact hx
theorem open_bools {H : Type} {enc : TypeId × Value → H} {w : World} {base : Nat} {spare : Nat → Bool} {held : Bool} {fuel : Nat} {v : Value} {x : DataW H × List MemPlace}
    (h : DataW.trod enc Try.prog w base spare held fuel 24 [v] = some x) : ∃ (A : Option Addr) (c : Nat) (l : List Bool), v = .slice A l.length c ∧ l.length ≤ c ∧ c ≤ maxLen ∧ Rd w A (bools l) := by
  rcases open_slice Try.underlying24 h with ⟨h0, _⟩ | ⟨ad, len, cap, m, n, D, Pl, h0, _, hl, hm, hmm, _, hi⟩
  · simp only [List.cons.injEq, and_true] at h0
    subst h0
    exact ⟨none, 0, [], rfl, by simp, by simp [maxLen], Rd.nil _ _⟩
  · simp only [List.cons.injEq, and_true] at h0
    subst h0
    have hlm : len ≤ m := by rw [hmm]; split <;> omega
    obtain ⟨l, hll, hL⟩ := list_upto (α := Bool) (P := fun i b => w.cell? (ad.add i) = some (.bool b)) (n := len) fun i hil => by
      obtain ⟨cs, hc, ht⟩ := hi i (by omega)
      rw [cells_bool, Nat.mul_one] at hc
      obtain ⟨b, hb, _⟩ := DataW.trod_bool Try.underlying4 ht
      subst hb
      exact ⟨b, cell_of_cells?_one hc⟩
    refine ⟨some ad, cap, l, by rw [hll], by omega, hm, rd_of fun i u hu => ?_⟩
    have hil : i < l.length := by
      rcases Nat.lt_or_ge i l.length with h' | h'
      · exact h'
      · rw [List.getElem?_eq_none (by rw [bools_length]; exact h')] at hu; cases hu
    rw [bools_at hil] at hu
    cases hu
    exact hL i _ (by simp [hil])
theorem open_msgs {H : Type} {enc : TypeId × Value → H} {w : World} {base : Nat} {spare : Nat → Bool} {held : Bool} {fuel : Nat} {v : Value} {x : DataW H × List MemPlace}
    (h : DataW.trod enc Try.prog w base spare held fuel 23 [v] = some x) (hw : ∀ n ∈ x.1.weights Try.prog 23, n ≤ reachBytes) :
    ∃ (A : Option Addr) (c : Nat) (M : List (MsgD × MsgA)), v = .slice A M.length c ∧ M.length ≤ c ∧ c ≤ maxLen ∧ Rd w A (cellsM M) ∧ ∀ y ∈ M, (MsgIn w y.1 y.2 ∧ MsgOk y.1 ∧ MsgFew 140737488351232 y.2) ∧ y.1.D.length * 8 ≤ 140737488351232 := by
  rcases open_slice Try.underlying23 h with ⟨h0, _⟩ | ⟨ad, len, cap, m, n, D, Pl, h0, _, hl, hm, hmm, hz, hi⟩
  · simp only [List.cons.injEq, and_true] at h0
    subst h0
    exact ⟨none, 0, [], rfl, by simp, by simp [maxLen], Rd.nil _ _, fun y hy => by simp at hy⟩
  · simp only [List.cons.injEq, and_true] at h0
    subst h0
    have hlm : len ≤ m := by rw [hmm]; split <;> omega
    obtain ⟨M, hML, hM⟩ := list_upto (α := MsgD × MsgA) (P := fun i y => (∀ (j : Nat) (u : Value), (msgC y.1 y.2)[j]? = some u → w.cell? (ad.add (i * 18 + j)) = some u) ∧ (MsgIn w y.1 y.2 ∧ MsgOk y.1 ∧ MsgFew 140737488351232 y.2) ∧ y.1.D.length * 8 ≤ 140737488351232) (n := len) fun i hil => by
      obtain ⟨cs, hc, ht⟩ := hi i (by omega)
      rw [cells_msg] at hc
      obtain ⟨_, hcl, hat⟩ := World.cells?_some hc
      have hwi : ∀ k ∈ (D i).weights Try.prog 42, k ≤ reachBytes := fun k hk => hw k (by
        rw [hz]
        exact weights_slice Try.underlying23 (List.mem_map.2 ⟨i, List.mem_range.2 hil, rfl⟩) hk)
      obtain ⟨mm, aa, rfl, h1, h2, h3, h4⟩ := open_msg ht hcl hwi
      exact ⟨(mm, aa), fun j u hu => by
        have hj : j < 18 := (List.getElem?_eq_some_iff.1 hu).1
        have := hat j hj
        rw [Addr.add_add] at this
        rw [this]
        exact hu, ⟨h1, h2, h3⟩, h4⟩
    refine ⟨some ad, cap, M, by rw [hML], by omega, hm, rd_of fun i u hu => ?_, fun y hy => ?_⟩
    · have hil : i < M.length * 18 := by
        rcases Nat.lt_or_ge i (cellsM M).length with h' | h'
        · rwa [cellsM_len] at h'
        · rw [List.getElem?_eq_none h'] at hu; cases hu
      obtain ⟨y, hy⟩ : ∃ y, M[i / 18]? = some y := ⟨M[i / 18]'(by omega), by simp [show i / 18 < M.length by omega]⟩
      obtain ⟨u2, hu2⟩ : ∃ u2, (msgC y.1 y.2)[i % 18]? = some u2 := ⟨(msgC y.1 y.2)[i % 18]'(by show i % 18 < 18; omega), by simp [show i % 18 < (msgC y.1 y.2).length by show i % 18 < 18; omega]⟩
      have e := cellsM_at hy (i % 18) u2 hu2
      rw [show i / 18 * 18 + i % 18 = i by omega, hu] at e
      cases e
      have := (hM _ _ hy).1 _ _ hu2
      rwa [show i / 18 * 18 + i % 18 = i by omega] at this
    · obtain ⟨i, hi2⟩ := List.getElem?_of_mem hy
      exact (hM i y hi2).2

theorem cells_scr : Try.prog.cellsOf 26 = 6 := by kernel_rfl
theorem cells_msgs : Try.prog.cellsOf 23 = 1 := by kernel_rfl
theorem cells_bools : Try.prog.cellsOf 24 = 1 := by kernel_rfl
def ScrFit (s : ScrD) : Prop := ∀ y ∈ s.M, y.1.D.length * 8 ≤ 140737488351232
set_option maxRecDepth 100000 in
set_option maxHeartbeats 4000000 in
theorem open_scr {H : Type} {enc : TypeId × Value → H} {w : World} {r : Reach} {b0 base : Nat} {spare : Nat → Bool} {held : Bool} {v : Value} {d : DataW H} {ps : List MemPlace}
    (hv : Value.okWide Try.prog w r b0 26 v) (h : DataW.Trod enc Try.prog w base spare held 26 v d ps) (hw : ∀ n ∈ d.weights Try.prog 26, n ≤ reachBytes) :
    ∃ s, v = scrV s ∧ ScrIn w s ∧ ScrFit s := by
  obtain ⟨cs, rfl, hsz⟩ := okWide_struct Try.underlying26 hv
  obtain ⟨l⟩ := cs
  match l, hsz.trans cells_scr with
  | [c0, c1, c2, c3, c4, c5], _ =>
    obtain ⟨fuel, hf⟩ := h
    obtain ⟨ys, n', _, hag, hlen, hyl, hfs⟩ := DataW.trod_struct Try.underlying26 hf
    match ys, hyl with
    | [y0, y1, y2, y3, y4, y5], _ =>
      have f0 := hfs 0 _ rfl
      have f1 := hfs 1 _ rfl
      have f2 := hfs 2 _ rfl
      have f3 := hfs 3 _ rfl
      have f4 := hfs 4 _ rfl
      have f5 := hfs 5 _ rfl
      simp [Value.cells, cells_int, cells_ints, cells_msgs, cells_bools] at f0 f1 f2 f3 f4 f5
      have hD : d = .agg [y0.1, y1.1, y2.1, y3.1, y4.1, y5.1] := by
        have := congrArg Prod.fst hag
        simpa using this
      have hwm : ∀ (j : Nat) (t : TypeId) (e : DataW H), [y0.1, y1.1, y2.1, y3.1, y4.1, y5.1][j]? = some e → [3, 22, 23, 24, 22, 22][j]? = some t → ∀ n ∈ e.weights Try.prog t, n ≤ reachBytes := fun j t e he ht n hn => hw n (by
        rw [hD, DataW.weights, Try.underlying26]
        exact DataW.weights_mem_each (j := j) (t := t) (d := e) ht he n hn)
      obtain ⟨rN, eN, _, wrN⟩ := DataW.trod_int Try.underlying3 f0
      obtain ⟨Al, cl, l, el, kl, xl, rl, il⟩ := open_nums Try.underlying22 Try.underlying3 cells_int f1
      obtain ⟨AM, cM, M, eM, kM, xM, rM, hM⟩ := open_msgs f2 (hwm 2 23 y2.1 rfl rfl)
      obtain ⟨AP, cP, P, eP, kP, xP, rP⟩ := open_bools f3
      obtain ⟨AW, cW, W, eW, kW, xW, rW, iW⟩ := open_nums Try.underlying22 Try.underlying3 cells_int f4
      obtain ⟨AX, cX, X, eX, kX, xX, rX, iX⟩ := open_nums Try.underlying22 Try.underlying3 cells_int f5
      simp at eN
      subst eN el eM eP eW eX
      exact ⟨⟨rN, Al, l.length, cl, l, AM, M.length, cM, M, AP, P.length, cP, P, AW, W.length, cW, W, AX, X.length, cX, X⟩, rfl,
        ⟨wf_i64 wrN, rfl, rl, kl, xl, rfl, rM, kM, xM, fun y hy => (hM y hy).1, rfl, rP, kP, xP, rfl, rW, kW, xW, fun z hz => wf_i64 (iW z hz), rfl, rX, kX, xX, fun z hz => wf_i64 (iX z hz)⟩, fun y hy => (hM y hy).2⟩

end Go.Proofs.Ytcfnomnhameleaa
