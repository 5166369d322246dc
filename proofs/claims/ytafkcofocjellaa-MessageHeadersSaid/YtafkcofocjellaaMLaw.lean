/-
  What the statements on messages share: what wakes them; a message out of a box.
-/
import Derived.Test.YtafkcofocjellaaZE
import Derived.Test.YtafkcofocjellaaMEq
namespace Go.Proofs.Ytafkcofocjellaa
open Go.RowKit

theorem mnum_any (n : Int) (w : World) : Calls Try.prog 17 #[.int .i64 n] w fun e w' => e = .returned (.int .i64 n) ∧ w = w' := by
  go_enter Try.func17, Try.ntmps17
  go_wp2
  go_ret
  exact ⟨rfl, rfl⟩
/-- the first cells of what is asked are its message -/
theorem box_ask {w : World} {g : Nat} {m : MsgD} {a : MsgA} {N : Int} {AX : Option Addr} {nX cX : Nat} (h : Box w g (askC m a N AX nX cX)) : w.rangeAt g 0 (msgC m a) := fun j v hv => by
  rw [Nat.zero_add]
  refine (h.2 j v ?_).1
  have e : askC m a N AX nX cX = msgC m a ++ [.int .i64 N, .slice AX nX cX] := rfl
  rw [e, List.getElem?_append_left (List.getElem?_eq_some_iff.1 hv).1]
  exact hv
theorem box_range {w : World} {g : Nat} {cs : List Value} (h : Box w g cs) : w.rangeAt g 0 cs := fun j v hv => by
  rw [Nat.zero_add]
  exact (h.2 j v hv).1
/-- a struct out of the midst of a block, at an operation that is asked for -/
theorem wpList_load_midG {P : Program} {ops : Array Oper} {rest : List Oper} {op : Oper} {a : Act} {w : World} {Q : Exit → Act → World → Prop} (ty : TypeId) (x : Operand) (ho : op.op = .load ty x)
    (b o : Nat) (hx : a.eval x = .pointer (some ⟨b, o, none⟩)) (hw : Region.wanted op (yielded ops a.tmps) = true) (cs : List Value) (d : TypeDesc) (hc : w.rangeAt b o cs) (hu : P.underlying ty = some d) (hd : d.isRow = true) (hi : (P.info? ty).map (·.size) = some cs.length)
    (h : wpList P ops Q rest (a.put op.dst (.agg cs.toArray)) w) : wpList P ops Q (op :: rest) a w := by
  rw [wpList, if_pos hw]
  exact .inl (wp_load_mid ty x ho b o hx cs d hc hu hd hi h)
theorem Box.grown {w w' : World} {g : Nat} {vs : List Value} {row : Option Nat} (h : Box w g vs) (hg : w.grownBy w' row) (hne : some g ≠ row) : Box w' g vs :=
  ⟨Nat.lt_of_lt_of_le h.1 hg.size, fun i v hv => ⟨hg.cell (h.2 i v hv).1 hne, (hg.frozen_far ⟨g, i, none⟩ h.1 hne).trans (h.2 i v hv).2⟩⟩
theorem MsgIn.bn {w : World} {m : MsgD} {a : MsgA} (h : MsgIn w m a) (x : Int) : MsgIn w { m with bn := x } a := ⟨h.zL, h.rL, h.kL, h.xL, h.zhB, h.rhB, h.khB, h.xhB, h.zhP, h.rhP, h.khP, h.xhP, h.zcB, h.rcB, h.kcB, h.xcB, h.zcP, h.rcP, h.kcP, h.xcP, h.zcS, h.rcS, h.kcS, h.xcS, h.zD, h.rD, h.kD, h.xD⟩
theorem MsgOk.bn {m : MsgD} (h : MsgOk m) {x : Int} (hx : I64 x) : MsgOk { m with bn := x } := ⟨h.wk, h.wf, h.wt, h.wd, h.wba, hx, h.wL, h.wha, h.whr, h.whB, h.whP, h.wca, h.wcr, h.wcB, h.wcP, h.wcd, h.wcS, h.wD⟩
theorem MsgIn.ha {w : World} {m : MsgD} {a : MsgA} (h : MsgIn w m a) (x : Int) : MsgIn w { m with ha := x } a := ⟨h.zL, h.rL, h.kL, h.xL, h.zhB, h.rhB, h.khB, h.xhB, h.zhP, h.rhP, h.khP, h.xhP, h.zcB, h.rcB, h.kcB, h.xcB, h.zcP, h.rcP, h.kcP, h.xcP, h.zcS, h.rcS, h.kcS, h.xcS, h.zD, h.rD, h.kD, h.xD⟩
theorem MsgOk.ha {m : MsgD} (h : MsgOk m) {x : Int} (hx : I64 x) : MsgOk { m with ha := x } := ⟨h.wk, h.wf, h.wt, h.wd, h.wba, h.wbn, h.wL, hx, h.whr, h.whB, h.whP, h.wca, h.wcr, h.wcB, h.wcP, h.wcd, h.wcS, h.wD⟩
theorem MsgIn.cd {w : World} {m : MsgD} {a : MsgA} (h : MsgIn w m a) (x : Int) : MsgIn w { m with cd := x } a := ⟨h.zL, h.rL, h.kL, h.xL, h.zhB, h.rhB, h.khB, h.xhB, h.zhP, h.rhP, h.khP, h.xhP, h.zcB, h.rcB, h.kcB, h.xcB, h.zcP, h.rcP, h.kcP, h.xcP, h.zcS, h.rcS, h.kcS, h.xcS, h.zD, h.rD, h.kD, h.xD⟩
theorem MsgOk.cd {m : MsgD} (h : MsgOk m) {x : Int} (hx : I64 x) : MsgOk { m with cd := x } := ⟨h.wk, h.wf, h.wt, h.wd, h.wba, h.wbn, h.wL, h.wha, h.whr, h.whB, h.whP, h.wca, h.wcr, h.wcB, h.wcP, hx, h.wcS, h.wD⟩
theorem MsgOk.more0 {m : MsgD} (h : MsgOk m) : MsgOk { m with D := m.D ++ [0] } := ⟨h.wk, h.wf, h.wt, h.wd, h.wba, h.wbn, h.wL, h.wha, h.whr, h.whB, h.whP, h.wca, h.wcr, h.wcB, h.wcP, h.wcd, h.wcS, fun x hx => by rcases List.mem_append.1 hx with hx | hx; exact h.wD x hx; rw [List.mem_singleton.1 hx]; exact i64_zero⟩
theorem i64_wrap (x : Int) : I64 (IntKind.i64.wrap x) := by rw [IntKind.wrap_i64]; unfold I64; omega
/-- a struct's load in a statement that only reads -/
theorem wpQuiet_load_mid {P : Program} {ops : Array Oper} {C : World → Prop} {Q : Act → Prop} {o : Oper} {rest : List Oper} {a : Act} (ty : TypeId) (x : Operand) (ho : o.op = .load ty x) (b off : Nat) (hx : a.eval x = .pointer (some ⟨b, off, none⟩))
    (hw : Region.wanted o (yielded ops a.tmps) = true) (cs : List Value) (d : TypeDesc) (hc : ∀ w', C w' → w'.rangeAt b off cs) (hu : P.underlying ty = some d) (hd : d.isRow = true) (hi : (P.info? ty).map (·.size) = some cs.length)
    (h : wpQuiet P ops C Q rest (a.put o.dst (.agg cs.toArray))) : wpQuiet P ops C Q (o :: rest) a := by
  rw [wpQuiet, if_pos hw]
  refine ⟨.agg cs.toArray, fun w hC => ?_, h⟩
  unfold Oper.quietAt execOp
  simp only [ho, hx, Instr.loadAt, Instr.sureAddr, Sem.run_bind, Sem.run_pure, Result.andThen_ok, run_loadVar_mid w b off ty cs d (hc w hC) hu hd hi]
  exact ⟨rfl, rfl⟩
/-- four messages in one row -/
theorem range_four {w : World} {g : Nat} {m0 m1 m2 m3 : MsgD} {a0 a1 a2 a3 : MsgA} (h : Box w g (msgC m0 a0 ++ msgC m1 a1 ++ msgC m2 a2 ++ msgC m3 a3)) :
    w.rangeAt g (0 * 18) (msgC m0 a0) ∧ w.rangeAt g (1 * 18) (msgC m1 a1) ∧ w.rangeAt g (2 * 18) (msgC m2 a2) ∧ w.rangeAt g (3 * 18) (msgC m3 a3) := by
  have hl : ∀ (m : MsgD) (a : MsgA) (j : Nat) (v : Value), (msgC m a)[j]? = some v → j < 18 := fun m a j v hv => (List.getElem?_eq_some_iff.1 hv).1
  have ln : ∀ (m : MsgD) (a : MsgA), (msgC m a).length = 18 := fun _ _ => rfl
  refine ⟨fun j v hv => (h.2 _ v ?_).1, fun j v hv => (h.2 _ v ?_).1, fun j v hv => (h.2 _ v ?_).1, fun j v hv => (h.2 _ v ?_).1⟩
  all_goals
    have hj := hl _ _ _ _ hv
    simp only [List.append_assoc]
  · rw [List.getElem?_append_left (by rw [ln]; omega), Nat.zero_mul, Nat.zero_add]; exact hv
  · rw [List.getElem?_append_right (by rw [ln]; omega), List.getElem?_append_left (by rw [ln, ln]; omega), ln]; rw [show 1 * 18 + j - 18 = j by omega]; exact hv
  · rw [List.getElem?_append_right (by rw [ln]; omega), List.getElem?_append_right (by rw [ln, ln]; omega), List.getElem?_append_left (by rw [ln, ln, ln]; omega), ln, ln]; rw [show 2 * 18 + j - 18 - 18 = j by omega]; exact hv
  · rw [List.getElem?_append_right (by rw [ln]; omega), List.getElem?_append_right (by rw [ln, ln]; omega), List.getElem?_append_right (by rw [ln, ln, ln]; omega), ln, ln, ln]; rw [show 3 * 18 + j - 18 - 18 - 18 = j by omega]; exact hv
theorem size_mask : (Try.prog.info? 35).map (·.size) = some 20 := by kernel_rfl
theorem size_msg : (Try.prog.info? 32).map (·.size) = some 18 := by kernel_rfl

/-! ### what wakes the statements -/
def voteM : MsgD := { zeroM with k := 5, f := 1, t := 2, d := 3 }
theorem vote_may : messB voteM 4 = true := by decide
theorem vote_ok : MsgOk voteM := ⟨by unfold I64 voteM; decide, by unfold I64 voteM; decide, by unfold I64 voteM; decide, by unfold I64 voteM; decide, i64_zero, i64_zero, fun x h => by simp [voteM, zeroM] at h, i64_zero, i64_zero, fun x h => by simp [voteM, zeroM] at h, fun x h => by simp [voteM, zeroM] at h, i64_zero, i64_zero, fun x h => by simp [voteM, zeroM] at h, fun x h => by simp [voteM, zeroM] at h, i64_zero, fun x h => by simp [voteM, zeroM] at h, fun x h => by simp [voteM, zeroM] at h⟩
theorem few_zeroA (s : Nat) : MsgFew s zeroA := by constructor <;> exact Nat.zero_le s
theorem vote_in (w : World) : MsgIn w voteM zeroA := by constructor <;> first | rfl | exact Rd.nil _ _ | exact Nat.le_refl _ | simp [zeroA, maxLen]
theorem i64_four : I64 4 := by unfold I64; omega

set_option maxRecDepth 100000 in
set_option maxHeartbeats 4000000 in
theorem mwakes_any {E : MsgD → Int → List Int} {D : List Int → Int → Option MsgD} (C : MCodec E D) (K : MContracts E D) (w : World) : Calls Try.prog 21 #[] w (Tells w.heap.size w (.bool true)) := by
  have hsmall := C.small _ _ vote_may
  obtain ⟨nb, hnb⟩ : ∃ nb, (E voteM 4).length = nb := ⟨_, rfl⟩
  rw [hnb] at hsmall
  have HNB := Lib.hid hnb
  have HC := Lib.hid C
  clear hnb
  go_enter Try.func21, Try.ntmps21
  have bz := Lib.hid (box_new w (msgC zeroM zeroA) 32)
  go_wp2_with (first
    | (refine wpList_store_box rfl 32 _ _ rfl w.heap.size 0 (msgC voteM zeroA) (msgC zeroM zeroA) (msgC voteM zeroA) rfl rfl bz.out (by simp [msgC]) rfl size_msg rfl ?_)
    | (refine wpList_run_to rfl 32 rfl (.pointer (some ⟨w.heap.size, 0, none⟩)) (w.alloc (.cells (msgC zeroM zeroA).toArray 32)) (by unfold execOp msgC zeroM zeroA; go_simp; done) ?_))
  intro w1 bx1 T1
  have t1 := T1 (fun k => k = w.heap.size) rfl
  have hb1 : Below w.heap.size w w1 := ((Below.refl _ _).alloc (Nat.le_refl _) _).trans (t1.below (fun k hk => by rw [hk]; exact Nat.le_refl _) (by simp))
  have HBX : Hid (∀ wX, Below w1.heap.size w1 wX → Box wX w.heap.size (msgC voteM zeroA)) := fun wX h => bx1.below h bx1.1
  clear T1 t1 bx1
  go_wp2_with (refine wpList_load_box rfl 32 _ rfl w.heap.size rfl (msgC voteM zeroA) (HBX.out _ (Below.refl _ _)) _ Try.underlying32 rfl size_msg ?_)
  refine (K.enc_yes voteM zeroA 4 _ vote_may (vote_in _) vote_ok (few_zeroA _) i64_four).mono ?_
  rintro e w2 ⟨v2, rfl, ho2, hb2⟩
  have ho2b := own_cast ho2 ((u8s_length _).trans HNB.out)
  obtain ⟨A2, d2, rfl, hd2, hm2, hr2, _, hl2⟩ := own_val ho2b
  clear hl2 ho2 ho2b
  go_wp2_with fail
  refine (K.dec_yes A2 d2 nb _ voteM 4 _ (HC.out.put _ _ vote_may) HNB.out hr2 (HC.out.byts _ _ vote_may) hd2 hm2 hsmall i64_four).mono ?_
  rintro e w3 ⟨a3, rfl, hi3, hq3⟩
  have hb3 := hb2.trans (hq3.mono hb2.size)
  have HI3 := Lib.hid hi3
  clear hi3 hq3 hr2
  have bz3 := Lib.hid (box_new w3 (msgC zeroM zeroA) 32)
  go_wp2_with (first
    | (refine wpList_store_box rfl 32 _ _ rfl w3.heap.size 0 (msgC voteM a3) (msgC zeroM zeroA) (msgC voteM a3) rfl rfl bz3.out (by simp [msgC]) rfl size_msg rfl ?_)
    | (refine wpList_run_to rfl 32 rfl (.pointer (some ⟨w3.heap.size, 0, none⟩)) (w3.alloc (.cells (msgC zeroM zeroA).toArray 32)) (by unfold execOp msgC zeroM zeroA; go_simp; done) ?_))
  intro w4 bx4 T4
  have t4 := T4 (fun k => k = w3.heap.size) rfl
  have h34 : Below w3.heap.size w3 w4 := ((Below.refl _ _).alloc (Nat.le_refl _) _).trans (t4.below (fun k hk => by rw [hk]; exact Nat.le_refl _) (by simp))
  have hb4 := hb3.trans (h34.mono hb3.size)
  clear T4 t4
  go_wp2_with fail
  refine (mnum_any _ _).mono ?_
  rintro e w' ⟨rfl, rfl⟩
  go_wp2_with fail
  refine (mnum_any _ _).mono ?_
  rintro e w' ⟨rfl, rfl⟩
  go_wp2_with (first
    | (refine wpList_load_boxG 32 _ rfl w3.heap.size rfl rfl (msgC voteM a3) bx4 _ Try.underlying32 rfl size_msg ?_)
    | (refine wpList_load_boxG 32 _ rfl w.heap.size rfl rfl (msgC voteM zeroA) (HBX.out _ hb4) _ Try.underlying32 rfl size_msg ?_))
  refine (reqMsg_is true voteM voteM a3 zeroA _ (by simp) (HI3.out.below h34) (vote_in _) (mess_few vote_may HI3.out) (few_zeroA _)).mono ?_
  rintro e w5 ⟨rfl, hq5⟩
  go_wp2_with fail
  go_ret
  exact ⟨rfl, hb1.trans ((hb4.trans (hq5.mono hb4.size)).mono hb1.size)⟩

end Go.Proofs.Ytafkcofocjellaa
