/-
  'RealOne' as plain data: who signed which; why two certificates of one place are never both real. And what the walk keeps.
-/
import Derived.Test.YtcfnomnhameleaaRSignD
import Derived.Test.YtcfnomnhameleaaZJ
import Derived.Test.YtcfnomnhameleaaRStrangeD
import Derived.Test.YtcfnomnhameleaaBookAsk
namespace Go.Proofs.Ytcfnomnhameleaa
open Go.RowKit

def hxB : List Int := headBytes 1 1 [] []
def hyB : List Int := headBytes 1 1 [1] []
theorem wide_x : wideB 1 1 [] [] = true := by decide
theorem wide_y : wideB 1 1 [1] [] = true := by decide
theorem find_y : findB [hxB] hyB = 0 := by
  have hne : hxB ≠ hyB := fun e => by
    have h1 := parseH_put wide_x
    have h2 := parseH_put wide_y
    have e2 : headBytes 1 1 [] [] = headBytes 1 1 [1] [] := e
    rw [e2, h2] at h1
    simp at h1
  simp [findB, hne]
/-- an operation on two numbers whose value is known -/
theorem wpList_bin_is {P : Program} {w : World} {ops : Array Oper} {rest : List Oper} {o : Oper} {a : Act} {Q : Exit → Act → World → Prop} (hg : o.guard = none) (b : BinOp) (t r : TypeId) (x y : Operand) (ho : o.op = .binOp b t x y r) (u v z : Value) (hx : a.eval x = u) (hy : a.eval y = v)
    (hq : ∀ w, (do eqGuard b t x y u v; binOp b t u v : Sem Value).run P w = .ok z w) (h : wpList P ops Q rest (a.put o.dst z) w) : wpList P ops Q (o :: rest) a w := by
  have e : (execOp a.eval o).run P w = .ok (.value z) w := by
    unfold execOp
    rw [ho]
    show ((do eqGuard b t x y (a.eval x) (a.eval y); binOp b t (a.eval x) (a.eval y) : Sem Value) >>= fun q => pure (Next.value q)).run P w = _
    rw [hx, hy, Sem.run_bind, hq w]
    rfl
  refine wpList_plain hg fun K hK => ?_
  unfold Oper.wp
  rw [e, Oper.upon_value]
  exact hK _ _ h
theorem shlq_0 (x y : Operand) (w : World) : (do eqGuard BinOp.shl 3 x y (.int .i64 1) (.int .i64 0); binOp BinOp.shl 3 (.int .i64 1) (.int .i64 0) : Sem Value).run Try.prog w = .ok (.int .i64 1) w := by kernel_rfl
theorem shlq_1 (x y : Operand) (w : World) : (do eqGuard BinOp.shl 3 x y (.int .i64 1) (.int .i64 1); binOp BinOp.shl 3 (.int .i64 1) (.int .i64 1) : Sem Value).run Try.prog w = .ok (.int .i64 2) w := by kernel_rfl
theorem orq_0_1 (x y : Operand) (w : World) : (do eqGuard BinOp.or 3 x y (.int .i64 0) (.int .i64 1); binOp BinOp.or 3 (.int .i64 0) (.int .i64 1) : Sem Value).run Try.prog w = .ok (.int .i64 1) w := by kernel_rfl
theorem orq_0_2 (x y : Operand) (w : World) : (do eqGuard BinOp.or 3 x y (.int .i64 0) (.int .i64 2); binOp BinOp.or 3 (.int .i64 0) (.int .i64 2) : Sem Value).run Try.prog w = .ok (.int .i64 2) w := by kernel_rfl
theorem orq_1_1 (x y : Operand) (w : World) : (do eqGuard BinOp.or 3 x y (.int .i64 1) (.int .i64 1); binOp BinOp.or 3 (.int .i64 1) (.int .i64 1) : Sem Value).run Try.prog w = .ok (.int .i64 1) w := by kernel_rfl
theorem orq_1_2 (x y : Operand) (w : World) : (do eqGuard BinOp.or 3 x y (.int .i64 1) (.int .i64 2); binOp BinOp.or 3 (.int .i64 1) (.int .i64 2) : Sem Value).run Try.prog w = .ok (.int .i64 3) w := by kernel_rfl
theorem orq_2_1 (x y : Operand) (w : World) : (do eqGuard BinOp.or 3 x y (.int .i64 2) (.int .i64 1); binOp BinOp.or 3 (.int .i64 2) (.int .i64 1) : Sem Value).run Try.prog w = .ok (.int .i64 3) w := by kernel_rfl
theorem orq_2_2 (x y : Operand) (w : World) : (do eqGuard BinOp.or 3 x y (.int .i64 2) (.int .i64 2); binOp BinOp.or 3 (.int .i64 2) (.int .i64 2) : Sem Value).run Try.prog w = .ok (.int .i64 2) w := by kernel_rfl
theorem orq_3_1 (x y : Operand) (w : World) : (do eqGuard BinOp.or 3 x y (.int .i64 3) (.int .i64 1); binOp BinOp.or 3 (.int .i64 3) (.int .i64 1) : Sem Value).run Try.prog w = .ok (.int .i64 3) w := by kernel_rfl
theorem orq_3_2 (x y : Operand) (w : World) : (do eqGuard BinOp.or 3 x y (.int .i64 3) (.int .i64 2); binOp BinOp.or 3 (.int .i64 3) (.int .i64 2) : Sem Value).run Try.prog w = .ok (.int .i64 3) w := by kernel_rfl
theorem one_add4 {p q : Nat} (h : p = 1 + q) (hq : q < 4) : 1 ≤ p ∧ p ≤ 4 := by omega
theorem wrap_add4 {p q : Nat} (h : p = 1 + q) (hq : q < 4) : IntKind.i64.wrap (1 + (q : Int)) = (p : Int) := by rw [h, IntWalk.i64_in _ (by omega)]; omega
/-- a certificate's message -/
def mC (B : List Int) (d : Int) (c : List Int) : MsgD := { zeroM with k := 6, f := 2, t := 3, ca := 1, cr := 1, cB := B, cd := d, cS := c }
def mCA (A : Option Addr) (n cc : Nat) (A2 : Option Addr) (n2 c2 : Nat) : MsgA := { zeroA with AcB := A, ncB := n, ccB := cc, AcS := A2, ncS := n2, ccS := c2 }
/-- enough signed it, or lie -/
def Good (S : List (Int × Int)) (liar d : Int) : Prop := ∃ c, risB c = true ∧ betB 1 4 c = true ∧ 3 ≤ c.length ∧ allBy S [liar] d c = true
theorem real_good {S : List (Int × Int)} {L : List (List Int)} {liar d : Int} {B c : List Int} (h : realR L S 4 [liar] (mC B d c) = 0) : Good S liar d := by
  unfold realR at h
  by_cases hm : messB (mC B d c) 4 = true
  · rw [if_pos hm] at h
    by_cases ho : okR L S [liar] (mC B d c) = true
    · have hf := (messP hm).2.1
      unfold formB at hf
      have hk6 : (mC B d c).k = 6 := rfl
      rw [if_neg (by rw [hk6]; omega), if_neg (by rw [hk6]; omega), if_neg (by rw [hk6]; omega), if_pos hk6] at hf
      simp only [certB, decide_eq_true_eq] at hf
      obtain ⟨_, _, h1, h2, h3⟩ := hf
      have e : quoN 4 = 3 := by decide
      rw [e] at h3
      rw [okR_sig (.inr (.inr (.inr rfl))), Bool.and_eq_true] at ho
      exact ⟨c, h1, h2, by have : (3 : Int) ≤ (c.length : Int) := h3; omega, ho.2⟩
    · rw [if_neg ho] at h; omega
  · rw [if_neg hm] at h; omega
/-- who signed, and what is written down of it -/
def SgOk (S : List (Int × Int)) (f : List Int) (liar : Int) : Prop := ∀ p ∈ S, (1 ≤ p.1 ∧ p.1 ≤ 4) ∧ p.1 ≠ liar ∧ f[p.1.toNat]?.getD 0 = p.2 ∧ p.2 ≠ 0
theorem three_of {c : List Int} (hr : risB c = true) (hb : betB 1 4 c = true) (hl : 3 ≤ c.length) : ∃ z : Int, ∀ x : Int, 1 ≤ x → x ≤ 4 → x ≠ z → x ∈ c := by
  match c, hl with
  | x :: y :: z :: r, _ =>
    have h1 := ris_lt hr 1 0 x y (by omega) rfl rfl
    have h2 := ris_lt hr 2 1 y z (by omega) rfl rfl
    simp only [betB, List.all_eq_true, decide_eq_true_eq] at hb
    have bx := hb x (by simp)
    have by_ := hb y (by simp)
    have bz := hb z (by simp)
    refine ⟨10 - x - y - z, fun u h3 h4 h5 => ?_⟩
    have : u = x ∨ u = y ∨ u = z := by omega
    rcases this with rfl | rfl | rfl <;> simp
theorem signed_mem {S : List (Int × Int)} {liar d x : Int} (h : byB S [liar] x d = true) (hx : x ≠ liar) : (x, d) ∈ S := by
  rw [byB, decide_eq_false (by simpa using hx), Bool.false_or] at h
  simp only [signedB, List.any_eq_true, Bool.and_eq_true, beq_iff_eq] at h
  obtain ⟨p, hp, rfl, rfl⟩ := h
  exact hp
theorem not_both {S : List (Int × Int)} {f : List Int} {liar : Int} (h : SgOk S f liar) (h1 : Good S liar 1) (h2 : Good S liar 2) : False := by
  obtain ⟨c1, r1, b1, l1, a1⟩ := h1
  obtain ⟨c2, r2, b2, l2, a2⟩ := h2
  obtain ⟨z1, m1⟩ := three_of r1 b1 l1
  obtain ⟨z2, m2⟩ := three_of r2 b2 l2
  obtain ⟨x, x1, x4, xl, xz1, xz2⟩ : ∃ x : Int, 1 ≤ x ∧ x ≤ 4 ∧ x ≠ liar ∧ x ≠ z1 ∧ x ≠ z2 := by
    by_cases e1 : (1 : Int) ≠ liar ∧ (1 : Int) ≠ z1 ∧ (1 : Int) ≠ z2
    · exact ⟨1, by omega, by omega, e1⟩
    by_cases e2 : (2 : Int) ≠ liar ∧ (2 : Int) ≠ z1 ∧ (2 : Int) ≠ z2
    · exact ⟨2, by omega, by omega, e2⟩
    by_cases e3 : (3 : Int) ≠ liar ∧ (3 : Int) ≠ z1 ∧ (3 : Int) ≠ z2
    · exact ⟨3, by omega, by omega, e3⟩
    exact ⟨4, by omega, by omega, by omega, by omega, by omega⟩
  have s1 := signed_mem (List.all_eq_true.1 a1 x (m1 x x1 x4 xz1)) xl
  have s2 := signed_mem (List.all_eq_true.1 a2 x (m2 x x1 x4 xz2)) xl
  have p1 := (h _ s1).2.2.1
  have p2 := (h _ s2).2.2.1
  simp only at p1 p2
  omega
theorem sgOk_nil (f : List Int) (liar : Int) : SgOk [] f liar := fun p hp => by simp at hp
theorem sgOk_add {S : List (Int × Int)} {f : List Int} {liar d : Int} {p : Nat} (h : SgOk S f liar) (hf : f.length = 5) (hp : 1 ≤ p ∧ p ≤ 4) (hl : (p : Int) ≠ liar) (hd : d ≠ 0) (ho : f[p]?.getD 0 = 0 ∨ f[p]?.getD 0 = d) : SgOk (S ++ [((p : Int), d)]) (f.set p d) liar := fun q hq => by
  rcases List.mem_append.1 hq with hq | hq
  · obtain ⟨h1, h2, h3, h4⟩ := h q hq
    refine ⟨h1, h2, ?_, h4⟩
    by_cases e : q.1.toNat = p
    · rw [e] at h3 ⊢
      rw [List.getElem?_set_self (by omega), Option.getD_some]
      rcases ho with ho | ho
      · rw [ho] at h3; exact absurd h3.symm h4
      · rw [← h3, ho]
    · rw [List.getElem?_set_ne (fun e2 => e e2.symm)]
      exact h3
  · rw [List.mem_singleton] at hq
    subst hq
    refine ⟨⟨by omega, by omega⟩, hl, ?_, hd⟩
    show (f.set p d)[(p : Int).toNat]?.getD 0 = d
    rw [Int.toNat_natCast, List.getElem?_set_self (by omega)]
    rfl

theorem i64s_set (l : List Int) (k : Nat) (y : Int) : i64s (l.set k y) = (i64s l).set k (.int .i64 y) := by simp [i64s, List.map_set]
theorem size_hdr8 : (Try.prog.info? 38).map (·.size) = some 4 := by kernel_rfl
theorem size_crt8 : (Try.prog.info? 40).map (·.size) = some 6 := by kernel_rfl
/-- a certificate's cells -/
def crtC (A : Option Addr) (n cc : Nat) (d : Int) (v : Value) : List Value := [.int .i64 1, .int .i64 1, .slice A n cc, .slice none 0 0, .int .i64 d, v]
def hxC : List Value := [.int .i64 1, .int .i64 1, .slice none 0 0, .slice none 0 0]
def hyC (gw : Nat) : List Value := [.int .i64 1, .int .i64 1, .slice (some ⟨gw, 0, none⟩) 1 1, .slice none 0 0]
def zHdr : List Value := [.int .i64 0, .int .i64 0, .slice none 0 0, .slice none 0 0]
def zCrt : List Value := [.int .i64 0, .int .i64 0, .slice none 0 0, .slice none 0 0, .int .i64 0, .slice none 0 0]
structure OneSt (I : BookIs) (w1 : World) (gb gx gy gw gA : Nat) (F : Nat → Prop) (S : List (Int × Int)) (f : List Int) (w : World) : Prop where
  bk : I w gb F [hxB, hyB] S
  bel : Below w1.heap.size w1 w
  low : ∀ k, F k → w1.heap.size ≤ k
  lowA : w1.heap.size ≤ gA
  bx : Box w gx hxC
  yb : Box w gy (hyC gw)
  rw_ : Rd w (some ⟨gw, 0, none⟩) (i64s [1])
  ltw : gw < w.heap.size
  bA : Box w gA (i64s f)
  five : f.length = 5
  no : ¬ F gx ∧ ¬ F gy ∧ ¬ F gw ∧ ¬ F gA
  ne : gA ≠ gx ∧ gA ≠ gy ∧ gA ≠ gw
section
variable {I : BookIs} {w1 w w' : World} {gb gx gy gw gA : Nat} {F F' : Nat → Prop} {S S2 : List (Int × Int)} {f : List Int}
theorem OneSt.below (K : BookK I) (h : OneSt I w1 gb gx gy gw gA F S f w) (hb : Below w.heap.size w w') : OneSt I w1 gb gx gy gw gA F S f w' :=
  ⟨K.kept h.bk hb.size fun k hk => hb.block k (K.lt h.bk k hk), h.bel.trans (hb.mono h.bel.size), h.low, h.lowA, h.bx.below hb h.bx.1, h.yb.below hb h.yb.1, h.rw_.below hb, Nat.lt_of_lt_of_le h.ltw hb.size, h.bA.below hb h.bA.1, h.five, h.no, h.ne⟩
theorem OneSt.to (h : OneSt I w1 gb gx gy gw gA F S f w) (hi : I w' gb F' [hxB, hyB] S2) (ht : Touch F w w') (hf : ∀ k, F' k → F k ∨ w.heap.size ≤ k) : OneSt I w1 gb gx gy gw gA F' S2 f w' := by
  have hnew : ∀ g, ¬ F g → g < w.heap.size → ¬ F' g := fun g h1 h2 hk => by
    rcases hf g hk with e | e
    · exact h1 e
    · omega
  refine ⟨hi, h.bel.trans (ht.below h.low h.bel.size), fun k hk => ?_, h.lowA, h.bx.touch ht h.no.1, h.yb.touch ht h.no.2.1, h.rw_.kept ht.size fun a ha hl => ht.block _ hl fun hk => ?_, Nat.lt_of_lt_of_le h.ltw ht.size, h.bA.touch ht h.no.2.2.2, h.five, ⟨hnew gx h.no.1 h.bx.1, hnew gy h.no.2.1 h.yb.1, hnew gw h.no.2.2.1 h.ltw, hnew gA h.no.2.2.2 h.bA.1⟩, h.ne⟩
  · rcases hf k hk with e | e
    · exact h.low k e
    · have := h.bel.size; omega
  · cases ha
    exact h.no.2.2.1 hk
theorem OneSt.flag (K : BookK I) (h : OneSt I w1 gb gx gy gw gA F S f w) {p : Nat} (hp : p < 5) (d : Int) : OneSt I w1 gb gx gy gw gA F S (f.set p d) (w.setCell ⟨gA, p, none⟩ (.int .i64 d)) := by
  have ht : Touch (fun k => k = gA) w (w.setCell ⟨gA, p, none⟩ (.int .i64 d)) := (Touch.refl (fun k => k = gA) w).set (.inl rfl) _
  refine ⟨K.kept h.bk ht.size fun k hk => ht.block k (K.lt h.bk k hk) fun e => h.no.2.2.2 (e ▸ hk), h.bel.trans (ht.below (fun k hk => by rw [hk]; exact h.lowA) h.bel.size), h.low, h.lowA, h.bx.touch ht fun e => h.ne.1 e.symm, h.yb.touch ht fun e => h.ne.2.1 e.symm, h.rw_.kept ht.size fun a ha hl => ht.block _ hl fun e => ?_, by simpa using h.ltw, ?_, by rw [List.length_set]; exact h.five, h.no, h.ne⟩
  · cases ha
    exact h.ne.2.2 e.symm
  · rw [i64s_set]
    exact h.bA.set (by rw [i64s_length, h.five]; exact hp)
end
theorem mC_ok {B c : List Int} {d : Int} (hB : I64s B) (hd : I64 d) (hc : I64s c) : MsgOk (mC B d c) := ⟨by show I64 6; unfold I64; omega, by show I64 2; unfold I64; omega, by show I64 3; unfold I64; omega, i64_zero, i64_zero, i64_zero, fun x h => by simp [mC, zeroM] at h, i64_zero, i64_zero, fun x h => by simp [mC, zeroM] at h, fun x h => by simp [mC, zeroM] at h, by show I64 1; unfold I64; omega, by show I64 1; unfold I64; omega, hB, fun x h => by simp [mC, zeroM] at h, hd, hc, fun x h => by simp [mC, zeroM] at h⟩
theorem mC_in {w : World} {A A2 : Option Addr} {n cc n2 c2 : Nat} {B c : List Int} {d : Int} (h1 : B.length = n) (h2 : Rd w A (i64s B)) (h3 : n ≤ cc) (h4 : cc ≤ maxLen) (k1 : c.length = n2) (k2 : Rd w A2 (i64s c)) (k3 : n2 ≤ c2) (k4 : c2 ≤ maxLen) : MsgIn w (mC B d c) (mCA A n cc A2 n2 c2) := by
  have z := msgIn_zero w
  exact ⟨z.zL, z.rL, z.kL, z.xL, z.zhB, z.rhB, z.khB, z.xhB, z.zhP, z.rhP, z.khP, z.xhP, h1, h2, h3, h4, z.zcP, z.rcP, z.kcP, z.xcP, k1, k2, k3, k4, z.zD, z.rD, z.kD, z.xD⟩
theorem mC_few {A A2 : Option Addr} {n cc n2 c2 : Nat} (h1 : n ≤ 1000000) (h2 : n2 ≤ 1000000) : MsgFew 1000000 (mCA A n cc A2 n2 c2) := ⟨Nat.zero_le _, Nat.zero_le _, Nat.zero_le _, h1, Nat.zero_le _, h2, Nat.zero_le _⟩
/-- which of the two are real, as a number -/
def nv (a b : Bool) : Int := (if a then 1 else 0) + (if b then 2 else 0)

end Go.Proofs.Ytcfnomnhameleaa
