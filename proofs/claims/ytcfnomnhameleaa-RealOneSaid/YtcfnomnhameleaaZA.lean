/-
  Slices as lists: a slice that reads as cells, a row that the call owns, and append, make and cut in these words. Of no program.
-/
import Derived.WalkKit
import Derived.Below
import Derived.Deep.Draws
import Derived.Deep.AppendLies
import Derived.Lib.AppendStr
import Derived.Lib.ConvBytes
import Derived.Lib.Hide
import Derived.Deep.RegionHeld3
import Derived.Deep.QuietTactic
import Derived.BigQuiet
import Derived.OneCell
import Derived.Test.YtcfnomnhameleaaRows
import Derived.ProofKit
import Derived.OpenShut
import Derived.SliceStrings
import Derived.ChangeSlices
import Derived.Deep.Slices
import Derived.Deep.Fields
import Derived.ChangeOld
import Derived.Carry
import Derived.SizedLaws
namespace Go.Proofs.Ytcfnomnhameleaa
open Go.RowKit

/-- the cells that a slice's address shows -/
def Rd (w : World) (A : Option Addr) (xs : List Value) : Prop :=
  xs ≠ [] → ∃ b off, A = some ⟨b, off, none⟩ ∧ b < w.heap.size ∧ ∀ i v, xs[i]? = some v → w.cell? ⟨b, off + i, none⟩ = some v

section
variable {w w' : World} {A : Option Addr} {xs : List Value} {B : Nat} {e : TypeId} {v : Value} {n : Nat}

theorem Rd.nil (w : World) (A : Option Addr) : Rd w A [] := fun h => absurd rfl h
theorem Rd.below (h : Rd w A xs) (hb : Below w.heap.size w w') : Rd w' A xs := fun hx => by
  obtain ⟨b, off, e, hl, hc⟩ := h hx
  exact ⟨b, off, e, Nat.lt_of_lt_of_le hl hb.size, fun i v hv => (hb.cell (p := ⟨b, off + i, none⟩) hl).trans (hc i v hv)⟩
theorem Rd.drewN (h : Rd w A xs) (k : Nat) : Rd (w.drewN k) A xs := h
theorem Rd.alloc (h : Rd w A xs) (o : Obj) : Rd (w.alloc o) A xs := h.below ((Below.refl _ _).alloc (Nat.le_refl _) o)
/-- the address, and the cell at an index -/
theorem Rd.open_ (h : Rd w A xs) (hx : 0 < xs.length) : ∃ b off, A = some ⟨b, off, none⟩ ∧ b < w.heap.size ∧ ∀ i v, xs[i]? = some v → w.cell? ⟨b, off + i, none⟩ = some v :=
  h (fun e => by rw [e] at hx; exact absurd hx (by decide))
theorem Rd.cut (h : Rd w A xs) {k c : Nat} (hc : xs.length ≤ c) :
    Rd w (if c = k then A else A.map (·.add k)) (xs.drop k) := fun hx => by
  have hl : k < xs.length := by
    rcases Nat.lt_or_ge k xs.length with h' | h'
    · exact h'
    · exact absurd (List.drop_eq_nil_of_le h') hx
  obtain ⟨b, off, rfl, hb, hcell⟩ := h.open_ (by omega)
  rw [if_neg (by omega)]
  refine ⟨b, off + k, ?_, hb, fun i v hv => ?_⟩
  · simp [Addr.add_lit]
  · rw [Nat.add_assoc]
    exact hcell (k + i) v (by rw [← hv, List.getElem?_drop])

/-- what a row that is owned looks like -/
theorem own_slice (h : w.ownsRow B e 1 v n xs) : ∃ A c, v = .slice A xs.length c ∧ n = xs.length ∧ xs.length ≤ c ∧ c ≤ maxLen ∧ Rd w A xs ∧ (∀ a, A = some a → B ≤ a.block) := by
  have hl := h.1
  rcases h.2 with ⟨rfl, h0⟩ | ⟨g, cap, cur, rfl, hb, hg, hnc, hcm, hcs, ht⟩
  · have hx : xs = [] := List.eq_nil_of_length_eq_zero (by omega)
    subst hx
    exact ⟨none, 0, rfl, by omega, by simp, by simp [maxLen], Rd.nil _ _, fun a ha => by cases ha⟩
  · have hn : n = xs.length := by omega
    subst hn
    refine ⟨_, cap, rfl, rfl, hnc, hcm, fun _ => ⟨g, 0, rfl, ?_, fun i u hu => ?_⟩, fun a ha => by cases ha; exact hb⟩
    · rcases Nat.lt_or_ge g w.heap.size with h' | h'
      · exact h'
      · rw [Array.getElem?_eq_none h'] at hg; cases hg
    · have := h.cells (g := g) rfl i u hu
      rwa [Addr.add_lit] at this

theorem own_val (h : w.ownsRow B e 1 v n xs) : ∃ A c, v = .slice A n c ∧ n ≤ c ∧ c ≤ maxLen ∧ Rd w A xs ∧ (∀ a, A = some a → B ≤ a.block) ∧ xs.length = n := by
  obtain ⟨A, c, hv, hn, h1, h2, h3, h4⟩ := own_slice h
  rw [← hn] at hv h1
  exact ⟨A, c, hv, h1, h2, h3, h4, hn.symm⟩

theorem own_below (h : w.ownsRow B e 1 v n xs) (hb : Below w.heap.size w w') : w'.ownsRow B e 1 v n xs := by
  refine ⟨h.1, ?_⟩
  rcases h.2 with h0 | ⟨g, cap, cur, hv, hB, hg, h1, h2, h3, h4⟩
  · exact .inl h0
  · have hlt : g < w.heap.size := by
      rcases Nat.lt_or_ge g w.heap.size with h' | h'
      · exact h'
      · rw [Array.getElem?_eq_none h'] at hg; cases hg
    exact .inr ⟨g, cap, cur, hv, hB, (hb.block g hlt).trans hg, h1, h2, h3, h4⟩
theorem own_more {B' : Nat} (h : w.ownsRow B e 1 v n xs) (hB : B' ≤ B) : w.ownsRow B' e 1 v n xs := by
  refine ⟨h.1, ?_⟩
  rcases h.2 with h0 | ⟨g, cap, cur, hv, hb, hg, h1, h2, h3, h4⟩
  · exact .inl h0
  · exact .inr ⟨g, cap, cur, hv, Nat.le_trans hB hb, hg, h1, h2, h3, h4⟩
theorem own_cast {n' : Nat} (h : w.ownsRow B e 1 v n xs) (hn : n = n') : w.ownsRow B e 1 v n' xs := hn ▸ h
theorem own_conv {ys : List Value} {n' : Nat} (h : w.ownsRow B e 1 v n xs) (hx : xs = ys) (hn : n = n') : w.ownsRow B e 1 v n' ys := hx ▸ hn ▸ h

theorem below_own {a : World} (h : Below B a w) (ho : w.ownsRow B e 1 v n xs) (hg : w.grownBy w' v.ownBlock) (hB : B ≤ w.heap.size) : Below B a w' :=
  h.grown hg hB fun k hk => (ho.lt k hk).1

theorem own_n (h : w.ownsRow B e 1 v n xs) (k : Nat) : (w.drewN k).ownsRow B e 1 v n xs := h
theorem below_n {a : World} (h : Below B a w) (k : Nat) : Below B a (w.drewN k) := ⟨h.os, h.tape, h.output, h.size, h.block⟩
end

theorem ret_bool {a b : Bool} (h : a = b) : Ending.returned (.bool a) = .returned (.bool b) := by rw [h]
theorem ret_int {k : IntKind} {a b : Int} (h : a = b) : Ending.returned (.int k a) = .returned (.int k b) := by rw [h]

/-! ### what a call leaves -/
/-- a new list, and nothing below B has turned -/
def Made (B : Nat) (e : TypeId) (w : World) (xs : List Value) (en : Ending) (w' : World) : Prop :=
  ∃ v, en = .returned v ∧ w'.ownsRow B e 1 v xs.length xs ∧ Below B w w'
/-- the same with an error's number beside it -/
def Made2 (B : Nat) (e : TypeId) (w : World) (xs : List Value) (r : Value) (en : Ending) (w' : World) : Prop :=
  ∃ v, en = .returned (.tuple #[v, r]) ∧ w'.ownsRow B e 1 v xs.length xs ∧ Below B w w'
/-- just this, and nothing below B has turned -/
def Tells (B : Nat) (w : World) (v : Value) (en : Ending) (w' : World) : Prop := en = .returned v ∧ Below B w w'

/-! ### append -/
section
variable {P : Program} (w : World)

theorem wpList_app_one {ops : Array Oper} {rest : List Oper} {o : Oper} {a : Act} {Q : Exit → Act → World → Prop} (hgd : o.guard = none) (s x : Operand) (t : TypeId)
    (ho : o.op = .call { callee := .builtin .append, args := #[s, x], argTypes := #[t, t] })
    (B : Nat) (e : TypeId) (z : Value) (bytes : Nat) (ht : P.underlying t = some (.slice e)) (hinfo : (P.info? e).map (fun i => (i.zero, i.size, i.bytes)) = some (some z, 1, bytes)) (hzs : z.cells.size = 1) (hby : bytes ≤ 16)
    (v : Value) (n : Nat) (xs : List Value) (hs : a.eval s = v) (hown : w.ownsRow B e 1 v n xs)
    (g : Nat) (u : Value) (hx : a.eval x = .slice (some ⟨g, 0, none⟩) 1 1) (hc : w.cell? ⟨g, 0, none⟩ = some u) (h1 : u.oneCell' = true)
    (hn : n + 1 ≤ 1099511627776) (hB : B ≤ w.heap.size)
    (h : ∀ v' w', w'.ownsRow B e 1 v' (n + 1) (xs ++ [u]) → Below B w w' → wpList P ops Q rest (a.put o.dst v') w') : wpList P ops Q (o :: rest) a w := by
  obtain ⟨i, hi, hz, hsize, hbytes⟩ := info_parts hinfo
  refine wpList_append_own (P := P) w hgd s x t ho B e i z 1 bytes ht hi hz hsize hbytes hzs (by decide) v n xs hs hown ⟨g, 0, none⟩ 1 1 [u] hx rfl ?_ ?_ (by unfold maxLen; omega) ?_ hB ?_
  · intro j y hj
    match j with
    | 0 =>
      simp only [List.getElem?_cons_zero, Option.some.injEq] at hj
      subst hj
      rw [Addr.add_lit]
      exact hc
    | j + 1 => simp at hj
  · intro y hy
    simp only [List.mem_singleton] at hy
    subst hy
    exact h1
  · have := Nat.mul_le_mul hn hby
    omega
  · intro v' w' hown' hg _
    exact h v' w' hown' (below_own (Below.refl _ _) hown hg hB)

theorem wpList_app_list {ops : Array Oper} {rest : List Oper} {o : Oper} {a : Act} {Q : Exit → Act → World → Prop} (hgd : o.guard = none) (s x : Operand) (t : TypeId)
    (ho : o.op = .call { callee := .builtin .append, args := #[s, x], argTypes := #[t, t] })
    (B : Nat) (e : TypeId) (z : Value) (bytes : Nat) (ht : P.underlying t = some (.slice e)) (hinfo : (P.info? e).map (fun i => (i.zero, i.size, i.bytes)) = some (some z, 1, bytes)) (hzs : z.cells.size = 1) (hby : bytes ≤ 16)
    (v : Value) (n : Nat) (xs : List Value) (hs : a.eval s = v) (hown : w.ownsRow B e 1 v n xs)
    (A : Option Addr) (m c : Nat) (news : List Value) (hx : a.eval x = .slice A m c) (hm : m = news.length) (hr : Rd w A news) (h1 : ∀ u ∈ news, u.oneCell' = true)
    (hn : n + m ≤ 1099511627776) (hB : B ≤ w.heap.size)
    (h : ∀ v' w', w'.ownsRow B e 1 v' (n + m) (xs ++ news) → Below B w w' → wpList P ops Q rest (a.put o.dst v') w') : wpList P ops Q (o :: rest) a w := by
  obtain ⟨i, hi, hz, hsize, hbytes⟩ := info_parts hinfo
  cases A with
  | none =>
    have hn0 : news = [] := by
      rcases Nat.eq_zero_or_pos news.length with h0 | h0
      · exact List.eq_nil_of_length_eq_zero h0
      · obtain ⟨b, off, he, _⟩ := hr.open_ h0
        cases he
    subst hn0
    subst hm
    have hrun : (Builtin.append_ #[t, t] o.type #[v, .slice none 0 c]).run P w = .ok v w := by
      rcases hown.2 with ⟨rfl, rfl⟩ | ⟨g, cap, cur, rfl, _, _, hnc, _⟩
      · simp [Builtin.append_, run_underlying ht, sizeOf, typeInfo, hi, Builtin.lenOf, Builtin.firstCells]
      · simp [Builtin.append_, run_underlying ht, sizeOf, typeInfo, hi, Builtin.lenOf, Builtin.firstCells, hnc, storeCells]
    refine wpList_plain hgd fun K hK => ?_
    unfold Oper.wp execOp
    simp only [ho, resolve, invoke, builtin, Sem.run_bind, Sem.run_pure, Result.andThen_ok, List.map_toArray, List.map_cons, List.map_nil, hs, hx, List.length_nil, hrun]
    exact hK _ _ (h v w (by simpa using hown) (Below.refl _ _))
  | some ad =>
    subst hm
    refine wpList_append_own (P := P) w hgd s x t ho B e i z 1 bytes ht hi hz hsize hbytes hzs (by decide) v n xs hs hown ad news.length c news hx (by simp) ?_ h1 (by unfold maxLen; omega) ?_ hB ?_
    · intro j y hj
      have hl : j < news.length := by
        rcases Nat.lt_or_ge j news.length with h' | h'
        · exact h'
        · rw [List.getElem?_eq_none h'] at hj; cases hj
      obtain ⟨b, off, he, _, hc⟩ := hr.open_ (by omega)
      cases he
      rw [Addr.add_lit]
      exact hc j y hj
    · have := Nat.mul_le_mul hn hby
      omega
    · intro v' w' hown' hg _
      exact h v' w' hown' (below_own (Below.refl _ _) hown hg hB)

theorem wpList_app_text {ops : Array Oper} {rest : List Oper} {o : Oper} {a : Act} {Q : Exit → Act → World → Prop} (hgd : o.guard = none) (s x : Operand) (t u : TypeId)
    (ho : o.op = .call { callee := .builtin .append, args := #[s, x], argTypes := #[t, u] })
    (B : Nat) (e : TypeId) (ht : P.underlying t = some (.slice e)) (hu : P.underlying u = some .string) (hinfo : (P.info? e).map (fun i => (i.zero, i.size, i.bytes)) = some (some (.int .u8 0), 1, 1))
    (v : Value) (n : Nat) (xs : List Value) (hs : a.eval s = v) (hown : w.ownsRow B e 1 v n xs) (str : ByteArray) (hx : a.eval x = .string str)
    (hn : n + str.size ≤ 1099511627776) (hB : B ≤ w.heap.size)
    (h : ∀ v' w', w'.ownsRow B e 1 v' (n + str.size) (xs ++ Lib.strCells str) → Below B w w' → wpList P ops Q rest (a.put o.dst v') w') : wpList P ops Q (o :: rest) a w := by
  obtain ⟨i, hi, hz, hsize, hbytes⟩ := info_parts hinfo
  refine Lib.wpList_append_own_string (P := P) w hgd s x t u ho B e i ht hu hi hz hsize hbytes v n xs hs hown str hx (by unfold maxLen; omega) (by omega) hB ?_
  intro v' w' hown' hg _
  exact h v' w' hown' (below_own (Below.refl _ _) hown hg hB)

/-- make([]T, 0, n) -/
theorem wpList_make_room {ops : Array Oper} {rest : List Oper} {o : Oper} {a : Act} {Q : Exit → Act → World → Prop}
    (hg : o.guard = none) (l c : Operand) (t : TypeId) (hop : o.op = Op.makeSlice t l c)
    (B : Nat) (e : TypeId) (z : Value) (bytes : Nat) (h1 : P.underlying t = some (.slice e)) (hinfo : (P.info? e).map (fun i => (i.zero, i.size, i.bytes)) = some (some z, 1, bytes)) (hby : bytes ≤ 16)
    (n : Nat) (hl : a.eval l = .int .i64 0) (hc : a.eval c = .int .i64 (n : Int)) (hn : n ≤ 1099511627776) (hB : B ≤ w.heap.size)
    (hK : ∀ v w', w'.ownsRow B e 1 v 0 [] → Below B w w' → wpList P ops Q rest (a.put o.dst v) w') :
    wpList P ops Q (o :: rest) a w := by
  obtain ⟨i, hi, hz, hsize, hbytes⟩ := info_parts hinfo
  refine wpList_make_own (P := P) w hg l c t hop B e i z 1 h1 hi hz hsize .i64 .i64 n n hl hc rfl ?_ (by unfold maxLen; omega) hB ?_
  · rw [hbytes]
    have := Nat.mul_le_mul hby hn
    omega
  · intro w' hown hgr
    exact hK _ w' hown (below_own (v := .slice none 0 0) (xs := []) (n := 0) (e := e) (Below.refl _ _) (World.ownsRow_nil _ _ _ _) hgr hB)
end

/-- []byte(s) -/
theorem text_below (w : World) (e : TypeId) (s : ByteArray) : Below w.heap.size w (Lib.bytesWorld w e s) :=
  ⟨rfl, rfl, rfl, by rw [Lib.bytesWorld_size]; omega, fun k hk => Lib.bytesWorld_at_old w e s k hk⟩
theorem strCells_at (s : ByteArray) (i : Nat) (v : Value) (h : (Lib.strCells s)[i]? = some v) : i < s.size ∧ v = .int .u8 (s.data.toList.getD i 0).toNat := by
  have hl : i < (Lib.strCells s).length := by
    rcases Nat.lt_or_ge i (Lib.strCells s).length with h' | h'
    · exact h'
    · rw [List.getElem?_eq_none h'] at h; cases h
  rw [Lib.strCells_length] at hl
  refine ⟨hl, ?_⟩
  have hl' : i < s.data.toList.length := by simpa using hl
  simp only [Lib.strCells, List.getElem?_map, List.getElem?_eq_getElem hl', Option.map_some, Option.some.injEq] at h
  rw [← h, List.getD_eq_getElem?_getD, List.getElem?_eq_getElem hl']
  rfl
theorem text_rd (w : World) (e : TypeId) (s : ByteArray) : Rd (Lib.bytesWorld w e s) (some ⟨w.heap.size, 0, none⟩) (Lib.strCells s) := fun _ =>
  ⟨w.heap.size, 0, rfl, by rw [Lib.bytesWorld_size]; omega, fun i v hv => by
    obtain ⟨hi, rfl⟩ := strCells_at s i v hv
    rw [Nat.zero_add]
    exact Lib.bytesWorld_cell w e s i hi⟩

/-- numbers as cells -/
def u8s (l : List Int) : List Value := l.map (Value.int .u8)
def i64s (l : List Int) : List Value := l.map (Value.int .i64)
def strs (l : List ByteArray) : List Value := l.map Value.string
theorem u8s_length (l : List Int) : (u8s l).length = l.length := by simp [u8s]
theorem i64s_length (l : List Int) : (i64s l).length = l.length := by simp [i64s]
theorem strs_length (l : List ByteArray) : (strs l).length = l.length := by simp [strs]
theorem u8s_append (a b : List Int) : u8s (a ++ b) = u8s a ++ u8s b := by simp [u8s]
theorem i64s_append (a b : List Int) : i64s (a ++ b) = i64s a ++ i64s b := by simp [i64s]
theorem strs_append (a b : List ByteArray) : strs (a ++ b) = strs a ++ strs b := by simp [strs]
theorem u8s_one (l : List Int) : ∀ u ∈ u8s l, u.oneCell' = true := fun u hu => by
  obtain ⟨_, _, rfl⟩ := List.mem_map.1 hu; rfl
theorem i64s_one (l : List Int) : ∀ u ∈ i64s l, u.oneCell' = true := fun u hu => by
  obtain ⟨_, _, rfl⟩ := List.mem_map.1 hu; rfl
theorem strs_one (l : List ByteArray) : ∀ u ∈ strs l, u.oneCell' = true := fun u hu => by
  obtain ⟨_, _, rfl⟩ := List.mem_map.1 hu; rfl
theorem u8s_at {l : List Int} {i : Nat} (h : i < l.length) : (u8s l)[i]? = some (.int .u8 (l[i]?.getD 0)) := by simp [u8s, h]
theorem i64s_at {l : List Int} {i : Nat} (h : i < l.length) : (i64s l)[i]? = some (.int .i64 (l[i]?.getD 0)) := by simp [i64s, h]
theorem strs_at {l : List ByteArray} {i : Nat} (h : i < l.length) : (strs l)[i]? = some (.string (l[i]?.getD ByteArray.empty)) := by simp [strs, h]

/-- a text's bytes -/
def byt (s : ByteArray) : List Int := s.data.toList.map fun b => (b.toNat : Int)
theorem byt_cells (s : ByteArray) : u8s (byt s) = Lib.strCells s := by
  simp only [u8s, byt, Lib.strCells, List.map_map]; rfl
theorem byt_length (s : ByteArray) : (byt s).length = s.size := by simp [byt]
theorem byt_inj {s t : ByteArray} (h : byt s = byt t) : s = t := by
  have key : ∀ (a b : List UInt8), a.map (fun c => ((c.toNat : Nat) : Int)) = b.map (fun c => ((c.toNat : Nat) : Int)) → a = b := by
    intro a
    induction a with
    | nil => intro b hb; cases b with
      | nil => rfl
      | cons _ _ => simp at hb
    | cons x a ih => intro b hb; cases b with
      | nil => simp at hb
      | cons y b =>
        simp only [List.map_cons, List.cons.injEq] at hb
        have hxy : x.toNat = y.toNat := by omega
        rw [UInt8.toNat_inj.1 hxy, ih b hb.2]
  have := key _ _ h
  cases s; cases t
  congr 1
  exact Array.toList_inj.1 this

end Go.Proofs.Ytcfnomnhameleaa
/-
  append of a list, at a step of a statement whose order is open; a new row reads as it was made. Of no program.
-/
namespace Go.Proofs.Ytcfnomnhameleaa
open Go.RowKit

section
variable {P : Program} (w : World)
theorem wp_app_list {o : Oper} {a : Act} {K : Act → World → Prop} {Q : Exit → Act → World → Prop} (s x : Operand) (t : TypeId)
    (ho : o.op = .call { callee := .builtin .append, args := #[s, x], argTypes := #[t, t] })
    (B : Nat) (e : TypeId) (z : Value) (bytes : Nat) (ht : P.underlying t = some (.slice e)) (hinfo : (P.info? e).map (fun i => (i.zero, i.size, i.bytes)) = some (some z, 1, bytes)) (hzs : z.cells.size = 1) (hby : bytes ≤ 16)
    (v : Value) (n : Nat) (xs : List Value) (hs : a.eval s = v) (hown : w.ownsRow B e 1 v n xs)
    (A : Option Addr) (m c : Nat) (news : List Value) (hx : a.eval x = .slice A m c) (hm : m = news.length) (hr : Rd w A news) (h1 : ∀ u ∈ news, u.oneCell' = true)
    (hn : n + m ≤ 1099511627776) (hB : B ≤ w.heap.size)
    (h : ∀ v' w', w'.ownsRow B e 1 v' (n + m) (xs ++ news) → Below B w w' → K (a.put o.dst v') w') : o.wp P a w K Q := by
  obtain ⟨i, hi, hz, hsize, hbytes⟩ := info_parts hinfo
  cases A with
  | none =>
    have hn0 : news = [] := by
      rcases Nat.eq_zero_or_pos news.length with h0 | h0
      · exact List.eq_nil_of_length_eq_zero h0
      · obtain ⟨b, off, he, _⟩ := hr.open_ h0
        cases he
    subst hn0
    subst hm
    have hrun : (Builtin.append_ #[t, t] o.type #[v, .slice none 0 c]).run P w = .ok v w := by
      rcases hown.2 with ⟨rfl, rfl⟩ | ⟨g, cap, cur, rfl, _, _, hnc, _⟩
      · simp [Builtin.append_, run_underlying ht, sizeOf, typeInfo, hi, Builtin.lenOf, Builtin.firstCells]
      · simp [Builtin.append_, run_underlying ht, sizeOf, typeInfo, hi, Builtin.lenOf, Builtin.firstCells, hnc, storeCells]
    unfold Oper.wp execOp
    simp only [ho, resolve, invoke, builtin, Sem.run_bind, Sem.run_pure, Result.andThen_ok, List.map_toArray, List.map_cons, List.map_nil, hs, hx, List.length_nil, hrun]
    exact h v w (by simpa using hown) (Below.refl _ _)
  | some ad =>
    subst hm
    refine wp_append_own (P := P) w s x t ho B e i z 1 bytes ht hi hz hsize hbytes hzs (by decide) v n xs hs hown ad news.length c news hx (by simp) ?_ h1 (by unfold maxLen; omega) ?_ hB ?_
    · intro j y hj
      have hl : j < news.length := by
        rcases Nat.lt_or_ge j news.length with h' | h'
        · exact h'
        · rw [List.getElem?_eq_none h'] at hj; cases hj
      obtain ⟨b, off, he, _, hc⟩ := hr.open_ (by omega)
      cases he
      rw [Addr.add_lit]
      exact hc j y hj
    · have := Nat.mul_le_mul hn hby
      omega
    · intro v' w' hown' hg _
      exact h v' w' hown' (below_own (Below.refl _ _) hown hg hB)

theorem step_app_list {ops : Array Oper} {o : Oper} {a : Act} {K : Act → World → Prop} {Q : Exit → Act → World → Prop} {E : Prop} (hgd : o.guard = none) (s x : Operand) (t : TypeId)
    (ho : o.op = .call { callee := .builtin .append, args := #[s, x], argTypes := #[t, t] })
    (B : Nat) (e : TypeId) (z : Value) (bytes : Nat) (ht : P.underlying t = some (.slice e)) (hinfo : (P.info? e).map (fun i => (i.zero, i.size, i.bytes)) = some (some z, 1, bytes)) (hzs : z.cells.size = 1) (hby : bytes ≤ 16)
    (v : Value) (n : Nat) (xs : List Value) (hs : a.eval s = v) (hown : w.ownsRow B e 1 v n xs)
    (A : Option Addr) (m c : Nat) (news : List Value) (hx : a.eval x = .slice A m c) (hm : m = news.length) (hr : Rd w A news) (h1 : ∀ u ∈ news, u.oneCell' = true)
    (hn : n + m ≤ 1099511627776) (hB : B ≤ w.heap.size)
    (h : ∀ v' w', w'.ownsRow B e 1 v' (n + m) (xs ++ news) → Below B w w' → K (a.put o.dst v') w') : if Region.wanted o (yielded ops a.tmps) = true then Oper.wp P o a w K Q else E := by
  have hw : Region.wanted o (yielded ops a.tmps) = true := by simp [Region.wanted, hgd]
  rw [if_pos hw]
  exact wp_app_list w s x t ho B e z bytes ht hinfo hzs hby v n xs hs hown A m c news hx hm hr h1 hn hB h
end

/-! the same, and that only the row itself may have turned -/
section
variable {P : Program} (w : World)
theorem wp_app_far {o : Oper} {a : Act} {K : Act → World → Prop} {Q : Exit → Act → World → Prop} (s x : Operand) (t : TypeId)
    (ho : o.op = .call { callee := .builtin .append, args := #[s, x], argTypes := #[t, t] })
    (B : Nat) (e : TypeId) (z : Value) (bytes : Nat) (ht : P.underlying t = some (.slice e)) (hinfo : (P.info? e).map (fun i => (i.zero, i.size, i.bytes)) = some (some z, 1, bytes)) (hzs : z.cells.size = 1) (hby : bytes ≤ 16)
    (v : Value) (n : Nat) (xs : List Value) (hs : a.eval s = v) (hown : w.ownsRow B e 1 v n xs)
    (A : Option Addr) (m c : Nat) (news : List Value) (hx : a.eval x = .slice A m c) (hm : m = news.length) (hr : Rd w A news) (h1 : ∀ u ∈ news, u.oneCell' = true)
    (hn : n + m ≤ 1099511627776) (hB : B ≤ w.heap.size)
    (h : ∀ v' w', w'.ownsRow B e 1 v' (n + m) (xs ++ news) → Below B w w' → w.grownBy w' v.ownBlock → K (a.put o.dst v') w') : o.wp P a w K Q := by
  obtain ⟨i, hi, hz, hsize, hbytes⟩ := info_parts hinfo
  cases A with
  | none =>
    have hn0 : news = [] := by
      rcases Nat.eq_zero_or_pos news.length with h0 | h0
      · exact List.eq_nil_of_length_eq_zero h0
      · obtain ⟨b, off, he, _⟩ := hr.open_ h0
        cases he
    subst hn0
    subst hm
    have hrun : (Builtin.append_ #[t, t] o.type #[v, .slice none 0 c]).run P w = .ok v w := by
      rcases hown.2 with ⟨rfl, rfl⟩ | ⟨g, cap, cur, rfl, _, _, hnc, _⟩
      · simp [Builtin.append_, run_underlying ht, sizeOf, typeInfo, hi, Builtin.lenOf, Builtin.firstCells]
      · simp [Builtin.append_, run_underlying ht, sizeOf, typeInfo, hi, Builtin.lenOf, Builtin.firstCells, hnc, storeCells]
    unfold Oper.wp execOp
    simp only [ho, resolve, invoke, builtin, Sem.run_bind, Sem.run_pure, Result.andThen_ok, List.map_toArray, List.map_cons, List.map_nil, hs, hx, List.length_nil, hrun]
    exact h v w (by simpa using hown) (Below.refl _ _) ⟨rfl, rfl, rfl, Nat.le_refl _, fun _ _ _ => rfl⟩
  | some ad =>
    subst hm
    refine wp_append_own (P := P) w s x t ho B e i z 1 bytes ht hi hz hsize hbytes hzs (by decide) v n xs hs hown ad news.length c news hx (by simp) ?_ h1 (by unfold maxLen; omega) ?_ hB ?_
    · intro j y hj
      have hl : j < news.length := by
        rcases Nat.lt_or_ge j news.length with h' | h'
        · exact h'
        · rw [List.getElem?_eq_none h'] at hj; cases hj
      obtain ⟨b, off, he, _, hc⟩ := hr.open_ (by omega)
      cases he
      rw [Addr.add_lit]
      exact hc j y hj
    · have := Nat.mul_le_mul hn hby
      omega
    · intro v' w' hown' hg _
      exact h v' w' hown' (below_own (Below.refl _ _) hown hg hB) hg

theorem step_app_far {ops : Array Oper} {o : Oper} {a : Act} {K : Act → World → Prop} {Q : Exit → Act → World → Prop} {E : Prop} (hgd : o.guard = none) (s x : Operand) (t : TypeId)
    (ho : o.op = .call { callee := .builtin .append, args := #[s, x], argTypes := #[t, t] })
    (B : Nat) (e : TypeId) (z : Value) (bytes : Nat) (ht : P.underlying t = some (.slice e)) (hinfo : (P.info? e).map (fun i => (i.zero, i.size, i.bytes)) = some (some z, 1, bytes)) (hzs : z.cells.size = 1) (hby : bytes ≤ 16)
    (v : Value) (n : Nat) (xs : List Value) (hs : a.eval s = v) (hown : w.ownsRow B e 1 v n xs)
    (A : Option Addr) (m c : Nat) (news : List Value) (hx : a.eval x = .slice A m c) (hm : m = news.length) (hr : Rd w A news) (h1 : ∀ u ∈ news, u.oneCell' = true)
    (hn : n + m ≤ 1099511627776) (hB : B ≤ w.heap.size)
    (h : ∀ v' w', w'.ownsRow B e 1 v' (n + m) (xs ++ news) → Below B w w' → w.grownBy w' v.ownBlock → K (a.put o.dst v') w') : if Region.wanted o (yielded ops a.tmps) = true then Oper.wp P o a w K Q else E := by
  have hw : Region.wanted o (yielded ops a.tmps) = true := by simp [Region.wanted, hgd]
  rw [if_pos hw]
  exact wp_app_far w s x t ho B e z bytes ht hinfo hzs hby v n xs hs hown A m c news hx hm hr h1 hn hB h
end

theorem Rd.drew {w : World} {A : Option Addr} {xs : List Value} (h : Rd w A xs) : Rd w.drew A xs := h
theorem rd_new (w : World) (cs : List Value) (t : TypeId) : Rd (w.alloc (.cells cs.toArray t)) (some ⟨w.heap.size, 0, none⟩) cs := fun _ =>
  ⟨w.heap.size, 0, rfl, by simp, fun i v hv => by rw [Nat.zero_add, World.cell?_alloc_at _ _ _ _ rfl]; simpa using hv⟩

end Go.Proofs.Ytcfnomnhameleaa
/-
  Rows whose elements are of several cells: what the call owns, and append of one element. Of no program.
-/
namespace Go.Proofs.Ytcfnomnhameleaa
open Go.RowKit

section
variable {w w' : World} {A : Option Addr} {xs : List Value} {B : Nat} {e : TypeId} {v : Value} {n s : Nat}

theorem ownS_slice (h : w.ownsRow B e s v n xs) : ∃ A c, v = .slice A n c ∧ n ≤ c ∧ c ≤ maxLen ∧ Rd w A xs ∧ (∀ a, A = some a → B ≤ a.block) ∧ xs.length = n * s := by
  have hl := h.1
  rcases h.2 with ⟨rfl, h0⟩ | ⟨g, cap, cur, rfl, hb, hg, hnc, hcm, hcs, ht⟩
  · subst h0
    have hx : xs = [] := List.eq_nil_of_length_eq_zero (by simpa using hl)
    subst hx
    exact ⟨none, 0, rfl, by omega, by simp [maxLen], Rd.nil _ _, (fun a ha => by cases ha), hl⟩
  · refine ⟨_, cap, rfl, hnc, hcm, fun _ => ⟨g, 0, rfl, ?_, fun i u hu => ?_⟩, (fun a ha => by cases ha; exact hb), hl⟩
    · rcases Nat.lt_or_ge g w.heap.size with h' | h'
      · exact h'
      · rw [Array.getElem?_eq_none h'] at hg; cases hg
    · have := h.cells (g := g) rfl i u hu
      rwa [Addr.add_lit] at this

theorem ownS_below (h : w.ownsRow B e s v n xs) (hb : Below w.heap.size w w') : w'.ownsRow B e s v n xs := by
  refine ⟨h.1, ?_⟩
  rcases h.2 with h0 | ⟨g, cap, cur, hv, hB, hg, h1, h2, h3, h4⟩
  · exact .inl h0
  · have hlt : g < w.heap.size := by
      rcases Nat.lt_or_ge g w.heap.size with h' | h'
      · exact h'
      · rw [Array.getElem?_eq_none h'] at hg; cases hg
    exact .inr ⟨g, cap, cur, hv, hB, (hb.block g hlt).trans hg, h1, h2, h3, h4⟩
theorem ownS_more {B' : Nat} (h : w.ownsRow B e s v n xs) (hB : B' ≤ B) : w.ownsRow B' e s v n xs := by
  refine ⟨h.1, ?_⟩
  rcases h.2 with h0 | ⟨g, cap, cur, hv, hb, hg, h1, h2, h3, h4⟩
  · exact .inl h0
  · exact .inr ⟨g, cap, cur, hv, Nat.le_trans hB hb, hg, h1, h2, h3, h4⟩
theorem ownS_conv {ys : List Value} {n' : Nat} (h : w.ownsRow B e s v n xs) (hx : xs = ys) (hn : n = n') : w.ownsRow B e s v n' ys := hx ▸ hn ▸ h
theorem belowS_own {a : World} (h : Below B a w) (ho : w.ownsRow B e s v n xs) (hg : w.grownBy w' v.ownBlock) (hB : B ≤ w.heap.size) : Below B a w' :=
  h.grown hg hB fun k hk => (ho.lt k hk).1
theorem ownS_n (h : w.ownsRow B e s v n xs) (k : Nat) : (w.drewN k).ownsRow B e s v n xs := h
end

/-- a new list of elements of s cells, and nothing below B has turned -/
def MadeS (s B : Nat) (e : TypeId) (w : World) (n : Nat) (xs : List Value) (en : Ending) (w' : World) : Prop :=
  ∃ v, en = .returned v ∧ w'.ownsRow B e s v n xs ∧ Below B w w'

/-- append of one element, which lies in a block of its own -/
theorem wpList_app_elem {P : Program} (w : World) {ops : Array Oper} {rest : List Oper} {o : Oper} {a : Act} {Q : Exit → Act → World → Prop} (hgd : o.guard = none) (s x : Operand) (t : TypeId)
    (ho : o.op = .call { callee := .builtin .append, args := #[s, x], argTypes := #[t, t] })
    (B : Nat) (e : TypeId) (z : Value) (sz bytes : Nat) (ht : P.underlying t = some (.slice e)) (hinfo : (P.info? e).map (fun i => (i.zero, i.size, i.bytes)) = some (some z, sz, bytes)) (hzs : z.cells.size = sz) (hsz : 0 < sz) (hby : bytes ≤ 256)
    (v : Value) (n : Nat) (xs : List Value) (hs : a.eval s = v) (hown : w.ownsRow B e sz v n xs)
    (g : Nat) (us : List Value) (hx : a.eval x = .slice (some ⟨g, 0, none⟩) 1 1) (hu : us.length = sz) (hc : ∀ i u, us[i]? = some u → w.cell? ⟨g, i, none⟩ = some u) (h1 : ∀ u ∈ us, u.oneCell' = true)
    (hn : n + 1 ≤ 68719476736) (hB : B ≤ w.heap.size)
    (h : ∀ v' w', w'.ownsRow B e sz v' (n + 1) (xs ++ us) → Below B w w' → wpList P ops Q rest (a.put o.dst v') w') : wpList P ops Q (o :: rest) a w := by
  obtain ⟨i, hi, hz, hsize, hbytes⟩ := info_parts hinfo
  refine wpList_append_own (P := P) w hgd s x t ho B e i z sz bytes ht hi hz hsize hbytes hzs hsz v n xs hs hown ⟨g, 0, none⟩ 1 1 us hx (by omega) ?_ h1 (by unfold maxLen; omega) ?_ hB ?_
  · intro j y hj
    rw [Addr.add_lit, Nat.zero_add]
    exact hc j y hj
  · have := Nat.mul_le_mul hn hby
    omega
  · intro v' w' hown' hg _
    exact h v' w' hown' (belowS_own (Below.refl _ _) hown hg hB)

theorem ownS_new (w : World) (B : Nat) (e : TypeId) (s n : Nat) (cs : List Value) (hl : cs.length = n * s) (hn : n ≤ maxLen) (hB : B ≤ w.heap.size) : (w.alloc (.cells cs.toArray e)).ownsRow B e s (.slice (some ⟨w.heap.size, 0, none⟩) n n) n cs :=
  ⟨hl, .inr ⟨w.heap.size, n, cs.toArray, rfl, hB, heap_alloc_new w _, Nat.le_refl _, hn, by simpa using hl, by rw [List.toList_toArray]; exact List.take_of_length_le (by omega)⟩⟩
theorem cells_new (w : World) (cs : List Value) (t : TypeId) : ∀ i u, cs[i]? = some u → (w.alloc (.cells cs.toArray t)).cell? ⟨w.heap.size, i, none⟩ = some u := fun i u hu => by
  rw [World.cell?_alloc_at _ _ _ _ rfl]
  simpa using hu
theorem take_next {α : Type} {l : List α} {k : Nat} {x : α} (h : l[k]? = some x) : l.take (k + 1) = l.take k ++ [x] := by
  rw [List.take_add_one, h]; rfl

end Go.Proofs.Ytcfnomnhameleaa
/-
  append of one element of several cells, at a step of a statement whose order is open. Of no program.
-/
namespace Go.Proofs.Ytcfnomnhameleaa
open Go.RowKit

section
variable {P : Program} (w : World)
theorem wp_app_elem {o : Oper} {a : Act} {K : Act → World → Prop} {Q : Exit → Act → World → Prop} (s x : Operand) (t : TypeId)
    (ho : o.op = .call { callee := .builtin .append, args := #[s, x], argTypes := #[t, t] })
    (B : Nat) (e : TypeId) (z : Value) (sz bytes : Nat) (ht : P.underlying t = some (.slice e)) (hinfo : (P.info? e).map (fun i => (i.zero, i.size, i.bytes)) = some (some z, sz, bytes)) (hzs : z.cells.size = sz) (hsz : 0 < sz) (hby : bytes ≤ 256)
    (v : Value) (n : Nat) (xs : List Value) (hs : a.eval s = v) (hown : w.ownsRow B e sz v n xs)
    (g : Nat) (us : List Value) (hx : a.eval x = .slice (some ⟨g, 0, none⟩) 1 1) (hu : us.length = sz) (hc : ∀ i u, us[i]? = some u → w.cell? ⟨g, i, none⟩ = some u) (h1 : ∀ u ∈ us, u.oneCell' = true)
    (hn : n + 1 ≤ 68719476736) (hB : B ≤ w.heap.size)
    (h : ∀ v' w', w'.ownsRow B e sz v' (n + 1) (xs ++ us) → Below B w w' → w.grownBy w' v.ownBlock → K (a.put o.dst v') w') : o.wp P a w K Q := by
  obtain ⟨i, hi, hz, hsize, hbytes⟩ := info_parts hinfo
  refine wp_append_own (P := P) w s x t ho B e i z sz bytes ht hi hz hsize hbytes hzs hsz v n xs hs hown ⟨g, 0, none⟩ 1 1 us hx (by omega) ?_ h1 (by unfold maxLen; omega) ?_ hB ?_
  · intro j y hj
    rw [Addr.add_lit, Nat.zero_add]
    exact hc j y hj
  · have := Nat.mul_le_mul hn hby
    omega
  · intro v' w' hown' hg _
    exact h v' w' hown' (belowS_own (Below.refl _ _) hown hg hB) hg

theorem step_app_elem {ops : Array Oper} {o : Oper} {a : Act} {K : Act → World → Prop} {Q : Exit → Act → World → Prop} {E : Prop} (hgd : o.guard = none) (s x : Operand) (t : TypeId)
    (ho : o.op = .call { callee := .builtin .append, args := #[s, x], argTypes := #[t, t] })
    (B : Nat) (e : TypeId) (z : Value) (sz bytes : Nat) (ht : P.underlying t = some (.slice e)) (hinfo : (P.info? e).map (fun i => (i.zero, i.size, i.bytes)) = some (some z, sz, bytes)) (hzs : z.cells.size = sz) (hsz : 0 < sz) (hby : bytes ≤ 256)
    (v : Value) (n : Nat) (xs : List Value) (hs : a.eval s = v) (hown : w.ownsRow B e sz v n xs)
    (g : Nat) (us : List Value) (hx : a.eval x = .slice (some ⟨g, 0, none⟩) 1 1) (hu : us.length = sz) (hc : ∀ i u, us[i]? = some u → w.cell? ⟨g, i, none⟩ = some u) (h1 : ∀ u ∈ us, u.oneCell' = true)
    (hn : n + 1 ≤ 68719476736) (hB : B ≤ w.heap.size)
    (h : ∀ v' w', w'.ownsRow B e sz v' (n + 1) (xs ++ us) → Below B w w' → w.grownBy w' v.ownBlock → K (a.put o.dst v') w') : if Region.wanted o (yielded ops a.tmps) = true then Oper.wp P o a w K Q else E := by
  have hw : Region.wanted o (yielded ops a.tmps) = true := by simp [Region.wanted, hgd]
  rw [if_pos hw]
  exact wp_app_elem w s x t ho B e z sz bytes ht hinfo hzs hsz hby v n xs hs hown g us hx hu hc h1 hn hB h
end
theorem cells_new_drew (w : World) (cs : List Value) (t : TypeId) : ∀ i u, cs[i]? = some u → (w.alloc (.cells cs.toArray t)).drew.cell? ⟨w.heap.size, i, none⟩ = some u := cells_new w cs t

end Go.Proofs.Ytcfnomnhameleaa
/-
  A statement whose order is open, whose operations read and whose calls may make memory, but each yields one value whatever came ahead of it: walked once. Of no program.
-/
namespace Go.Proofs.Ytcfnomnhameleaa
open Go.RowKit

/-- a world in which nothing that was there has turned -/
structure Calm (w : World) where
  val : World
  ok : Below w.heap.size w val

instance (w : World) : Nonempty (Calm w) := ⟨⟨w, Below.refl _ _⟩⟩

theorem wp_region_calm {P : Program} {id : Nat} {Q : Exit → Act → World → Prop} {a : Act} {w : World} {l : List Oper} (hm : P.follows .mixedOrders = true) (hB : Region.lexB .any l.toArray = true)
    (h : wpQuiet P l.toArray (fun w' => ∃ x : Calm w, w' = x.val) (fun a' => ∀ w', (∃ x : Calm w, w' = x.val) → Q .normal a' w') l a) : (Code.region id l.toArray true).wp P Q a w :=
  wp_region_quiet (C := fun w' => ∃ x : Calm w, w' = x.val) hm hB ⟨⟨_, (Below.refl _ _).drew⟩, rfl⟩ (by simpa using h)

/-- a call's contract, met in any such world -/
theorem calm_tells {P : Program} {f : FuncId} {args : Array Value} {w : World} {x : Calm w} {v : Value} (h : Calls P f args x.val (Tells x.val.heap.size x.val v)) :
    Calls P f args x.val fun e w'' => e = .returned v ∧ ∃ y : Calm w, w'' = y.val :=
  h.mono fun _ w'' ⟨he, hb⟩ => ⟨he, ⟨w'', x.ok.trans (hb.mono x.ok.size)⟩, rfl⟩
theorem calm_same {P : Program} {f : FuncId} {args : Array Value} {w : World} {x : Calm w} {v : Value} (h : Calls P f args x.val fun e w' => e = .returned v ∧ x.val = w') :
    Calls P f args x.val fun e w'' => e = .returned v ∧ ∃ y : Calm w, w'' = y.val :=
  h.mono fun _ _ ⟨he, hw⟩ => ⟨he, x, hw.symm⟩
theorem calm_drew {P : Program} {f : FuncId} {args : Array Value} {w : World} {x : Calm w} {v : Value} (h : Calls P f args x.val fun e w' => e = .returned v ∧ ∃ d, w' = x.val.drewN d) :
    Calls P f args x.val fun e w'' => e = .returned v ∧ ∃ y : Calm w, w'' = y.val :=
  h.mono fun _ w'' ⟨he, d, hw⟩ => ⟨he, ⟨w'', by rw [hw]; exact below_n x.ok d⟩, rfl⟩

end Go.Proofs.Ytcfnomnhameleaa
/-
  Footprints: which blocks a call may turn. Of no program.
-/
namespace Go.Proofs.Ytcfnomnhameleaa
open Go.RowKit

/-- only blocks of F, and new ones, may have turned -/
structure Touch (F : Nat → Prop) (w w' : World) : Prop where
  os : w'.os = w.os
  tape : w'.tape = w.tape
  output : w'.output = w.output
  size : w.heap.size ≤ w'.heap.size
  block : ∀ k, k < w.heap.size → ¬ F k → w'.heap[k]? = w.heap[k]?

section
variable {F F' : Nat → Prop} {w w' w'' : World} {B : Nat}

theorem Touch.refl (F : Nat → Prop) (w : World) : Touch F w w := ⟨rfl, rfl, rfl, Nat.le_refl _, fun _ _ _ => rfl⟩
theorem Touch.of (h : Below w.heap.size w w') : Touch F w w' := ⟨h.os, h.tape, h.output, h.size, fun k hk _ => h.block k hk⟩
theorem Touch.trans (h : Touch F w w') (k : Touch F' w' w'') (hs : ∀ k, F' k → F k ∨ w.heap.size ≤ k) : Touch F w w'' :=
  ⟨k.os.trans h.os, k.tape.trans h.tape, k.output.trans h.output, Nat.le_trans h.size k.size, fun i hi hn =>
    (k.block i (Nat.lt_of_lt_of_le hi h.size) (fun hf => by rcases hs i hf with h' | h'; exact hn h'; omega)).trans (h.block i hi hn)⟩
theorem Touch.mono (h : Touch F w w') (hs : ∀ k, F k → F' k) : Touch F' w w' := ⟨h.os, h.tape, h.output, h.size, fun k hk hn => h.block k hk fun hf => hn (hs k hf)⟩
theorem Touch.below (h : Touch F w w') (hF : ∀ k, F k → B ≤ k) (hB : B ≤ w.heap.size) : Below B w w' :=
  ⟨h.os, h.tape, h.output, h.size, fun k hk => h.block k (by omega) fun hf => by have := hF k hf; omega⟩
theorem Touch.cell (h : Touch F w w') {b o : Nat} (hb : b < w.heap.size) (hn : ¬ F b) : w'.cell? ⟨b, o, none⟩ = w.cell? ⟨b, o, none⟩ := World.cell?_of_block (a := ⟨b, o, none⟩) (h.block b hb hn)
theorem Touch.frozen (h : Touch F w w') {b o : Nat} (hb : b < w.heap.size) (hn : ¬ F b) : w'.frozen? ⟨b, o, none⟩ = w.frozen? ⟨b, o, none⟩ := World.frozen?_of_block (a := ⟨b, o, none⟩) (h.block b hb hn)
theorem Touch.grown {row : Option Nat} (h : w.grownBy w' row) (hr : ∀ k, row = some k → F k) : Touch F w w' :=
  ⟨h.os, h.tape, h.output, h.size, fun k hk hn => h.block k hk fun e => hn (hr k e.symm)⟩
theorem Touch.set (h : Touch F w w') {b o : Nat} (hb : F b ∨ w.heap.size ≤ b) (u : Value) : Touch F w (w'.setCell ⟨b, o, none⟩ u) :=
  ⟨h.os, h.tape, h.output, by simpa using h.size, fun k hk hn => (Below.heap_setCell _ _ _ _ (by intro e; have e' : k = b := e; rcases hb with hb | hb; exact hn (e' ▸ hb); omega)).trans (h.block k hk hn)⟩
theorem Touch.alloc (h : Touch F w w') (o : Obj) : Touch F w (w'.alloc o) :=
  h.trans (F' := fun _ => False) (Touch.of ((Below.refl _ _).alloc (Nat.le_refl _) o)) (fun _ h => h.elim)
theorem Touch.drewN (h : Touch F w w') (n : Nat) : Touch F w (w'.drewN n) := ⟨h.os, h.tape, h.output, h.size, h.block⟩
theorem Touch.then (h : Touch F w w') (k : Below w'.heap.size w' w'') : Touch F w w'' := h.trans (F' := fun _ => False) (Touch.of k) (fun _ h => h.elim)

theorem Rd.kept {A : Option Addr} {xs : List Value} (h : Rd w A xs) (hs : w.heap.size ≤ w'.heap.size) (hk : ∀ a, A = some a → a.block < w.heap.size → w'.heap[a.block]? = w.heap[a.block]?) : Rd w' A xs := fun hx => by
  obtain ⟨b, off, e, hl, hc⟩ := h hx
  exact ⟨b, off, e, Nat.lt_of_lt_of_le hl hs, fun i v hv => (World.cell?_of_block (a := ⟨b, off + i, none⟩) (hk ⟨b, off, none⟩ e hl)).trans (hc i v hv)⟩
theorem own_kept {e : TypeId} {s n : Nat} {v : Value} {xs : List Value} (h : w.ownsRow B e s v n xs) (hk : ∀ g, v.ownBlock = some g → g < w.heap.size → w'.heap[g]? = w.heap[g]?) : w'.ownsRow B e s v n xs := by
  refine ⟨h.1, ?_⟩
  rcases h.2 with h0 | ⟨g, cap, cur, hv, hB, hh, h1⟩
  · exact .inl h0
  · have hlt : g < w.heap.size := lt_of_block hh
    exact .inr ⟨g, cap, cur, hv, hB, (hk g (by rw [hv]; rfl) hlt).trans hh, h1⟩
theorem own_lt {e : TypeId} {s n : Nat} {v : Value} {xs : List Value} (h : w.ownsRow B e s v n xs) {g : Nat} (hg : v.ownBlock = some g) : g < w.heap.size ∧ B ≤ g := by
  rcases h.2 with ⟨rfl, _⟩ | ⟨g', cap, cur, rfl, hB, hh, _⟩
  · simp [Value.ownBlock] at hg
  · have : g' = g := by simpa [Value.ownBlock] using hg
    subst this
    exact ⟨lt_of_block hh, hB⟩
theorem own_low {e : TypeId} {s n B' : Nat} {v : Value} {xs : List Value} (h : w.ownsRow B e s v n xs) (hB : ∀ g, v.ownBlock = some g → B' ≤ g) : w.ownsRow B' e s v n xs := by
  refine ⟨h.1, ?_⟩
  rcases h.2 with h0 | ⟨g, cap, cur, hv, _, hh, h1⟩
  · exact .inl h0
  · exact .inr ⟨g, cap, cur, hv, hB g (by rw [hv]; rfl), hh, h1⟩
end

/-- append of one element of one cell, and where the row lies then -/
theorem wpList_app_lies {P : Program} (w : World) {ops : Array Oper} {rest : List Oper} {o : Oper} {a : Act} {Q : Exit → Act → World → Prop} (hgd : o.guard = none) (s x : Operand) (t : TypeId)
    (ho : o.op = .call { callee := .builtin .append, args := #[s, x], argTypes := #[t, t] })
    (B : Nat) (e : TypeId) (z : Value) (bytes : Nat) (ht : P.underlying t = some (.slice e)) (hinfo : (P.info? e).map (fun i => (i.zero, i.size, i.bytes)) = some (some z, 1, bytes)) (hzs : z.cells.size = 1) (hby : bytes ≤ 256)
    (v : Value) (n : Nat) (xs : List Value) (hs : a.eval s = v) (hown : w.ownsRow B e 1 v n xs)
    (g : Nat) (u : Value) (hx : a.eval x = .slice (some ⟨g, 0, none⟩) 1 1) (hc : w.cell? ⟨g, 0, none⟩ = some u) (h1 : u.oneCell' = true)
    (hn : n + 1 ≤ 68719476736) (hB : B ≤ w.heap.size)
    (h : ∀ g' c' w', w'.ownsRow B e 1 (.slice (some ⟨g', 0, none⟩) (n + 1) c') (n + 1) (xs ++ [u]) → w.grownBy w' v.ownBlock → (v.ownBlock = some g' ∨ g' = w.heap.size) → wpList P ops Q rest (a.put o.dst (.slice (some ⟨g', 0, none⟩) (n + 1) c')) w') : wpList P ops Q (o :: rest) a w := by
  obtain ⟨i, hi, hz, hsize, hbytes⟩ := info_parts hinfo
  refine wpList_append_lies (P := P) w hgd s x t ho B e i z 1 bytes ht hi hz hsize hbytes hzs (by decide) v n xs hs hown ⟨g, 0, none⟩ 1 1 [u] hx rfl ?_ ?_ (by decide) (by unfold maxLen; omega) ?_ hB _ rfl ?_
  · intro j y hj
    match j with
    | 0 =>
      simp only [List.getElem?_cons_zero, Option.some.injEq] at hj
      subst hj
      rw [Addr.add_lit]
      exact hc
    | j + 1 => simp at hj
  · intro y hy
    simp only [List.mem_singleton] at hy
    subst hy
    exact h1
  · have := Nat.mul_le_mul hn hby
    omega
  · intro g' cap w' hown' hg hat _
    exact h g' cap w' hown' hg hat

theorem step_app_lies {P : Program} (w : World) {ops : Array Oper} {o : Oper} {a : Act} {K : Act → World → Prop} {Q : Exit → Act → World → Prop} {E : Prop} (hgd : o.guard = none) (s x : Operand) (t : TypeId)
    (ho : o.op = .call { callee := .builtin .append, args := #[s, x], argTypes := #[t, t] })
    (B : Nat) (e : TypeId) (z : Value) (bytes : Nat) (ht : P.underlying t = some (.slice e)) (hinfo : (P.info? e).map (fun i => (i.zero, i.size, i.bytes)) = some (some z, 1, bytes)) (hzs : z.cells.size = 1) (hby : bytes ≤ 256)
    (v : Value) (n : Nat) (xs : List Value) (hs : a.eval s = v) (hown : w.ownsRow B e 1 v n xs)
    (g : Nat) (u : Value) (hx : a.eval x = .slice (some ⟨g, 0, none⟩) 1 1) (hc : w.cell? ⟨g, 0, none⟩ = some u) (h1 : u.oneCell' = true)
    (hn : n + 1 ≤ 68719476736) (hB : B ≤ w.heap.size)
    (h : ∀ g' c' w', w'.ownsRow B e 1 (.slice (some ⟨g', 0, none⟩) (n + 1) c') (n + 1) (xs ++ [u]) → w.grownBy w' v.ownBlock → (v.ownBlock = some g' ∨ g' = w.heap.size) → K (a.put o.dst (.slice (some ⟨g', 0, none⟩) (n + 1) c')) w') : if Region.wanted o (yielded ops a.tmps) = true then Oper.wp P o a w K Q else E := by
  obtain ⟨i, hi, hz, hsize, hbytes⟩ := info_parts hinfo
  refine step_append_lies (P := P) w hgd s x t ho B e i z 1 bytes ht hi hz hsize hbytes hzs (by decide) v n xs hs hown ⟨g, 0, none⟩ 1 1 [u] hx rfl ?_ ?_ (by decide) (by unfold maxLen; omega) ?_ hB _ rfl ?_
  · intro j y hj
    match j with
    | 0 =>
      simp only [List.getElem?_cons_zero, Option.some.injEq] at hj
      subst hj
      rw [Addr.add_lit]
      exact hc
    | j + 1 => simp at hj
  · intro y hy
    simp only [List.mem_singleton] at hy
    subst hy
    exact h1
  · have := Nat.mul_le_mul hn hby
    omega
  · intro g' cap w' hown' hg hat _
    exact h g' cap w' hown' hg hat

end Go.Proofs.Ytcfnomnhameleaa
/-
  Counting, of no program: how many unlike nodes are among some numbers.
-/
namespace Go.Proofs.Ytcfnomnhameleaa
open Go.RowKit

/-- how many of the numbers below m a test takes -/
def cnt (p : Nat → Bool) : Nat → Nat
  | 0 => 0
  | m + 1 => cnt p m + (if p m then 1 else 0)

theorem cnt_same {p q : Nat → Bool} : ∀ {m : Nat}, (∀ j, j < m → p j = q j) → cnt p m = cnt q m
  | 0, _ => rfl
  | m + 1, h => by
    rw [cnt, cnt, cnt_same (m := m) fun j hj => h j (by omega), h m (by omega)]
theorem cnt_le (p : Nat → Bool) : ∀ m : Nat, cnt p m ≤ m
  | 0 => Nat.le_refl _
  | m + 1 => by
    have := cnt_le p m
    rw [cnt]
    split <;> omega
theorem cnt_more {p q : Nat → Bool} {x : Nat} (hp : p x = false) (hq : q x = true) (h : ∀ j, j ≠ x → q j = p j) : ∀ {m : Nat}, x < m → cnt q m = cnt p m + 1
  | 0, hx => absurd hx (by omega)
  | m + 1, hx => by
    rw [cnt, cnt]
    rcases Nat.lt_or_ge x m with h' | h'
    · rw [cnt_more hp hq h h', h m (by omega)]; omega
    · obtain rfl : x = m := by omega
      rw [cnt_same (p := q) (q := p) (m := x) fun j hj => h j (by omega), hp, hq]
      simp
/-- numbers beyond n are not taken -/
theorem cnt_cut {p : Nat → Bool} {n : Nat} (h : ∀ j, n ≤ j → p j = false) : ∀ {m : Nat}, n ≤ m → cnt p m = cnt p n
  | 0, hm => by obtain rfl : n = 0 := by omega
                rfl
  | m + 1, hm => by
    rcases Nat.lt_or_ge n (m + 1) with h' | h'
    · rw [cnt, h m (by omega), cnt_cut h (m := m) (by omega)]; simp
    · obtain rfl : n = m + 1 := by omega
      rfl

/-- a node, and among these? -/
def seen (n : Int) (L : List Int) (j : Nat) : Bool := decide (1 ≤ (j : Int) ∧ (j : Int) ≤ n ∧ (j : Int) ∈ L)
/-- how many unlike nodes -/
def tal (n : Int) (L : List Int) : Nat := cnt (seen n L) 17

theorem seen_nil (n : Int) (j : Nat) : seen n [] j = false := by simp [seen]
theorem tal_nil (n : Int) : tal n [] = 0 := by
  show cnt (seen n []) 17 = 0
  rw [cnt_same (q := fun _ => false) fun j _ => seen_nil n j]
  rfl
theorem seen_out {n : Int} {L : List Int} {x : Int} (hx : x < 1 ∨ n < x) (j : Nat) : seen n (L ++ [x]) j = seen n L j := by
  simp only [seen, List.mem_append, List.mem_singleton]
  rw [decide_eq_decide]
  constructor
  · rintro ⟨h1, h2, h3 | h3⟩
    · exact ⟨h1, h2, h3⟩
    · omega
  · rintro ⟨h1, h2, h3⟩
    exact ⟨h1, h2, .inl h3⟩
theorem seen_other {n : Int} {L : List Int} {x : Nat} (j : Nat) (hj : j ≠ x) : seen n (L ++ [(x : Int)]) j = seen n L j := by
  simp only [seen, List.mem_append, List.mem_singleton]
  rw [decide_eq_decide]
  constructor
  · rintro ⟨h1, h2, h3 | h3⟩
    · exact ⟨h1, h2, h3⟩
    · omega
  · rintro ⟨h1, h2, h3⟩
    exact ⟨h1, h2, .inl h3⟩
theorem seen_self {n : Int} {L : List Int} {x : Nat} (h1 : 1 ≤ x) (h2 : (x : Int) ≤ n) : seen n (L ++ [(x : Int)]) x = true := by
  simp [seen]; omega
theorem seen_again {n : Int} {L : List Int} {x : Nat} (h : seen n L x = true) (j : Nat) : seen n (L ++ [(x : Int)]) j = seen n L j := by
  rcases Nat.decEq j x with hj | rfl
  · exact seen_other j hj
  · rw [h]
    simp only [seen, decide_eq_true_eq, List.mem_append] at h ⊢
    exact ⟨h.1, h.2.1, .inl h.2.2⟩
theorem tal_out {n : Int} {L : List Int} {x : Int} (hx : x < 1 ∨ n < x) : tal n (L ++ [x]) = tal n L := cnt_same fun j _ => seen_out hx j
theorem tal_again {n : Int} {L : List Int} {x : Nat} (h : seen n L x = true) : tal n (L ++ [(x : Int)]) = tal n L := cnt_same fun j _ => seen_again h j
theorem tal_new {n : Int} {L : List Int} {x : Nat} (h : seen n L x = false) (h1 : 1 ≤ x) (h2 : (x : Int) ≤ n) (h3 : x < 17) : tal n (L ++ [(x : Int)]) = tal n L + 1 :=
  cnt_more h (seen_self h1 h2) (fun j hj => seen_other j hj) h3
theorem tal_le (n : Int) (L : List Int) : tal n L ≤ 17 := cnt_le _ _
/-- a list with the same nodes -/
theorem tal_same {n : Int} {L M : List Int} (h : ∀ x, 1 ≤ x → x ≤ n → (x ∈ L ↔ x ∈ M)) : tal n L = tal n M := by
  refine cnt_same fun j _ => ?_
  simp only [seen]
  rw [decide_eq_decide]
  constructor
  · rintro ⟨h1, h2, h3⟩
    exact ⟨h1, h2, (h _ h1 h2).1 h3⟩
  · rintro ⟨h1, h2, h3⟩
    exact ⟨h1, h2, (h _ h1 h2).2 h3⟩

theorem take_one {α : Type} {l : List α} {k : Nat} {x : α} (h : l[k]? = some x) : l.take (k + 1) = l.take k ++ [x] := by
  rw [List.take_add_one, h]; rfl
theorem at_some {l : List Int} {k : Nat} (h : k < l.length) : l[k]? = some (l[k]?.getD 0) := by simp [h]

/-- the first cells of a list of flags -/
structure Flags (w : World) (B : Nat) (s : Nat → Bool) : Prop where
  lt : B < w.heap.size
  cell : ∀ j, j < 17 → w.cell? ⟨B, j, none⟩ = some (.bool (s j))
  free : ∀ j, w.frozen? ⟨B, j, none⟩ = false

theorem Flags.conv {w : World} {B : Nat} {s t : Nat → Bool} (h : Flags w B s) (e : ∀ j, t j = s j) : Flags w B t := by
  obtain rfl : t = s := funext e
  exact h

end Go.Proofs.Ytcfnomnhameleaa
/-
  Transactions as cells. Of no program.
-/
namespace Go.Proofs.Ytcfnomnhameleaa
open Go.RowKit

/-- a transaction -/
structure TxD where
  s : Int
  q : Int
  k : ByteArray
  v : ByteArray
deriving DecidableEq

def TxD.cells (t : TxD) : List Value := [.int .i64 t.s, .int .i64 t.q, .string t.k, .string t.v]
def TxD.val (t : TxD) : Value := .agg #[.int .i64 t.s, .int .i64 t.q, .string t.k, .string t.v]
def txs (L : List TxD) : List Value := L.flatMap TxD.cells
theorem txs_length (L : List TxD) : (txs L).length = L.length * 4 := by
  induction L with
  | nil => rfl
  | cons t L ih =>
    have : txs (t :: L) = t.cells ++ txs L := rfl
    rw [this, List.length_append, ih]
    simp [TxD.cells]; omega
theorem txs_append (a b : List TxD) : txs (a ++ b) = txs a ++ txs b := by simp [txs]
theorem txs_single (t : TxD) : txs [t] = t.cells := by simp [txs]
theorem txs_one (L : List TxD) : ∀ u ∈ txs L, u.oneCell' = true := fun u hu => by
  obtain ⟨t, _, h⟩ := List.mem_flatMap.1 hu
  simp only [TxD.cells, List.mem_cons, List.not_mem_nil, or_false] at h
  rcases h with rfl | rfl | rfl | rfl <;> rfl
theorem cells_one (t : TxD) : ∀ u ∈ t.cells, u.oneCell' = true := fun u hu => txs_one [t] u (by rwa [txs_single])
theorem txs_at {L : List TxD} : ∀ {i : Nat} {t : TxD}, L[i]? = some t →
    (txs L)[i * 4]? = some (.int .i64 t.s) ∧ (txs L)[i * 4 + 1]? = some (.int .i64 t.q) ∧ (txs L)[i * 4 + 2]? = some (.string t.k) ∧ (txs L)[i * 4 + 3]? = some (.string t.v) := by
  induction L with
  | nil => intro i t h; simp at h
  | cons x L ih =>
    intro i t h
    have e : txs (x :: L) = [.int .i64 x.s, .int .i64 x.q, .string x.k, .string x.v] ++ txs L := rfl
    cases i with
    | zero =>
      simp only [List.getElem?_cons_zero, Option.some.injEq] at h
      subst h
      rw [e]
      exact ⟨rfl, rfl, rfl, rfl⟩
    | succ i =>
      simp only [List.getElem?_cons_succ] at h
      obtain ⟨h0, h1, h2, h3⟩ := ih h
      rw [e]
      have k : ∀ j, ([Value.int .i64 x.s, .int .i64 x.q, .string x.k, .string x.v] ++ txs L)[(i + 1) * 4 + j]? = (txs L)[i * 4 + j]? := fun j => by
        rw [List.getElem?_append_right (by simp; omega)]
        congr 1
        simp; omega
      exact ⟨(k 0).trans h0, (k 1).trans h1, (k 2).trans h2, (k 3).trans h3⟩
theorem txD_at {L : List TxD} {i : Nat} (h : i < L.length) : ∃ t, L[i]? = some t := ⟨L[i], by simp [h]⟩

/-- the cells of the element at an index -/
theorem Rd.tx {w : World} {A : Option Addr} {L : List TxD} (h : Rd w A (txs L)) {i : Nat} (hi : i < L.length) : ∃ b off t, A = some ⟨b, off, none⟩ ∧ b < w.heap.size ∧ L[i]? = some t ∧
    w.cell? ⟨b, off + i * 4, none⟩ = some (.int .i64 t.s) ∧ w.cell? ⟨b, off + i * 4 + 1, none⟩ = some (.int .i64 t.q) ∧ w.cell? ⟨b, off + i * 4 + 2, none⟩ = some (.string t.k) ∧ w.cell? ⟨b, off + i * 4 + 3, none⟩ = some (.string t.v) := by
  obtain ⟨b, off, rfl, hb, hc⟩ := h.open_ (by rw [txs_length]; omega)
  obtain ⟨t, ht⟩ := txD_at hi
  obtain ⟨h0, h1, h2, h3⟩ := txs_at ht
  exact ⟨b, off, t, rfl, hb, ht, hc _ _ h0, hc _ _ h1, hc _ _ h2, hc _ _ h3⟩

end Go.Proofs.Ytcfnomnhameleaa
/-
  Numbers and lists as bytes, said on plain lists: what is written, what is read, and that the two are inverse to each other.
-/
namespace Go.Proofs.Ytcfnomnhameleaa

/-- a byte -/
def Byt (c : Int) : Prop := 0 ≤ c ∧ c ≤ 255
def Byts (b : List Int) : Prop := ∀ c ∈ b, Byt c

theorem Byts.nil : Byts [] := fun _ h => by simp at h
theorem Byts.cons {c : Int} {b : List Int} (h : Byt c) (k : Byts b) : Byts (c :: b) := by
  intro x hx; rcases List.mem_cons.1 hx with rfl | hx
  · exact h
  · exact k x hx
theorem Byts.append {a b : List Int} (h : Byts a) (k : Byts b) : Byts (a ++ b) := by
  intro x hx; rcases List.mem_append.1 hx with hx | hx
  · exact h x hx
  · exact k x hx
theorem Byts.drop {a : List Int} (h : Byts a) (n : Nat) : Byts (a.drop n) := fun x hx => h x (List.mem_of_mem_drop hx)
theorem Byts.take {a : List Int} (h : Byts a) (n : Nat) : Byts (a.take n) := fun x hx => h x (List.mem_of_mem_take hx)
theorem Byts.tail {c : Int} {a : List Int} (h : Byts (c :: a)) : Byts a := fun x hx => h x (List.mem_cons_of_mem _ hx)
theorem Byts.head {c : Int} {a : List Int} (h : Byts (c :: a)) : Byt c := h c (by simp)
theorem Byts.at_ {a : List Int} (h : Byts a) (i : Nat) : Byt (a[i]?.getD 0) := by
  rcases Nat.lt_or_ge i a.length with hl | hl
  · rw [List.getElem?_eq_getElem hl]; exact h _ (List.getElem_mem hl)
  · rw [List.getElem?_eq_none hl]; exact ⟨by decide, by decide⟩

/-- a number's bytes -/
def vnum (n : Nat) : List Int :=
  if n < 128 then [(n : Int)] else ((n % 128 + 128 : Nat) : Int) :: vnum (n / 128)
termination_by n
decreasing_by exact Nat.div_lt_self (by omega) (by decide)

theorem vnum_lt {n : Nat} (h : n < 128) : vnum n = [(n : Int)] := by rw [vnum, if_pos h]
theorem vnum_ge {n : Nat} (h : 128 ≤ n) : vnum n = ((n % 128 + 128 : Nat) : Int) :: vnum (n / 128) := by rw [vnum, if_neg (by omega)]

theorem vnum_byts (n : Nat) : Byts (vnum n) := by
  induction n using Nat.strongRecOn with
  | ind n ih =>
    rcases Nat.lt_or_ge n 128 with h | h
    · rw [vnum_lt h]; exact Byts.cons ⟨by omega, by omega⟩ Byts.nil
    · rw [vnum_ge h]; exact Byts.cons ⟨by omega, by omega⟩ (ih _ (Nat.div_lt_self (by omega) (by decide)))

theorem vnum_pos (n : Nat) : 0 < (vnum n).length := by
  rcases Nat.lt_or_ge n 128 with h | h
  · rw [vnum_lt h]; simp
  · rw [vnum_ge h]; simp

/-- the number with whose bytes a list begins, and how many they are: from the byte i on, with what the bytes ahead of it make -/
def gn (i acc : Nat) : List Int → Option (Nat × Nat)
  | [] => none
  | c :: r =>
    if i = 9 then none
    else if c < 128 then (if c = 0 ∧ 0 < i then none else some (acc + c.toNat * 128 ^ i, i + 1))
    else gn (i + 1) (acc + (c.toNat % 128) * 128 ^ i) r

theorem gn_nil (i acc : Nat) : gn i acc [] = none := rfl
theorem gn_nine (acc : Nat) (b : List Int) : gn 9 acc b = none := by cases b <;> simp [gn]
theorem gn_last {i acc : Nat} {c : Int} {r : List Int} (hi : i ≠ 9) (hc : c < 128) (h : ¬ (c = 0 ∧ 0 < i)) : gn i acc (c :: r) = some (acc + c.toNat * 128 ^ i, i + 1) := by
  simp [gn, hi, hc]; omega
theorem gn_zero {i acc : Nat} {c : Int} {r : List Int} (hi : i ≠ 9) (hc : c = 0) (h : 0 < i) : gn i acc (c :: r) = none := by
  simp [gn, hi, hc, h]
theorem gn_more {i acc : Nat} {c : Int} {r : List Int} (hi : i ≠ 9) (hc : 128 ≤ c) : gn i acc (c :: r) = gn (i + 1) (acc + (c.toNat % 128) * 128 ^ i) r := by
  have : ¬ c < 128 := by omega
  simp [gn, hi, this]

theorem pow_up (i : Nat) : 128 ^ (i + 1) = 128 * 128 ^ i := by rw [Nat.pow_succ, Nat.mul_comm]

/-- what is written is read, whatever stands behind -/
theorem gn_vnum (n : Nat) : ∀ (i acc : Nat) (r : List Int), i ≤ 9 → n < 128 ^ (9 - i) → (0 < i → 0 < n) →
    gn i acc (vnum n ++ r) = some (acc + n * 128 ^ i, i + (vnum n).length) := by
  induction n using Nat.strongRecOn with
  | ind n ih =>
    intro i acc r hi hn h0
    have hi9 : i ≠ 9 := by
      rintro rfl
      have := h0 (by decide)
      simp at hn
      omega
    rcases Nat.lt_or_ge n 128 with h | h
    · rw [vnum_lt h]
      show gn i acc ((n : Int) :: r) = _
      rw [gn_last hi9 (by omega) (by intro hh; have := h0 hh.2; omega)]
      simp
    · have hd : n / 128 < n := Nat.div_lt_self (by omega) (by decide)
      rw [vnum_ge h]
      show gn i acc (((n % 128 + 128 : Nat) : Int) :: (vnum (n / 128) ++ r)) = _
      rw [gn_more hi9 (by omega)]
      have e9 : 9 - i = (9 - (i + 1)) + 1 := by omega
      have hlt : n / 128 < 128 ^ (9 - (i + 1)) := by
        rw [e9, pow_up] at hn
        exact Nat.div_lt_of_lt_mul hn
      rw [ih _ hd (i + 1) _ r (by omega) hlt (fun _ => by omega)]
      have em : (((n % 128 + 128 : Nat) : Int).toNat) % 128 = n % 128 := by
        rw [Int.toNat_natCast]; omega
      have key : n % 128 * 128 ^ i + n / 128 * 128 ^ (i + 1) = n * 128 ^ i := by
        rw [pow_up, ← Nat.mul_assoc, ← Nat.add_mul]
        congr 1
        omega
      rw [em]
      simp only [List.length_cons, Option.some.injEq, Prod.mk.injEq]
      constructor
      · rw [Nat.add_assoc, key]
      · omega

/-- what is read was written -/
theorem gn_some : ∀ (b : List Int) (i acc m k : Nat), Byts b → i ≤ 9 → gn i acc b = some (m, k) →
    ∃ (n : Nat) (r : List Int), m = acc + n * 128 ^ i ∧ b = vnum n ++ r ∧ k = i + (vnum n).length ∧ n < 128 ^ (9 - i) ∧ (0 < i → 0 < n) := by
  intro b
  induction b with
  | nil => intro i acc m k _ _ h; simp [gn_nil] at h
  | cons c r ih =>
    intro i acc m k hb hi h
    have hc := hb.head
    unfold Byt at hc
    by_cases h9 : i = 9
    · subst h9; rw [gn_nine] at h; cases h
    · by_cases hc1 : c < 128
      · by_cases hz : c = 0 ∧ 0 < i
        · rw [gn_zero h9 hz.1 hz.2] at h; cases h
        · rw [gn_last h9 hc1 hz] at h
          simp only [Option.some.injEq, Prod.mk.injEq] at h
          obtain ⟨rfl, rfl⟩ := h
          have hl : c.toNat < 128 := by omega
          refine ⟨c.toNat, r, rfl, ?_, ?_, ?_, ?_⟩
          · rw [vnum_lt hl]; simp; omega
          · rw [vnum_lt hl]; rfl
          · exact Nat.lt_of_lt_of_le hl (by rw [show 9 - i = (8 - i) + 1 by omega, pow_up]; exact Nat.le_mul_of_pos_right _ (Nat.pow_pos (by decide)))
          · intro hp; omega
      · rw [gn_more h9 (by omega)] at h
        obtain ⟨n, r', rfl, rfl, rfl, hn, hp⟩ := ih (i + 1) _ m k hb.tail (by omega) h
        have hp := hp (by omega)
        have e9 : 9 - i = (9 - (i + 1)) + 1 := by omega
        have hge : 128 ≤ n * 128 + c.toNat % 128 := by omega
        refine ⟨n * 128 + c.toNat % 128, r', ?_, ?_, ?_, ?_, ?_⟩
        · rw [Nat.add_assoc]
          congr 1
          rw [pow_up, Nat.add_mul, ← Nat.mul_assoc]
          omega
        · rw [vnum_ge hge]
          have e1 : (n * 128 + c.toNat % 128) % 128 = c.toNat % 128 := by omega
          have e2 : (n * 128 + c.toNat % 128) / 128 = n := by omega
          rw [e1, e2]
          simp only [List.cons_append, List.cons.injEq, and_true]
          omega
        · rw [vnum_ge hge]
          have e2 : (n * 128 + c.toNat % 128) / 128 = n := by omega
          rw [e2]
          simp
          omega
        · rw [e9, pow_up]
          have : n + 1 ≤ 128 ^ (9 - (i + 1)) := hn
          have := Nat.mul_le_mul_left 128 this
          omega
        · intro _; omega

theorem two63 : (128 : Nat) ^ 9 = 9223372036854775808 := by decide

theorem get_put {n : Nat} (h : n < 9223372036854775808) (r : List Int) : gn 0 0 (vnum n ++ r) = some (n, (vnum n).length) := by
  have := gn_vnum n 0 0 r (by decide) (by rw [show 9 - 0 = 9 from rfl, two63]; exact h) (fun h => absurd h (by decide))
  simpa using this
theorem put_get {b : List Int} {m k : Nat} (hb : Byts b) (h : gn 0 0 b = some (m, k)) : ∃ r, b = vnum m ++ r ∧ k = (vnum m).length ∧ m < 9223372036854775808 ∧ 0 < k ∧ k ≤ b.length ∧ b.drop k = r := by
  obtain ⟨n, r, e1, e2, e3, hn, _⟩ := gn_some b 0 0 m k hb (by decide) h
  rw [show 9 - 0 = 9 from rfl, two63] at hn
  have e1 : m = n := by simpa using e1
  subst e1
  have e3 : k = (vnum m).length := by simpa using e3
  have hp := vnum_pos m
  subst e2
  refine ⟨r, rfl, e3, hn, by omega, by simp; omega, ?_⟩
  rw [e3]; simp

/-- bytes that have been read up to i, none of them the last one -/
theorem vnum_len_le (n : Nat) (h : n < 9223372036854775808) : (vnum n).length ≤ 9 := by
  have key : ∀ (j n : Nat), n < 128 ^ (j + 1) → (vnum n).length ≤ j + 1 := by
    intro j
    induction j with
    | zero => intro n hn; rw [vnum_lt (by simpa using hn)]; simp
    | succ j ih =>
      intro n hn
      rcases Nat.lt_or_ge n 128 with h | h
      · rw [vnum_lt h]; simp
      · rw [vnum_ge h]
        have := ih (n / 128) (by rw [pow_up] at hn; exact Nat.div_lt_of_lt_mul hn)
        simp; omega
  exact key 8 n (by rw [two63]; exact h)

theorem vnum_inj {m n : Nat} (hm : m < 9223372036854775808) (hn : n < 9223372036854775808) {r s : List Int} (h : vnum m ++ r = vnum n ++ s) : m = n ∧ r = s := by
  have h1 := get_put hm r
  rw [h, get_put hn s] at h1
  simp only [Option.some.injEq, Prod.mk.injEq] at h1
  obtain ⟨rfl, _⟩ := h1
  exact ⟨rfl, by simpa using h⟩

/-- how long a number's bytes are -/
theorem vnum_len {n k : Nat} (hk : 0 < k) (h1 : n < 128 ^ k) (h2 : k = 1 ∨ 128 ^ (k - 1) ≤ n) : (vnum n).length = k := by
  induction k generalizing n with
  | zero => omega
  | succ k ih =>
    rcases Nat.eq_zero_or_pos k with rfl | hk0
    · rw [vnum_lt (by simpa using h1)]; rfl
    · have h2 : 128 ^ k ≤ n := by rcases h2 with h | h; · omega
                                  · simpa using h
      have e : 128 ^ k = 128 * 128 ^ (k - 1) := by rw [← pow_up]; congr 1; omega
      have hp : 0 < 128 ^ (k - 1) := Nat.pow_pos (by decide)
      have hge : 128 ≤ n := by have := Nat.le_mul_of_pos_right 128 hp; omega
      rw [vnum_ge hge]
      have := ih (n := n / 128) hk0 (by rw [pow_up] at h1; exact Nat.div_lt_of_lt_mul h1) (by
        right
        rw [e] at h2
        exact (Nat.le_div_iff_mul_le (by decide)).2 (by rw [Nat.mul_comm]; exact h2))
      simp [this]

/-! ### Lists -/
/-- numbers' bytes, behind their count -/
def vnums (l : List Nat) : List Int := l.flatMap vnum
/-- texts' bytes, behind their count -/
def vputs (l : List (List Int)) : List Int := l.flatMap fun s => vnum s.length ++ s

def rdNums : Nat → List Int → Option (List Nat × List Int)
  | 0, b => some ([], b)
  | c + 1, b => (gn 0 0 b).bind fun p => (rdNums c (b.drop p.2)).map fun q => (p.1 :: q.1, q.2)
def rdPuts : Nat → List Int → Option (List (List Int) × List Int)
  | 0, b => some ([], b)
  | c + 1, b => (gn 0 0 b).bind fun p => if (b.drop p.2).length < p.1 then none else
      (rdPuts c ((b.drop p.2).drop p.1)).map fun q => ((b.drop p.2).take p.1 :: q.1, q.2)

theorem rdNums_none {c : Nat} {b : List Int} (h : gn 0 0 b = none) : rdNums (c + 1) b = none := by simp [rdNums, h]
theorem rdNums_some {c m k : Nat} {b : List Int} (h : gn 0 0 b = some (m, k)) : rdNums (c + 1) b = (rdNums c (b.drop k)).map fun q => (m :: q.1, q.2) := by simp [rdNums, h]
theorem rdPuts_none {c : Nat} {b : List Int} (h : gn 0 0 b = none) : rdPuts (c + 1) b = none := by simp [rdPuts, h]
theorem rdPuts_long {c m k : Nat} {b : List Int} (h : gn 0 0 b = some (m, k)) (hl : b.length - k < m) : rdPuts (c + 1) b = none := by
  simp [rdPuts, h]; intro hh; omega
theorem rdPuts_some {c m k : Nat} {b : List Int} (h : gn 0 0 b = some (m, k)) (hl : m ≤ b.length - k) : rdPuts (c + 1) b = (rdPuts c (b.drop (k + m))).map fun q => ((b.drop k).take m :: q.1, q.2) := by
  have : ¬ (b.length - k < m) := by omega
  simp [rdPuts, h, this, List.drop_drop]

theorem rdNums_put (l : List Nat) : ∀ (r : List Int), (∀ n ∈ l, n < 9223372036854775808) → rdNums l.length (vnums l ++ r) = some (l, r) := by
  induction l with
  | nil => intro r _; rfl
  | cons n l ih =>
    intro r h
    have e : vnums (n :: l) ++ r = vnum n ++ (vnums l ++ r) := by simp [vnums]
    rw [e, List.length_cons, rdNums_some (get_put (h n (by simp)) _)]
    have : (vnum n ++ (vnums l ++ r)).drop (vnum n).length = vnums l ++ r := by simp
    rw [this, ih r (fun m hm => h m (by simp [hm]))]
    rfl
theorem rdPuts_put (l : List (List Int)) : ∀ (r : List Int), (∀ s ∈ l, s.length < 9223372036854775808) → rdPuts l.length (vputs l ++ r) = some (l, r) := by
  induction l with
  | nil => intro r _; rfl
  | cons s l ih =>
    intro r h
    have e : vputs (s :: l) ++ r = vnum s.length ++ (s ++ (vputs l ++ r)) := by simp [vputs]
    rw [e, List.length_cons, rdPuts_some (get_put (h s (by simp)) _) (by simp)]
    have e1 : (vnum s.length ++ (s ++ (vputs l ++ r))).drop ((vnum s.length).length + s.length) = vputs l ++ r := by rw [← List.drop_drop]; simp
    have e2 : ((vnum s.length ++ (s ++ (vputs l ++ r))).drop (vnum s.length).length).take s.length = s := by simp
    rw [e1, e2, ih r (fun m hm => h m (by simp [hm]))]
    rfl

theorem rdNums_get : ∀ (c : Nat) (b : List Int) (l : List Nat) (r : List Int), Byts b → rdNums c b = some (l, r) → b = vnums l ++ r ∧ l.length = c ∧ c ≤ b.length ∧ (∀ n ∈ l, n < 9223372036854775808) := by
  intro c
  induction c with
  | zero => intro b l r _ h; simp [rdNums] at h; obtain ⟨rfl, rfl⟩ := h; simp [vnums]
  | succ c ih =>
    intro b l r hb h
    cases hg : gn 0 0 b with
    | none => rw [rdNums_none hg] at h; cases h
    | some p =>
      obtain ⟨m, k⟩ := p
      rw [rdNums_some hg] at h
      cases hr : rdNums c (b.drop k) with
      | none => rw [hr] at h; cases h
      | some q =>
        obtain ⟨l', r'⟩ := q
        rw [hr] at h
        simp at h
        obtain ⟨rfl, rfl⟩ := h
        obtain ⟨r0, e0, e1, hm, hk, hkl, e2⟩ := put_get hb hg
        obtain ⟨e3, e4, e5, e6⟩ := ih _ _ _ (hb.drop k) hr
        refine ⟨?_, by simp [e4], by simp at e5; omega, ?_⟩
        · rw [e2] at e3
          rw [e0, e3]
          simp [vnums]
        · intro n hn
          rcases List.mem_cons.1 hn with rfl | hn
          · exact hm
          · exact e6 n hn
theorem rdPuts_get : ∀ (c : Nat) (b : List Int) (l : List (List Int)) (r : List Int), Byts b → rdPuts c b = some (l, r) → b = vputs l ++ r ∧ l.length = c ∧ c ≤ b.length ∧ (∀ s ∈ l, s.length < 9223372036854775808 ∧ Byts s) := by
  intro c
  induction c with
  | zero => intro b l r _ h; simp [rdPuts] at h; obtain ⟨rfl, rfl⟩ := h; simp [vputs]
  | succ c ih =>
    intro b l r hb h
    cases hg : gn 0 0 b with
    | none => rw [rdPuts_none hg] at h; cases h
    | some p =>
      obtain ⟨m, k⟩ := p
      obtain ⟨r0, e0, e1, hm, hk, hkl, e2⟩ := put_get hb hg
      rcases Nat.lt_or_ge (b.length - k) m with hlong | hfit
      · rw [rdPuts_long hg hlong] at h; cases h
      rw [rdPuts_some hg hfit] at h
      cases hr : rdPuts c (b.drop (k + m)) with
      | none => rw [hr] at h; cases h
      | some q =>
        obtain ⟨l', r'⟩ := q
        rw [hr] at h
        simp at h
        obtain ⟨rfl, rfl⟩ := h
        obtain ⟨e3, e4, e5, e6⟩ := ih _ _ _ (hb.drop _) hr
        have hlen : ((b.drop k).take m).length = m := by simp; omega
        refine ⟨?_, by simp [e4], by simp at e5; omega, ?_⟩
        · have e7 : b.drop k = (b.drop k).take m ++ b.drop (k + m) := by rw [← List.drop_drop, List.take_append_drop]
          have e8 : b = vnum m ++ b.drop k := by rw [e2]; exact e0
          conv => lhs; rw [e8, e7, e3]
          simp only [vputs, List.flatMap_cons, hlen, List.append_assoc]
        · intro s hs
          rcases List.mem_cons.1 hs with rfl | hs
          · exact ⟨by omega, (hb.drop k).take m⟩
          · exact e6 s hs

/-- what a list's bytes are read as: numbers -/
def getNums (b : List Int) : Option (List Nat) :=
  (gn 0 0 b).bind fun p => (rdNums p.1 (b.drop p.2)).bind fun q => if q.2 = [] then some q.1 else none
def getPuts (b : List Int) : Option (List (List Int)) :=
  (gn 0 0 b).bind fun p => (rdPuts p.1 (b.drop p.2)).bind fun q => if q.2 = [] then some q.1 else none
def putNums (l : List Nat) : List Int := vnum l.length ++ vnums l
def putPuts (l : List (List Int)) : List Int := vnum l.length ++ vputs l

/-- whether, and with what behind, bytes begin with those of a list -/
def begNums (b : List Int) : Option (List Nat × List Int) := (gn 0 0 b).bind fun p => rdNums p.1 (b.drop p.2)
def begPuts (b : List Int) : Option (List (List Int) × List Int) := (gn 0 0 b).bind fun p => rdPuts p.1 (b.drop p.2)

theorem getNums_eq (b : List Int) : getNums b = (begNums b).bind fun q => if q.2 = [] then some q.1 else none := by
  unfold getNums begNums; cases gn 0 0 b <;> rfl
theorem getPuts_eq (b : List Int) : getPuts b = (begPuts b).bind fun q => if q.2 = [] then some q.1 else none := by
  unfold getPuts begPuts; cases gn 0 0 b <;> rfl

theorem begNums_put {l : List Nat} (h : ∀ n ∈ l, n < 9223372036854775808) (hl : l.length < 9223372036854775808) (r : List Int) : begNums (putNums l ++ r) = some (l, r) := by
  unfold begNums putNums
  rw [List.append_assoc, get_put hl]
  simp [rdNums_put l r h]
theorem begPuts_put {l : List (List Int)} (h : ∀ s ∈ l, s.length < 9223372036854775808) (hl : l.length < 9223372036854775808) (r : List Int) : begPuts (putPuts l ++ r) = some (l, r) := by
  unfold begPuts putPuts
  rw [List.append_assoc, get_put hl]
  simp [rdPuts_put l r h]
theorem begNums_get {b : List Int} {l : List Nat} {r : List Int} (hb : Byts b) (h : begNums b = some (l, r)) : b = putNums l ++ r := by
  unfold begNums at h
  cases hg : gn 0 0 b with
  | none => rw [hg] at h; cases h
  | some p =>
    obtain ⟨m, k⟩ := p
    rw [hg] at h
    obtain ⟨r0, e0, e1, hm, hk, hkl, e2⟩ := put_get hb hg
    obtain ⟨e3, e4, _, _⟩ := rdNums_get m _ l r (hb.drop k) h
    unfold putNums
    rw [e4, List.append_assoc, ← e3, e2]
    exact e0
theorem begPuts_get {b : List Int} {l : List (List Int)} {r : List Int} (hb : Byts b) (h : begPuts b = some (l, r)) : b = putPuts l ++ r := by
  unfold begPuts at h
  cases hg : gn 0 0 b with
  | none => rw [hg] at h; cases h
  | some p =>
    obtain ⟨m, k⟩ := p
    rw [hg] at h
    obtain ⟨r0, e0, e1, hm, hk, hkl, e2⟩ := put_get hb hg
    obtain ⟨e3, e4, _, _⟩ := rdPuts_get m _ l r (hb.drop k) h
    unfold putPuts
    rw [e4, List.append_assoc, ← e3, e2]
    exact e0

theorem getNums_put {l : List Nat} (h : ∀ n ∈ l, n < 9223372036854775808) (hl : l.length < 9223372036854775808) : getNums (putNums l) = some l := by
  have := begNums_put h hl []
  rw [List.append_nil] at this
  rw [getNums_eq, this]; rfl
theorem getPuts_put {l : List (List Int)} (h : ∀ s ∈ l, s.length < 9223372036854775808) (hl : l.length < 9223372036854775808) : getPuts (putPuts l) = some l := by
  have := begPuts_put h hl []
  rw [List.append_nil] at this
  rw [getPuts_eq, this]; rfl
theorem getNums_get {b : List Int} {l : List Nat} (hb : Byts b) (h : getNums b = some l) : b = putNums l := by
  rw [getNums_eq] at h
  cases hg : begNums b with
  | none => rw [hg] at h; cases h
  | some q =>
    obtain ⟨l', r⟩ := q
    rw [hg] at h
    simp at h
    obtain ⟨rfl, rfl⟩ := h
    have := begNums_get hb hg
    simpa using this
theorem getPuts_get {b : List Int} {l : List (List Int)} (hb : Byts b) (h : getPuts b = some l) : b = putPuts l := by
  rw [getPuts_eq] at h
  cases hg : begPuts b with
  | none => rw [hg] at h; cases h
  | some q =>
    obtain ⟨l', r⟩ := q
    rw [hg] at h
    simp at h
    obtain ⟨rfl, rfl⟩ := h
    have := begPuts_get hb hg
    simpa using this

/-- with something behind, or cut short, it is none -/
theorem getNums_more {l : List Nat} (h : ∀ n ∈ l, n < 9223372036854775808) (hl : l.length < 9223372036854775808) {r : List Int} (hr : r ≠ []) : getNums (putNums l ++ r) = none := by
  rw [getNums_eq, begNums_put h hl]; simp [hr]
theorem getPuts_more {l : List (List Int)} (h : ∀ s ∈ l, s.length < 9223372036854775808) (hl : l.length < 9223372036854775808) {r : List Int} (hr : r ≠ []) : getPuts (putPuts l ++ r) = none := by
  rw [getPuts_eq, begPuts_put h hl]; simp [hr]

theorem rd_drop_some {α : Type} {l : List α} {k : Nat} (h : k < l.length) : l.drop k ≠ [] := by
  intro e
  have : (l.drop k).length = 0 := by rw [e]; rfl
  simp at this; omega

theorem vnums_byts (l : List Nat) : Byts (vnums l) := by
  induction l with
  | nil => exact Byts.nil
  | cons n l ih => simp only [vnums, List.flatMap_cons]; exact (vnum_byts n).append ih
theorem vputs_byts (l : List (List Int)) (h : ∀ s ∈ l, Byts s) : Byts (vputs l) := by
  induction l with
  | nil => exact Byts.nil
  | cons s l ih =>
    simp only [vputs, List.flatMap_cons]
    exact ((vnum_byts _).append (h s (by simp))).append (ih fun t ht => h t (by simp [ht]))
theorem putNums_byts (l : List Nat) : Byts (putNums l) := (vnum_byts _).append (vnums_byts l)
theorem putPuts_byts (l : List (List Int)) (h : ∀ s ∈ l, Byts s) : Byts (putPuts l) := (vnum_byts _).append (vputs_byts l h)

theorem rdNums_wf {c : Nat} {b : List Int} {l : List Nat} {r : List Int} (hb : Byts b) (h : rdNums c b = some (l, r)) : (∀ n ∈ l, n < 9223372036854775808) ∧ l.length = c :=
  ⟨(rdNums_get c b l r hb h).2.2.2, (rdNums_get c b l r hb h).2.1⟩

theorem getNums_short {l : List Nat} (h : ∀ n ∈ l, n < 9223372036854775808) (hl : l.length < 9223372036854775808) {k : Nat} (hk : k < (putNums l).length) : getNums ((putNums l).take k) = none := by
  cases hg : getNums ((putNums l).take k) with
  | none => rfl
  | some l' =>
    exfalso
    have hb := (putNums_byts l).take k
    have e := getNums_get hb hg
    have e2 := begNums_put h hl []
    rw [List.append_nil, ← List.take_append_drop k (putNums l), e] at e2
    rw [getNums_eq] at hg
    cases hq : begNums ((putNums l).take k) with
    | none => rw [hq] at hg; cases hg
    | some q =>
      obtain ⟨l1, r1⟩ := q
      rw [hq] at hg
      simp at hg
      obtain ⟨rfl, rfl⟩ := hg
      have hl1 : (∀ n ∈ l1, n < 9223372036854775808) ∧ l1.length < 9223372036854775808 := by
        unfold begNums at hq
        cases hgn : gn 0 0 ((putNums l).take k) with
        | none => rw [hgn] at hq; cases hq
        | some p =>
          obtain ⟨m, j⟩ := p
          rw [hgn] at hq
          obtain ⟨_, _, _, hm, _⟩ := put_get hb hgn
          have := rdNums_wf (hb.drop j) hq
          exact ⟨this.1, by omega⟩
      rw [begNums_put hl1.1 hl1.2] at e2
      simp only [Option.some.injEq, Prod.mk.injEq] at e2
      exact rd_drop_some hk e2.2

theorem getPuts_short {l : List (List Int)} (hs : ∀ s ∈ l, Byts s) (h : ∀ s ∈ l, s.length < 9223372036854775808) (hl : l.length < 9223372036854775808) {k : Nat} (hk : k < (putPuts l).length) : getPuts ((putPuts l).take k) = none := by
  cases hg : getPuts ((putPuts l).take k) with
  | none => rfl
  | some l' =>
    exfalso
    have hb := (putPuts_byts l hs).take k
    have e := getPuts_get hb hg
    have e2 := begPuts_put h hl []
    rw [List.append_nil, ← List.take_append_drop k (putPuts l), e] at e2
    rw [getPuts_eq] at hg
    cases hq : begPuts ((putPuts l).take k) with
    | none => rw [hq] at hg; cases hg
    | some q =>
      obtain ⟨l1, r1⟩ := q
      rw [hq] at hg
      simp at hg
      obtain ⟨rfl, rfl⟩ := hg
      have hl1 : (∀ s ∈ l1, s.length < 9223372036854775808) ∧ l1.length < 9223372036854775808 := by
        unfold begPuts at hq
        cases hgn : gn 0 0 ((putPuts l).take k) with
        | none => rw [hgn] at hq; cases hq
        | some p =>
          obtain ⟨m, j⟩ := p
          rw [hgn] at hq
          obtain ⟨_, _, _, hm, _⟩ := put_get hb hgn
          have := rdPuts_get m _ l1 [] (hb.drop j) hq
          exact ⟨fun s h => (this.2.2.2 s h).1, by omega⟩
      rw [begPuts_put hl1.1 hl1.2] at e2
      simp only [Option.some.injEq, Prod.mk.injEq] at e2
      exact rd_drop_some hk e2.2

end Go.Proofs.Ytcfnomnhameleaa
/-
  Arguments that came in, laid open: numbers, texts, bytes in slices. And their weights.
-/
namespace Go.Proofs.Ytcfnomnhameleaa
open Go.RowKit Go.ChangeShapes Go.WideShapes Go.Deep

theorem lt_of_cell {w : World} {a : Addr} {v : Value} (h : w.cell? a = some v) : a.block < w.heap.size := by
  rcases Nat.lt_or_ge a.block w.heap.size with hl | hl
  · exact hl
  · have e : w.heap[a.block]? = none := by simp; omega
    simp [World.cell?, e] at h

/-- a slice whose first cells are known reads as a list -/
theorem rd_of {w : World} {a : Addr} {xs : List Value} (h : ∀ i v, xs[i]? = some v → w.cell? (a.add i) = some v) : Rd w (some a) xs := fun hx => by
  obtain ⟨x, l, rfl⟩ := List.exists_cons_of_ne_nil hx
  have h0 := h 0 x rfl
  have hsp : a.spot = none := by
    have := World.cell?_spot h0
    simpa [Addr.add] using this
  obtain ⟨b, off, spot⟩ := a
  subst hsp
  refine ⟨b, off, rfl, ?_, fun i v hv => ?_⟩
  · rw [Addr.add_lit] at h0; exact lt_of_cell h0
  · have := h i v hv
    rwa [Addr.add_lit] at this

section
variable {H : Type} {enc : TypeId × Value → H} {P : Program} {w : World} {base : Nat} {spare : Nat → Bool} {held : Bool} {t e : TypeId} {fuel : Nat} {v : Value} {x : DataW H × List MemPlace}
theorem open_nums {k : IntKind} (ht : P.underlying t = some (.slice e)) (he : P.underlying e = some (.int k)) (hc : P.cellsOf e = 1) (h : DataW.trod enc P w base spare held fuel t [v] = some x) :
    ∃ (A : Option Addr) (c : Nat) (zs : List Int), v = .slice A zs.length c ∧ zs.length ≤ c ∧ c ≤ maxLen ∧ Rd w A (zs.map (Value.int k)) ∧ ∀ n ∈ zs, (Lit.int k n).wf = true := by
  rcases open_ints ht he hc h with ⟨h0, _⟩ | ⟨a, len, cap, zs, h0, _, hl, hm, hz, _, hcell, hwf⟩
  · simp only [List.cons.injEq, and_true] at h0
    subst h0
    exact ⟨none, 0, [], rfl, by simp, by simp [maxLen], Rd.nil _ _, fun n hn => by simp at hn⟩
  · simp only [List.cons.injEq, and_true] at h0
    subst h0
    have hlen : len ≤ zs.length := by rw [hz]; split <;> omega
    have htl : (zs.take len).length = len := by rw [List.length_take]; omega
    refine ⟨some a, cap, zs.take len, by rw [htl], by omega, hm, rd_of fun i u hu => ?_, fun n hn => hwf n (List.mem_of_mem_take hn)⟩
    have hi : i < len := by
      rcases Nat.lt_or_ge i len with h' | h'
      · exact h'
      · rw [List.getElem?_eq_none (by rw [List.length_map, htl]; exact h')] at hu; cases hu
    rw [hcell i (by omega)]
    rw [← hu, List.getElem?_map, List.getElem?_take_of_lt hi, List.getElem?_eq_getElem (by omega), List.getD_eq_getElem?_getD, List.getElem?_eq_getElem (by omega)]
    rfl
theorem open_nums_fit {k : IntKind} {m : Nat} (ht : P.underlying t = some (.slice e)) (he : P.underlying e = some (.int k)) (hc : P.cellsOf e = 1) (hby : P.bytesOf e = m) (hm1 : 1 ≤ m)
    (h : DataW.trod enc P w base spare held fuel t [v] = some x) (hw : ∀ n ∈ x.1.weights P t, n ≤ reachBytes) :
    ∃ (A : Option Addr) (c : Nat) (zs : List Int), v = .slice A zs.length c ∧ zs.length ≤ c ∧ c ≤ maxLen ∧ Rd w A (zs.map (Value.int k)) ∧ (∀ n ∈ zs, (Lit.int k n).wf = true) ∧ zs.length ≤ 140737488351232 := by
  have hsz : ∀ a len cap, v = .slice (some a) len cap → len ≤ 140737488351232 := fun a len cap hv => by
    rcases open_ints ht he hc h with ⟨h0, _⟩ | ⟨a', len', cap', zs, h0, _, hl, hm, hz, hx, _, _⟩
    · simp only [List.cons.injEq, and_true] at h0
      rw [h0] at hv; cases hv
    · simp only [List.cons.injEq, and_true] at h0
      rw [h0] at hv
      cases hv
      have hlen : len ≤ zs.length := by rw [hz]; split <;> omega
      have := hw ((len + (zs.length - len)) * m) (by
        rw [hx, DataW.weights, ht]
        simp only [hby]
        refine List.mem_cons.2 (.inl ?_)
        congr 1
        simp [lits]
        omega)
      have h2 : len + (zs.length - len) ≤ (len + (zs.length - len)) * m := Nat.le_mul_of_pos_right _ hm1
      unfold reachBytes at this
      omega
  obtain ⟨A, c, zs, rfl, h1, h2, h3, h4⟩ := open_nums ht he hc h
  refine ⟨A, c, zs, rfl, h1, h2, h3, h4, ?_⟩
  cases A with
  | none =>
    rcases Nat.eq_zero_or_pos zs.length with h0 | h0
    · omega
    · obtain ⟨b, off, he, _⟩ := h3.open_ (by simpa using h0)
      cases he
  | some a => exact hsz a _ _ rfl
theorem weights_all {d : DataW H} {l : List (DataW H)} (hd : d ∈ l) {n : Nat} (hn : n ∈ d.weights P e) : n ∈ DataW.weightsAll P e l := by
  induction l with
  | nil => simp at hd
  | cons a l ih =>
    rw [DataW.weightsAll]
    rcases List.mem_cons.1 hd with rfl | hd
    · exact List.mem_append_left _ hn
    · exact List.mem_append_right _ (ih hd)
theorem weights_slice {elems rest : List (DataW H)} {d : DataW H} (ht : P.underlying t = some (.slice e)) (hd : d ∈ elems) {n : Nat} (hn : n ∈ d.weights P e) : n ∈ (DataW.slice elems rest).weights P t := by
  rw [DataW.weights, ht]
  exact List.mem_cons_of_mem _ (List.mem_append_left _ (weights_all hd hn))
theorem open_texts (ht : P.underlying t = some (.slice e)) (he : P.underlying e = some .string) (hc : P.cellsOf e = 1) (h : DataW.trod enc P w base spare held fuel t [v] = some x) (hw : ∀ n ∈ x.1.weights P t, n ≤ reachBytes) :
    ∃ (A : Option Addr) (c : Nat) (ss : List ByteArray), v = .slice A ss.length c ∧ ss.length ≤ c ∧ c ≤ maxLen ∧ Rd w A (Go.Proofs.Ytcfnomnhameleaa.strs ss) ∧ ∀ s ∈ ss, s.size ≤ 140737488351232 := by
  rcases open_strings ht he hc h with ⟨h0, _⟩ | ⟨a, len, cap, ss, h0, _, hl, hm, hz, hx, hcell, _⟩
  · simp only [List.cons.injEq, and_true] at h0
    subst h0
    exact ⟨none, 0, [], rfl, by simp, by simp [maxLen], Rd.nil _ _, fun n hn => by simp at hn⟩
  · simp only [List.cons.injEq, and_true] at h0
    subst h0
    have hlen : len ≤ ss.length := by rw [hz]; split <;> omega
    have htl : (ss.take len).length = len := by rw [List.length_take]; omega
    have hsz : ∀ s ∈ ss.take len, s.size ≤ 140737488351232 := by
      intro s hs
      refine hw s.data.toList.length ?_
      rw [hx]
      refine weights_slice ht (d := .lit (.string s.data.toList)) ?_ (by simp [DataW.weights])
      exact List.mem_map.2 ⟨s, hs, rfl⟩
    refine ⟨some a, cap, ss.take len, by rw [htl], by omega, hm, rd_of fun i u hu => ?_, hsz⟩
    have hi : i < len := by
      rcases Nat.lt_or_ge i len with h' | h'
      · exact h'
      · rw [List.getElem?_eq_none (by rw [strs_length, htl]; exact h')] at hu; cases hu
    rw [hcell i (by omega)]
    rw [← hu, Go.Proofs.Ytcfnomnhameleaa.strs, List.getElem?_map, List.getElem?_take_of_lt hi, List.getElem?_eq_getElem (by omega), List.getD_eq_getElem?_getD, List.getElem?_eq_getElem (by omega)]
    rfl
end

theorem cells_int : Try.prog.cellsOf 3 = 1 := by kernel_rfl
theorem cells_u8 : Try.prog.cellsOf 5 = 1 := by kernel_rfl
theorem cells_str : Try.prog.cellsOf 9 = 1 := by kernel_rfl
theorem cells_ints : Try.prog.cellsOf 22 = 1 := by kernel_rfl
theorem cells_u8s : Try.prog.cellsOf 60 = 1 := by kernel_rfl
theorem cells_strs : Try.prog.cellsOf 93 = 1 := by kernel_rfl

theorem wf_i64 {n : Int} (h : (Lit.int .i64 n).wf = true) : -9223372036854775808 ≤ n ∧ n ≤ 9223372036854775807 := by
  have e1 : IntKind.i64.min = -9223372036854775808 := rfl
  have e2 : IntKind.i64.max = 9223372036854775807 := rfl
  simpa [Lit.wf, e1, e2] using h
theorem wf_u8 {n : Int} (h : (Lit.int .u8 n).wf = true) : Byt n := by
  have e1 : IntKind.u8.min = 0 := rfl
  have e2 : IntKind.u8.max = 255 := rfl
  unfold Byt
  simpa [Lit.wf, e1, e2] using h

end Go.Proofs.Ytcfnomnhameleaa
