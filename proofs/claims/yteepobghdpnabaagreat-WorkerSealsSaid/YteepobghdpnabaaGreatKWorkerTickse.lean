/-
  A worker as plain data, and what the page says of it.
-/
import Derived.Deep.MidRow
import Derived.Test.YteepobghdpnabaaGreatKWorkerTicksd
import Derived.Test.YteepobghdpnabaaGreatKWorkerTicksb
namespace Go.Proofs.YteepobghdpnabaaGreat
open Go.RowKit

/-- a wait -/
structure WtD where
  d : Int
  S : List Int
deriving DecidableEq
/-- a batch that is held -/
structure HlD where
  d : Int
  a : Int
  n : Int
  L : List TxD
deriving DecidableEq
/-- a message that is handed out -/
structure OtD where
  k : Int
  f : Int
  t : Int
  d : Int
  a : Int
  n : Int
  L : List TxD
deriving DecidableEq
/-- a worker -/
structure WkD where
  i : Int
  N : Int
  x : Int
  O : List TxD
  g : Int
  c : Int
  W : List WtD
  H : List HlD
  R : List Int
deriving DecidableEq
def zeroW : WkD := ⟨0, 0, 0, [], 0, 0, [], [], []⟩
def WkD.ds (P : WkD) : List Int := P.W.map WtD.d
def WkD.hs (P : WkD) : List Int := P.H.map HlD.d

/-! ### where a number stands in a rising list -/
def posI : List Int → Int → Nat
  | [], _ => 0
  | y :: r, d => if y < d then posI r d + 1 else 0
theorem posI_le : ∀ (l : List Int) (d : Int), posI l d ≤ l.length
  | [], _ => Nat.le_refl _
  | y :: r, d => by
    have := posI_le r d
    rw [posI]
    split <;> simp <;> omega
theorem posI_below : ∀ {l : List Int} {d : Int} {j : Nat} {y : Int}, j < posI l d → l[j]? = some y → y < d
  | [], _, _, _, h, _ => by simp [posI] at h
  | z :: r, d, j, y, h, hj => by
    rw [posI] at h
    by_cases hz : z < d
    · rw [if_pos hz] at h
      cases j with
      | zero => simp at hj; rw [← hj]; exact hz
      | succ j => exact posI_below (l := r) (d := d) (j := j) (by omega) (by simpa using hj)
    · rw [if_neg hz] at h; omega
theorem posI_at : ∀ {l : List Int} {d : Int} {y : Int}, l[posI l d]? = some y → d ≤ y
  | [], _, _, h => by simp at h
  | z :: r, d, y, h => by
    rw [posI] at h
    by_cases hz : z < d
    · rw [if_pos hz] at h
      exact posI_at (l := r) (by simpa using h)
    · rw [if_neg hz] at h
      simp at h
      omega
/-- rising: of two places the later one holds more -/
def RiseI (l : List Int) : Prop := ∀ (i j : Nat) (x y : Int), i < j → l[i]? = some x → l[j]? = some y → x < y
theorem riseI_of {l : List Int} (h : ∀ (i : Nat) (x y : Int), l[i]? = some x → l[i + 1]? = some y → x < y) : RiseI l := by
  have key : ∀ (k i : Nat) (x y : Int), l[i]? = some x → l[i + 1 + k]? = some y → x < y := by
    intro k
    induction k with
    | zero => exact h
    | succ k ih =>
      intro i x y hx hy
      have hlt := (List.getElem?_eq_some_iff.1 hy).1
      obtain ⟨z, hz⟩ : ∃ z, l[i + 1 + k]? = some z := ⟨_, List.getElem?_eq_getElem (by omega)⟩
      have h1 := ih i x z hx hz
      have h2 := h (i + 1 + k) z y hz hy
      omega
  intro i j x y hij hx hy
  exact key (j - i - 1) i x y hx (by rw [show i + 1 + (j - i - 1) = j by omega]; exact hy)
theorem posI_unique {l : List Int} {d : Int} {p : Nat} (hp : p ≤ l.length) (h1 : ∀ k a, k < p → l[k]? = some a → a < d) (h2 : ∀ a, l[p]? = some a → d ≤ a) : p = posI l d := by
  rcases Nat.lt_trichotomy p (posI l d) with h | h | h
  · have hl := posI_le l d
    obtain ⟨y, hy⟩ : ∃ y, l[p]? = some y := ⟨_, List.getElem?_eq_getElem (by omega)⟩
    have := posI_below h hy
    have := h2 y hy
    omega
  · exact h
  · obtain ⟨y, hy⟩ : ∃ y, l[posI l d]? = some y := ⟨_, List.getElem?_eq_getElem (by omega)⟩
    have := posI_at hy
    have := h1 _ y h hy
    omega
/-- in a rising list a number is there just if it stands at its place -/
theorem mem_posI {l : List Int} {d : Int} (h : RiseI l) : d ∈ l ↔ l[posI l d]? = some d := by
  constructor
  · intro hd
    obtain ⟨j, hj⟩ := List.mem_iff_getElem?.1 hd
    rcases Nat.lt_trichotomy j (posI l d) with h1 | h1 | h1
    · have := posI_below h1 hj; omega
    · rw [← h1]; exact hj
    · have hlt := (List.getElem?_eq_some_iff.1 hj).1
      obtain ⟨y, hy⟩ : ∃ y, l[posI l d]? = some y := ⟨_, List.getElem?_eq_getElem (by omega)⟩
      have := posI_at hy
      have := h _ _ _ _ h1 hy hj
      omega
  · exact fun h => List.mem_iff_getElem?.2 ⟨_, h⟩
/-- the first one that is this: the page's own search -/
def firstI : List Int → Int → Option Nat
  | [], _ => none
  | y :: r, d => if y = d then some 0 else (firstI r d).map (· + 1)
theorem firstI_none : ∀ {l : List Int} {d : Int}, d ∉ l → firstI l d = none
  | [], _, _ => rfl
  | y :: r, d, h => by
    rw [firstI, if_neg (fun e => h (by simp [e])), firstI_none (fun e => h (by simp [e]))]
    rfl
theorem firstI_some : ∀ {l : List Int} {d : Int} {k : Nat}, l[k]? = some d → (∀ j y, j < k → l[j]? = some y → y ≠ d) → firstI l d = some k
  | [], _, _, h, _ => by simp at h
  | y :: r, d, k, h, hb => by
    rw [firstI]
    cases k with
    | zero =>
      simp at h
      rw [if_pos h]
    | succ k =>
      rw [if_neg (hb 0 y (by omega) rfl), firstI_some (l := r) (k := k) (by simpa using h) (fun j z hj hz => hb (j + 1) z (by omega) (by simpa using hz))]
      rfl
theorem firstI_is {l : List Int} {d : Int} (h : RiseI l) : firstI l d = if d ∈ l then some (posI l d) else none := by
  by_cases hd : d ∈ l
  · rw [if_pos hd]
    exact firstI_some ((mem_posI h).1 hd) fun j y hj hy => by have := posI_below hj hy; omega
  · rw [if_neg hd, firstI_none hd]
/-- one more at a place -/
def insAt {α : Type} (l : List α) (k : Nat) (x : α) : List α := l.take k ++ x :: l.drop k
theorem insAt_length {α : Type} (l : List α) (k : Nat) (x : α) (h : k ≤ l.length) : (insAt l k x).length = l.length + 1 := by
  simp [insAt]; omega

/-! ### a worker that may be -/
def HeldOk (l : List HlD) : Prop := ∀ (i : Nat) (x : HlD), l[i]? = some x → digB x.d = true ∧ batB x.a x.n x.L = true ∧ ∀ y, 0 < i → l[i - 1]? = some y → y.d < x.d
def WaitOk (N : Int) (l : List WtD) : Prop := ∀ (i : Nat) (x : WtD), l[i]? = some x → digB x.d = true ∧ risB x.S = true ∧ betB 1 N x.S = true ∧ ∀ y, 0 < i → l[i - 1]? = some y → y.d < x.d
def OnceOk (l : List Int) : Prop := ∀ (i : Nat) (x : Int), l[i]? = some x → x ∉ l.take i
structure MayW (P : WkD) : Prop where
  nodes : mayB P.N = true
  id : 1 ≤ P.i ∧ P.i ≤ P.N
  next : 1 ≤ P.x ∧ P.x ≤ 1099511627776
  few : P.O.length ≤ 64
  open_ : P.O.all txB = true
  age : 0 ≤ P.g ∧ P.g ≤ 1099511627776
  clock : 0 ≤ P.c ∧ P.c ≤ 1099511627776
  room : P.H.length ≤ 1024
  held : HeldOk P.H
  digs : betB 1 65536 P.R = true
  once : OnceOk P.R
  waits : WaitOk P.N P.W
open Classical in
noncomputable def mayW (P : WkD) : Bool := decide (MayW P)
theorem mayW_iff {P : WkD} : mayW P = true ↔ MayW P := by simp [mayW]
theorem mayW_no {P : WkD} (h : ¬ MayW P) : mayW P = false := by simp [mayW, h]
theorem MayW.hrise {P : WkD} (h : MayW P) : RiseI P.hs := riseI_of fun i x y hx hy => by
  simp only [WkD.hs, List.getElem?_map, Option.map_eq_some_iff] at hx hy
  obtain ⟨a, ha, rfl⟩ := hx
  obtain ⟨b, hb, rfl⟩ := hy
  exact (h.held (i + 1) b hb).2.2 a (by omega) (by simpa using ha)
theorem MayW.drise {P : WkD} (h : MayW P) : RiseI P.ds := riseI_of fun i x y hx hy => by
  simp only [WkD.ds, List.getElem?_map, Option.map_eq_some_iff] at hx hy
  obtain ⟨a, ha, rfl⟩ := hx
  obtain ⟨b, hb, rfl⟩ := hy
  exact (h.waits (i + 1) b hb).2.2.2 a (by omega) (by simpa using ha)

/-! ### what is done -/
def holdW (P : WkD) (d a n : Int) (L : List TxD) : WkD :=
  if d ∈ P.hs ∨ 1024 ≤ P.H.length then P else { P with H := insAt P.H (posI P.hs d) ⟨d, a, n, L⟩ }
def enoughW (P : WkD) (x : WtD) : Bool := enough P.N x.S
/-- what is kept by enough goes from the waits to what is ready -/
def settleW (P : WkD) : WkD :=
  { P with W := P.W.filter (fun x => !enoughW P x), R := P.R ++ ((P.W.filter (enoughW P)).map WtD.d).filter (fun d => decide (d ∉ P.R)) }
def dueW (P : WkD) : Bool := decide ((8 ≤ P.O.length ∨ (0 < P.O.length ∧ 4 ≤ P.g)) ∧ P.x < 1099511627776)
/-- the error of what is asked of a worker that may be or not -/
noncomputable def ifMay (P : WkD) (e : Int) : Int := if mayW P = true then e else 1
def makeE (P : WkD) : Int := if dueW P = true then (if 1024 ≤ P.H.length then 8 else 0) else 10
def makeL (P : WkD) : List TxD := P.O.take 8
def sealE (P : WkD) (d : Int) : Int := if makeE P ≠ 0 then makeE P else if digB d = true then (if d ∈ P.hs then 4 else 0) else 1
/-- the nodes that a batch is handed to: all the others, but for these -/
def toW (P : WkD) (S : List Int) : List Int := ((List.range P.N.toNat).map fun k : Nat => (k : Int) + 1).filter fun k => decide (k ≠ P.i ∧ k ∉ S)
def askW (P : WkD) (d a n : Int) (L : List TxD) (S : List Int) : List OtD := (toW P S).map fun k => ⟨1, P.i, k, d, a, n, L⟩
def waitW (P : WkD) (d : Int) : WkD := if d ∈ P.ds then P else { P with W := insAt P.W (posI P.ds d) ⟨d, [P.i]⟩ }
def sealM (P : WkD) (d : Int) : WkD := waitW (holdW { P with O := P.O.drop 8, x := P.x + 1, g := 0 } d P.i P.x (makeL P)) d
def sealW (P : WkD) (d : Int) : WkD := settleW (sealM P d)
def sealO (P : WkD) (d : Int) : List OtD := askW P d P.i P.x (makeL P) []
/-- a number more in a rising list -/
def withI (l : List Int) (n : Int) : List Int := if n ∈ l then l else insAt l (posI l n) n
def ackW (P : WkD) (d f : Int) : WkD := { P with W := P.W.map fun x => if x.d = d then { x with S := withI x.S f } else x }
def lookH : List HlD → Int → Option HlD
  | [], _ => none
  | x :: r, d => if x.d = d then some x else lookH r d
def takeW (P : WkD) (m : MsgD) : WkD :=
  if m.k = 1 ∨ m.k = 3 then holdW P m.d m.ba m.bn m.L else if m.k = 2 then settleW (ackW P m.d m.f) else P
def tickW (P : WkD) : WkD := { P with c := min (P.c + 1) 1099511627776, g := if 0 < P.O.length then min (P.g + 1) 1099511627776 else P.g }
def retryO (P : WkD) : List OtD := P.W.flatMap fun x => match lookH P.H x.d with
  | some y => askW P x.d y.a y.n y.L x.S
  | none => []
def tickO (P : WkD) : List OtD := if (tickW P).c % 3 = 0 then retryO P else []
def addE (P : WkD) (t : TxD) : Int := if txB t = true then (if P.O.length < 64 then 0 else 8) else 1
def addW (P : WkD) (t : TxD) : WkD := { P with O := P.O ++ [t] }
/-- the worker that is told: none, if refused -/
def orW (e : Int) (P : WkD) : WkD := if e = 0 then P else zeroW
def orO (e : Int) (l : List OtD) : List OtD := if e = 0 then l else []
def newW (i N : Int) : WkD := ⟨i, N, 1, [], 0, 0, [], [], []⟩

theorem lookH_is : ∀ (l : List HlD) (d : Int), lookH l d = match firstI (l.map HlD.d) d with
    | some k => l[k]?
    | none => none
  | [], _ => rfl
  | x :: r, d => by
    rw [lookH, List.map_cons, firstI, lookH_is r d]
    by_cases h : x.d = d
    · rw [if_pos h, if_pos h]; rfl
    · rw [if_neg h, if_neg h]
      cases firstI (r.map HlD.d) d <;> simp
theorem lookH_no {l : List HlD} {d : Int} (h : d ∉ l.map HlD.d) : lookH l d = none := by rw [lookH_is, firstI_none h]
theorem lookH_at {l : List HlD} {d : Int} {x : HlD} (hr : RiseI (l.map HlD.d)) (hx : l[posI (l.map HlD.d) d]? = some x) (hd : d ∈ l.map HlD.d) : lookH l d = some x := by
  rw [lookH_is, firstI_is hr, if_pos hd]; exact hx
theorem orW_no {e : Int} (h : e ≠ 0) (P : WkD) : orW e P = zeroW := by rw [orW, if_neg h]
theorem orO_no {e : Int} (h : e ≠ 0) (l : List OtD) : orO e l = [] := by rw [orO, if_neg h]

end Go.Proofs.YteepobghdpnabaaGreat
namespace Go.Proofs.YteepobghdpnabaaGreat
open Go.RowKit

theorem take_set_up {α : Type} {l : List α} {j : Nat} {v : α} (h : j < l.length) : (l.set j v).take (j + 1) = l.take j ++ [v] := by
  rw [List.take_add_one, List.getElem?_set_self h, List.take_set_of_le (Nat.le_refl _)]
  rfl
theorem drop_set_up {α : Type} {l : List α} {j k : Nat} {v : α} (h : j < k) : (l.set j v).drop k = l.drop k := by
  rw [List.drop_set_of_lt h]
theorem box_setCells {g : Nat} : ∀ (cs : List Value) (j : Nat) (vs : List Value) (w : World), Box w g vs → j + cs.length ≤ vs.length → Box (w.setCells g j cs) g (vs.take j ++ cs ++ vs.drop (j + cs.length))
  | [], j, vs, _, h, _ => by
    have e : vs.take j ++ [] ++ vs.drop (j + ([] : List Value).length) = vs := by simp
    rw [e]
    exact h
  | v :: r, j, vs, w, h, hl => by
    simp only [List.length_cons] at hl
    have ih := box_setCells r (j + 1) (vs.set j v) (w.setCell ⟨g, j, none⟩ v) (h.set (by omega)) (by rw [List.length_set]; omega)
    rw [take_set_up (by omega), drop_set_up (by omega)] at ih
    have e : vs.take j ++ (v :: r) ++ vs.drop (j + (v :: r).length) = vs.take j ++ [v] ++ r ++ vs.drop (j + 1 + r.length) := by
      rw [List.length_cons, show j + (r.length + 1) = j + 1 + r.length by omega]
      simp
    rw [e]
    exact ih
theorem touch_setCells {F : Nat → Prop} {g : Nat} (hF : F g) : ∀ (cs : List Value) (j : Nat) (w0 w : World), Touch F w0 w → Touch F w0 (w.setCells g j cs)
  | [], _, _, _, h => h
  | v :: r, j, w0, _, h => touch_setCells hF r (j + 1) w0 _ (h.set (.inl hF) v)

section
variable {P : Program} {w : World}
theorem wpList_load_box {ops : Array Oper} {rest : List Oper} {op : Oper} {a : Act} {Q : Exit → Act → World → Prop} (hgd : op.guard = none) (ty : TypeId) (x : Operand) (ho : op.op = .load ty x)
    (g : Nat) (hx : a.eval x = .pointer (some ⟨g, 0, none⟩)) (cs : List Value) (hb : Box w g cs) (d : TypeDesc) (hu : P.underlying ty = some d) (hd : d.isRow = true) (hi : (P.info? ty).map (·.size) = some cs.length)
    (h : wpList P ops Q rest (a.put op.dst (.agg cs.toArray)) w) : wpList P ops Q (op :: rest) a w :=
  wpList_load_mid hgd ty x ho g 0 hx cs d (fun j v hv => by rw [Nat.zero_add]; exact (hb.2 j v hv).1) hu hd hi h
theorem there_box {g j n : Nat} {vs : List Value} (hb : Box w g vs) (hl : j + n ≤ vs.length) : w.there g j n := fun i hi => by
  obtain ⟨v, hv⟩ : ∃ v, vs[j + i]? = some v := ⟨vs[j + i], by simp [show j + i < vs.length by omega]⟩
  exact ⟨by rw [(hb.2 _ v hv).1]; rfl, (hb.2 _ v hv).2⟩
theorem wpList_store_box {ops : Array Oper} {rest : List Oper} {op : Oper} {a : Act} {Q : Exit → Act → World → Prop} (hgd : op.guard = none) (ty : TypeId) (x y : Operand) (ho : op.op = .store ty x y)
    (g j : Nat) (cs vs us : List Value) (hx : a.eval x = .pointer (some ⟨g, j, none⟩)) (hy : a.eval y = .agg cs.toArray) (hb : Box w g vs) (hl : j + cs.length ≤ vs.length) (hus : us = vs.take j ++ cs ++ vs.drop (j + cs.length))
    (hi : (P.info? ty).map (·.size) = some cs.length) (h1 : cs.all (·.oneCell') = true)
    (h : ∀ w', Box w' g us → (∀ F : Nat → Prop, F g → Touch F w w') → wpList P ops Q rest (a.put op.dst undef) w') : wpList P ops Q (op :: rest) a w :=
  wpList_store_mid hgd ty x y ho g j cs.toArray hx hy (by rw [List.size_toArray]; exact there_box hb hl) (by rw [List.size_toArray]; exact hi) (all_oneCell_toArray fun v hv => List.all_eq_true.1 h1 v hv)
    (h _ (by rw [hus]; exact box_setCells cs j vs w hb hl) (fun F hF => touch_setCells hF cs j w w (Touch.refl F w)))
/-- an operation that runs to a value -/
theorem wpList_run_to {ops : Array Oper} {rest : List Oper} {o : Oper} {a : Act} {Q : Exit → Act → World → Prop} (hg : o.guard = none) (t : TypeId) (_ : o.op = .alloc t) (v : Value) (w' : World) (hrun : (execOp a.eval o).run P w = .ok (.value v) w')
    (h : wpList P ops Q rest (a.put o.dst v) w') : wpList P ops Q (o :: rest) a w := by
  refine wpList_plain hg fun K hK => ?_
  unfold Oper.wp
  rw [hrun, Oper.upon_value]
  exact hK _ _ h
end

end Go.Proofs.YteepobghdpnabaaGreat
namespace Go.Proofs.YteepobghdpnabaaGreat
open Go.RowKit

theorem bcellH {W w1 : World} (hb : Below W.heap.size W w1) : (∀ b o, b < W.heap.size → w1.cell? ⟨b, o, none⟩ = W.cell? ⟨b, o, none⟩) ∧ (∀ b o, b < W.heap.size → w1.frozen? ⟨b, o, none⟩ = W.frozen? ⟨b, o, none⟩) :=
  ⟨fun b o h => hb.cell (p := ⟨b, o, none⟩) h, fun b o h => hb.frozen (p := ⟨b, o, none⟩) h⟩

/-! ### comparisons -/
set_option maxHeartbeats 2000000 in
theorem reqHdr_is (b : Bool) (a r : Int) (AB : Option Addr) (cB nB : Nat) (B : List Int) (AP : Option Addr) (cP nP : Nat) (P : List Int) (a' r' : Int) (AB' : Option Addr) (cB' nB' : Nat) (B' : List Int) (AP' : Option Addr) (cP' nP' : Nat) (P' : List Int) (w : World) (h : eqHdr a r B P a' r' B' P' = b) (hzB : B.length = nB) (hrB : Rd w AB (i64s B)) (hnB : nB ≤ 1073741824) (hzP : P.length = nP) (hrP : Rd w AP (i64s P)) (hnP : nP ≤ 1073741824) (hzB' : B'.length = nB') (hrB' : Rd w AB' (i64s B')) (hnB' : nB' ≤ 1073741824) (hzP' : P'.length = nP') (hrP' : Rd w AP' (i64s P')) (hnP' : nP' ≤ 1073741824) :
    Calls Tryz.prog 104 #[.agg #[.int .i64 a, .int .i64 r, .slice AB nB cB, .slice AP nP cP], .agg #[.int .i64 a', .int .i64 r', .slice AB' nB' cB', .slice AP' nP' cP']] w (Tells w.heap.size w (.bool b)) := by
  subst h
  have HZB := Lib.hid hzB
  have HZP := Lib.hid hzP
  have HZB' := Lib.hid hzB'
  have HZP' := Lib.hid hzP'
  clear hzB hzP hzB' hzP'
  have hb3 : Below w.heap.size w ((w.alloc (.cells #[.int .i64 a, .int .i64 r, .slice AB nB cB, .slice AP nP cP] 44)).alloc (.cells #[.int .i64 a', .int .i64 r', .slice AB' nB' cB', .slice AP' nP' cP'] 44)) := ((Below.refl _ _).alloc (Nat.le_refl _) _).alloc (by simp) _
  by_cases g1 : a = a'
  · by_cases g2 : r = r'
    · have j1 : (a == a') = true := by simp [g1]
      have j2 : (r == r') = true := by simp [g2]
      cases hB : decide (B = B') with
      | false =>
        have HV : Hid (eqHdr a r B P a' r' B' P' = false) := by show eqHdr a r B P a' r' B' P' = false; rw [eqHdr, decide_eq_false_iff_not]; exact fun h => (of_decide_eq_false hB) h.2.2.1
        have HB := Lib.hid hB
        clear hB g1 g2
        go_enter Tryz.func104, Tryz.ntmps104
        go_wp2_with fail
        refine (eqNumbers_any AB AB' cB cB' nB nB' B B' _ HZB.out HZB'.out ((hrB.alloc _).alloc _) ((hrB'.alloc _).alloc _) hnB hnB').mono ?_
        rintro e w1 ⟨rfl, dB, rfl⟩
        rw [HB.out]
        go_wp2_with fail
        go_ret
        exact ⟨ret_boolH (by rw [HV.out]; first | done | rfl | simp), below_n hb3 _⟩
      | true =>
        have HV : Hid (eqHdr a r B P a' r' B' P' = decide (P = P')) := by show eqHdr a r B P a' r' B' P' = decide (P = P'); have hB' := of_decide_eq_true hB; rw [eqHdr, decide_eq_decide]; exact ⟨fun h => h.2.2.2, fun h => ⟨g1, g2, hB', h⟩⟩
        have HB := Lib.hid hB
        clear hB g1 g2
        go_enter Tryz.func104, Tryz.ntmps104
        go_wp2_with fail
        refine (eqNumbers_any AB AB' cB cB' nB nB' B B' _ HZB.out HZB'.out ((hrB.alloc _).alloc _) ((hrB'.alloc _).alloc _) hnB hnB').mono ?_
        rintro e w1 ⟨rfl, dB, rfl⟩
        rw [HB.out]
        go_wp2_with fail
        refine (eqNumbers_any AP AP' cP cP' nP nP' P P' _ HZP.out HZP'.out (((hrP.alloc _).alloc _).drewN _) (((hrP'.alloc _).alloc _).drewN _) hnP hnP').mono ?_
        rintro e w1 ⟨rfl, dP, rfl⟩
        go_wp2_with fail
        go_ret
        exact ⟨ret_boolH (by rw [HV.out]; first | done | rfl | simp), (by first | exact below_n hb3 _ | exact below_n (below_n hb3 _) _)⟩
    · have HV : Hid (eqHdr a r B P a' r' B' P' = false) := by show eqHdr a r B P a' r' B' P' = false; rw [eqHdr, decide_eq_false_iff_not]; exact fun h => g2 h.2.1
      have j1 : (a == a') = true := by simp [g1]
      have j2 : (r == r') = false := by simp [g2]
      clear g1 g2
      go_enter Tryz.func104, Tryz.ntmps104
      go_wp2_with fail
      go_ret
      exact ⟨ret_boolH (by rw [HV.out]; first | done | rfl | simp), hb3⟩
  · have HV : Hid (eqHdr a r B P a' r' B' P' = false) := by show eqHdr a r B P a' r' B' P' = false; rw [eqHdr, decide_eq_false_iff_not]; exact fun h => g1 h.1
    have j1 : (a == a') = false := by simp [g1]
    clear g1
    go_enter Tryz.func104, Tryz.ntmps104
    go_wp2_with fail
    go_ret
    exact ⟨ret_boolH (by rw [HV.out]; first | done | rfl | simp), hb3⟩

/-! ### copies -/
/-! ### written over -/
set_option maxHeartbeats 400000 in
/-- numbers written over: only their own row turns -/
theorem spoilNums_far (B : Nat) (v : Value) (n : Nat) (zs : List Int) (w : World) (hown : w.ownsRow B 3 1 v n (i64s zs)) (hn : n ≤ 1073741824) :
    Calls Tryz.prog 108 #[v] w fun e w' => e = .returned (.tuple #[]) ∧ Touch (fun k => v.ownBlock = some k) w w' := by
  obtain ⟨A, c, rfl, hnl, hc, hm, _, _⟩ := own_slice hown
  rw [← hnl] at hown hc ⊢
  unfold maxLen at hm
  have HL : Hid (n = (i64s zs).length) := hnl
  clear hnl
  go_enter Tryz.func108, Tryz.ntmps108
  go_wp2
  go_loopw [2] (fun i wr => ∃ (k : Nat) (ys : List Int), i = .int .i64 k ∧ k ≤ n ∧ wr.ownsRow 0 3 1 (.slice A n c) n (i64s ys) ∧ Touch (fun k => (Value.slice A n c).ownBlock = some k) w wr) (fun i _ => n - (intOf i).toNat)
  case atStart => exact ⟨0, zs, rfl, by omega, own_low hown (fun _ _ => Nat.zero_le _), Touch.refl _ _⟩
  case round =>
    obtain ⟨k, ys, rfl, hk, ho, ht⟩ := hrel
    clear hown
    by_cases hlt : k < n
    · obtain ⟨g, cap, hv, hBg, hglt⟩ := ho.form (by omega)
      simp only [Value.slice.injEq, true_and] at hv
      obtain ⟨rfl, rfl⟩ := hv
      have hyl : ys.length = n := by have := ho.1; rw [i64s_length] at this; omega
      have hc1 : wr.cell? ⟨g, k, none⟩ = some (.int .i64 (ys[k]?.getD 0)) := by rw [ho.cellAt k (by omega), i64s_at (by omega)]
      have hf1 := ho.frozenAt k
      have HY := Lib.hid hyl
      have HT := Lib.hid ht
      clear hyl ht
      have i0 : (0 : Int) ≤ (k : Int) := by omega
      have i1 : (k : Int) < (n : Int) := by omega
      go_wp2
      go_roundw
      case rel =>
        obtain ⟨s1, s2⟩ := ho.stored k (.int .i64 (-99))
        refine ⟨k + 1, ys.set k (-99), by go_num, by omega, ?_, HT.out.set (.inl rfl) _⟩
        rw [show i64s (ys.set k (-99)) = (i64s ys).set k (.int .i64 (-99)) from by simp [i64s, List.map_set]]
        exact s1
      case measure => simp [intOf]; omega
    · have i1 : ¬ ((k : Int) < (n : Int)) := by omega
      obtain rfl : k = n := by omega
      have HT := Lib.hid ht
      clear ht
      go_wp2_with (at_builtin; refine wpList_app_lies _ rfl _ _ 25 rfl 0 3 (.int .i64 0) 8 Tryz.underlying25 info_i64 rfl (by decide) _ k _ rfl (ho.alloc _) wr.heap.size (.int .i64 5) rfl (cell_new _ _ _) rfl (by omega) (by omega) ?_)
      intro g' c' w1 hown1 hg1 _
      have hT := (HT.out.alloc (.cells #[.int .i64 5] 3)).trans (Touch.grown (F := fun k' => (Value.slice A k c).ownBlock = some k') hg1 (fun k' e => e)) (fun k' hf => .inl hf)
      go_wp2
      go_end0
      exact ⟨rfl, hT⟩

/-! ### weights -/
theorem rhw_any (a r : Int) (AB : Option Addr) (cB nB : Nat) (AP : Option Addr) (cP nP : Nat) (w : World) (hnB : nB ≤ 140737488351232) (hnP : nP ≤ 140737488351232) :
    Calls Tryz.prog 113 #[.agg #[.int .i64 a, .int .i64 r, .slice AB nB cB, .slice AP nP cP]] w (Tells w.heap.size w (.int .i64 (((1 + nB + nP : Nat) : Int)))) := by
  have s1 : IntKind.i64.wrap (1 + (nB : Int)) = 1 + (nB : Int) := IntWalk.i64_in _ (by omega)
  have s2 : IntKind.i64.wrap (1 + (nB : Int) + (nP : Int)) = 1 + (nB : Int) + (nP : Int) := IntWalk.i64_in _ (by omega)
  go_enter Tryz.func113, Tryz.ntmps113
  go_wp2_with fail
  go_ret
  exact ⟨ret_int (by simp), (Below.refl _ _).alloc (Nat.le_refl _) _⟩


end Go.Proofs.YteepobghdpnabaaGreat
