/-
 Numbers and lists as bytes, said on plain lists: what is written, what is read, and that the two are inverse to each other.
-/
import Derived.WalkKit
import Derived.Below
import Derived.Deep.Draws
import Derived.Deep.AppendLies
import Derived.Lib.AppendStr
import Derived.Lib.ConvBytes
import Derived.Lib.Hide
import Derived.Test.YteepobghdpnabaaGreatRows
import Derived.WalkSpells
import Derived.WalkLawsBesides
import Derived.Deep.QuietTactic
import Derived.BigQuiet
import Derived.LoopTactic
import Derived.Outline
namespace Go.Proofs.YteepobghdpnabaaGreat

def Byt (c : Int) : Prop := 0 ≤ c ∧ c ≤ 255
def Byts (b : List Int) : Prop := ∀ c ∈ b, Byt c

theorem Byts.nil : Byts [] := fun _ h => by simp at h
theorem Byts.cons {c : Int} {b : List Int} (h : Byt c) (k : Byts b) : Byts (c :: b) := by
 intro x hx; rcases List.mem_cons.1 hx with rfl | hx
 ·exact h
 ·exact k x hx
theorem Byts.append {a b : List Int} (h : Byts a) (k : Byts b) : Byts (a ++ b) := by
 intro x hx; rcases List.mem_append.1 hx with hx | hx
 ·exact h x hx
 ·exact k x hx
theorem Byts.drop {a : List Int} (h : Byts a) (n : Nat) : Byts (a.drop n) := fun x hx => h x (List.mem_of_mem_drop hx)
theorem Byts.take {a : List Int} (h : Byts a) (n : Nat) : Byts (a.take n) := fun x hx => h x (List.mem_of_mem_take hx)
theorem Byts.at_ {a : List Int} (h : Byts a) (i : Nat) : Byt (a[i]?.getD 0) := by
 rcases Nat.lt_or_ge i a.length with hl | hl
 ·rw [List.getElem?_eq_getElem hl]; exact h _ (List.getElem_mem hl)
 ·rw [List.getElem?_eq_none hl]; exact ⟨by decide, by decide⟩

/-! ### Lists -/
end Go.Proofs.YteepobghdpnabaaGreat
namespace Go.Proofs.YteepobghdpnabaaGreat
open Go.RowKit

def Rd (w : World) (A : Option Addr) (xs : List Value) : Prop :=
 xs ≠ [] → ∃ b off, A = some ⟨b, off, none⟩ ∧ b < w.heap.size ∧ ∀ i v, xs[i]? = some v → w.cell? ⟨b, off + i, none⟩ = some v

section
variable {w w' : World} {A : Option Addr} {xs : List Value} {B : Nat} {e : TypeId} {v : Value} {n : Nat}

theorem Rd.nil (w : World) (A : Option Addr) : Rd w A [] := fun h => absurd rfl h
theorem Rd.below (h : Rd w A xs) (hb : Below w.heap.size w w') : Rd w' A xs := fun hx => by
 obtain ⟨b, off, e, hl, hc⟩ := h hx
 exact ⟨b, off, e, Nat.lt_of_lt_of_le hl hb.size, fun i v hv => (hb.cell (p := ⟨b, off + i, none⟩) hl).trans (hc i v hv)⟩
theorem Rd.drewN (h : Rd w A xs) (k : Nat) : Rd (w.drewN k) A xs := h
theorem Rd.alloc (h : Rd w A xs) (o : Obj) : Rd (w.alloc o) A xs := h.below ((Below.refl _ _).alloc (Nat.le_refl _) o)
theorem Rd.open_ (h : Rd w A xs) (hx : 0 < xs.length) : ∃ b off, A = some ⟨b, off, none⟩ ∧ b < w.heap.size ∧ ∀ i v, xs[i]? = some v → w.cell? ⟨b, off + i, none⟩ = some v :=
 h (fun e => by rw [e] at hx; exact absurd hx (by decide))
theorem own_slice (h : w.ownsRow B e 1 v n xs) : ∃ A c, v = .slice A xs.length c ∧ n = xs.length ∧ xs.length ≤ c ∧ c ≤ maxLen ∧ Rd w A xs ∧ (∀ a, A = some a → B ≤ a.block) := by
 have hl := h.1
 rcases h.2 with ⟨rfl, h0⟩ | ⟨g, cap, cur, rfl, hb, hg, hnc, hcm, hcs, ht⟩
 ·have hx : xs = [] := List.eq_nil_of_length_eq_zero (by omega)
  subst hx
  exact ⟨none, 0, rfl, by omega, by simp, by simp [maxLen], Rd.nil _ _, fun a ha => by cases ha⟩
 ·have hn : n = xs.length := by omega
  subst hn
  refine ⟨_, cap, rfl, rfl, hnc, hcm, fun _ => ⟨g, 0, rfl, ?_, fun i u hu => ?_⟩, fun a ha => by cases ha; exact hb⟩
  ·rcases Nat.lt_or_ge g w.heap.size with h' | h'
   ·exact h'
   ·rw [Array.getElem?_eq_none h'] at hg; cases hg
  ·have := h.cells (g := g) rfl i u hu
   rwa [Addr.add_lit] at this

theorem own_val (h : w.ownsRow B e 1 v n xs) : ∃ A c, v = .slice A n c ∧ n ≤ c ∧ c ≤ maxLen ∧ Rd w A xs ∧ (∀ a, A = some a → B ≤ a.block) ∧ xs.length = n := by
 obtain ⟨A, c, hv, hn, h1, h2, h3, h4⟩ := own_slice h
 rw [← hn] at hv h1
 exact ⟨A, c, hv, h1, h2, h3, h4, hn.symm⟩

theorem own_below (h : w.ownsRow B e 1 v n xs) (hb : Below w.heap.size w w') : w'.ownsRow B e 1 v n xs := by
 refine ⟨h.1, ?_⟩
 rcases h.2 with h0 | ⟨g, cap, cur, hv, hB, hg, h1, h2, h3, h4⟩
 ·exact .inl h0
 ·have hlt : g < w.heap.size := by
   rcases Nat.lt_or_ge g w.heap.size with h' | h'
   ·exact h'
   ·rw [Array.getElem?_eq_none h'] at hg; cases hg
  exact .inr ⟨g, cap, cur, hv, hB, (hb.block g hlt).trans hg, h1, h2, h3, h4⟩
theorem own_cast {n' : Nat} (h : w.ownsRow B e 1 v n xs) (hn : n = n') : w.ownsRow B e 1 v n' xs := hn ▸ h
theorem own_conv {ys : List Value} {n' : Nat} (h : w.ownsRow B e 1 v n xs) (hx : xs = ys) (hn : n = n') : w.ownsRow B e 1 v n' ys := hx ▸ hn ▸ h

theorem below_own {a : World} (h : Below B a w) (ho : w.ownsRow B e 1 v n xs) (hg : w.grownBy w' v.ownBlock) (hB : B ≤ w.heap.size) : Below B a w' :=
 h.grown hg hB fun k hk => (ho.lt k hk).1

theorem below_n {a : World} (h : Below B a w) (k : Nat) : Below B a (w.drewN k) := ⟨h.os, h.tape, h.output, h.size, h.block⟩
end

theorem ret_bool {a b : Bool} (h : a = b) : Ending.returned (.bool a) = .returned (.bool b) := by rw [h]
theorem ret_int {k : IntKind} {a b : Int} (h : a = b) : Ending.returned (.int k a) = .returned (.int k b) := by rw [h]

/-! ### what a call leaves -/
def Made (B : Nat) (e : TypeId) (w : World) (xs : List Value) (en : Ending) (w' : World) : Prop :=
 ∃ v, en = .returned v ∧ w'.ownsRow B e 1 v xs.length xs ∧ Below B w w'
def Tells (B : Nat) (w : World) (v : Value) (en : Ending) (w' : World) : Prop := en = .returned v ∧ Below B w w'

/-! ### append -/
section
variable {P : Program} (w : World)

theorem wpList_app_one {ops : Array Oper} {rest : List Oper} {o : Oper} {a : Act} {Q : Exit → Act → World → Prop} (hgd : o.guard = none) (s x : Operand) (t : TypeId)
  (ho : o.op = .call { callee := .builtin .append, args := #[s, x], argTypes := #[t, t] })
  (B : Nat) (e : TypeId) (z : Value) (bytes : Nat) (ht : P.underlying t = some (.slice e)) (hinfo : (P.info? e).map (fun i => (i.zero, i.size, i.bytes)) = some (some z, 1, bytes)) (hzs : z.cells.size = 1) (hby : bytes ≤ 16)
  (v : Value) (n : Nat) (xs : List Value) (hs : a.eval s = v) (hown : w.ownsRow B e 1 v n xs)
  (g : Nat) (u : Value) (hx : a.eval x = .slice (some ⟨g, 0, none⟩) 1 1) (hc : w.cell? ⟨g, 0, none⟩ = some u) (h1 : u.oneCell' = true)
  (hn : n + 1 ≤ 1099511627776) (hB : B ≤ w.heap.size)
  (h : ∀ v' w', w'.ownsRow B e 1 v' (n + 1) (xs ++ [u]) → Below B w w' → wpList P ops Q rest (a.put o.dst v') w') : wpList P ops Q (o :: rest) a w := by
 obtain ⟨i, hi, hz, hsize, hbytes⟩ := info_parts hinfo
 refine wpList_append_own (P := P) w hgd s x t ho B e i z 1 bytes ht hi hz hsize hbytes hzs (by decide) v n xs hs hown ⟨g, 0, none⟩ 1 1 [u] hx rfl ?_ ?_ (by unfold maxLen; omega) ?_ hB ?_
 ·intro j y hj
  match j with
  | 0 =>
   simp only [List.getElem?_cons_zero, Option.some.injEq] at hj
   subst hj
   rw [Addr.add_lit]
   exact hc
  | j + 1 => simp at hj
 ·intro y hy
  simp only [List.mem_singleton] at hy
  subst hy
  exact h1
 ·have := Nat.mul_le_mul hn hby
  omega
 ·intro v' w' hown' hg _
  exact h v' w' hown' (below_own (Below.refl _ _) hown hg hB)

end

def u8s (l : List Int) : List Value := l.map (Value.int .u8)
def i64s (l : List Int) : List Value := l.map (Value.int .i64)
theorem i64s_length (l : List Int) : (i64s l).length = l.length := by simp [i64s]
theorem i64s_append (a b : List Int) : i64s (a ++ b) = i64s a ++ i64s b := by simp [i64s]
theorem i64s_one (l : List Int) : ∀ u ∈ i64s l, u.oneCell' = true := fun u hu => by
 obtain ⟨_, _, rfl⟩ := List.mem_map.1 hu; rfl
theorem i64s_at {l : List Int} {i : Nat} (h : i < l.length) : (i64s l)[i]? = some (.int .i64 (l[i]?.getD 0)) := by simp [i64s, h]
end Go.Proofs.YteepobghdpnabaaGreat
namespace Go.Proofs.YteepobghdpnabaaGreat
open Go.RowKit

theorem getD_some {α : Type} {l : List α} {i : Nat} {d : α} (h : i < l.length) : l[i]? = some (l[i]?.getD d) := by simp [h]
end Go.Proofs.YteepobghdpnabaaGreat
namespace Go.Proofs.YteepobghdpnabaaGreat
open Go.RowKit

/-! ### which may be -/
def risB (l : List Int) : Bool := match l with
 | [] => true
 | x :: r => (match r with | [] => true | y :: _ => decide (x < y)) && risB r
def betB (lo hi : Int) (l : List Int) : Bool := l.all fun x => decide (lo ≤ x ∧ x ≤ hi)
def mayB (n : Int) : Bool := decide (1 ≤ n ∧ n ≤ 16 ∧ n % 3 = 1)
theorem risB_cons {x y : Int} {r : List Int} : risB (x :: y :: r) = (decide (x < y) && risB (y :: r)) := rfl
theorem risB_iff : ∀ {l : List Int}, risB l = true ↔ ∀ (i : Nat) (x y : Int), l[i]? = some x → l[i + 1]? = some y → x < y
 | [] => ⟨fun _ i x y h => by simp at h, fun _ => rfl⟩
 | [x] => ⟨fun _ i a b h h' => by simp at h', fun _ => rfl⟩
 | x :: y :: r => by
  have ih := risB_iff (l := y :: r)
  rw [risB_cons, Bool.and_eq_true, decide_eq_true_eq, ih]
  constructor
  ·rintro ⟨h0, h1⟩ i a b ha hb
   cases i with
   | zero => simp at ha hb; subst ha hb; exact h0
   | succ i => exact h1 i a b (by simpa using ha) (by simpa using hb)
  ·intro h
   exact ⟨h 0 x y rfl rfl, fun i a b ha hb => h (i + 1) a b (by simpa using ha) (by simpa using hb)⟩
theorem betB_iff {lo hi : Int} {l : List Int} : betB lo hi l = true ↔ ∀ x ∈ l, lo ≤ x ∧ x ≤ hi := by
 unfold betB
 rw [List.all_eq_true]
 constructor
 ·intro h x hx; simpa using h x hx
 ·intro h x hx; simpa using h x hx
/-! ### numbers as one text -/
/-! ### a header as texts, and as bytes -/
section
variable {a r a' r' : Int} {B P B' P' : List Int}
def eqHdr (a r : Int) (B P : List Int) (a' r' : Int) (B' P' : List Int) : Bool := decide (a = a' ∧ r = r' ∧ B = B' ∧ P = P')
end

end Go.Proofs.YteepobghdpnabaaGreat
namespace Go.Proofs.YteepobghdpnabaaGreat
open Go.RowKit

def cnt (p : Nat → Bool) : Nat → Nat
 | 0 => 0
 | m + 1 => cnt p m + (if p m then 1 else 0)

theorem cnt_same {p q : Nat → Bool} : ∀ {m : Nat}, (∀ j, j < m → p j = q j) → cnt p m = cnt q m
 | 0, _ => rfl
 | m + 1, h => by
  rw [cnt, cnt, cnt_same (m := m) fun j hj => h j (by omega), h m (by omega)]
theorem cnt_le (p : Nat → Bool) : ∀ m : Nat, cnt p m ≤ m
 | 0 => Nat.le_refl _
 | m + 1 => by
  have := cnt_le p m
  rw [cnt]
  split <;> omega
theorem cnt_more {p q : Nat → Bool} {x : Nat} (hp : p x = false) (hq : q x = true) (h : ∀ j, j ≠ x → q j = p j) : ∀ {m : Nat}, x < m → cnt q m = cnt p m + 1
 | 0, hx => absurd hx (by omega)
 | m + 1, hx => by
  rw [cnt, cnt]
  rcases Nat.lt_or_ge x m with h' | h'
  ·rw [cnt_more hp hq h h', h m (by omega)]; omega
  ·obtain rfl : x = m := by omega
   rw [cnt_same (p := q) (q := p) (m := x) fun j hj => h j (by omega), hp, hq]
   simp
def seen (n : Int) (L : List Int) (j : Nat) : Bool := decide (1 ≤ (j : Int) ∧ (j : Int) ≤ n ∧ (j : Int) ∈ L)
def tal (n : Int) (L : List Int) : Nat := cnt (seen n L) 17

theorem seen_nil (n : Int) (j : Nat) : seen n [] j = false := by simp [seen]
theorem tal_nil (n : Int) : tal n [] = 0 := by
 show cnt (seen n []) 17 = 0
 rw [cnt_same (q := fun _ => false) fun j _ => seen_nil n j]
 rfl
theorem seen_out {n : Int} {L : List Int} {x : Int} (hx : x < 1 ∨ n < x) (j : Nat) : seen n (L ++ [x]) j = seen n L j := by
 simp only [seen, List.mem_append, List.mem_singleton]
 rw [decide_eq_decide]
 constructor
 ·rintro ⟨h1, h2, h3 | h3⟩
  ·exact ⟨h1, h2, h3⟩
  ·omega
 ·rintro ⟨h1, h2, h3⟩
  exact ⟨h1, h2, .inl h3⟩
theorem seen_other {n : Int} {L : List Int} {x : Nat} (j : Nat) (hj : j ≠ x) : seen n (L ++ [(x : Int)]) j = seen n L j := by
 simp only [seen, List.mem_append, List.mem_singleton]
 rw [decide_eq_decide]
 constructor
 ·rintro ⟨h1, h2, h3 | h3⟩
  ·exact ⟨h1, h2, h3⟩
  ·omega
 ·rintro ⟨h1, h2, h3⟩
  exact ⟨h1, h2, .inl h3⟩
theorem seen_self {n : Int} {L : List Int} {x : Nat} (h1 : 1 ≤ x) (h2 : (x : Int) ≤ n) : seen n (L ++ [(x : Int)]) x = true := by
 simp [seen]; omega
theorem seen_again {n : Int} {L : List Int} {x : Nat} (h : seen n L x = true) (j : Nat) : seen n (L ++ [(x : Int)]) j = seen n L j := by
 rcases Nat.decEq j x with hj | rfl
 ·exact seen_other j hj
 ·rw [h]
  simp only [seen, decide_eq_true_eq, List.mem_append] at h ⊢
  exact ⟨h.1, h.2.1, .inl h.2.2⟩
theorem tal_out {n : Int} {L : List Int} {x : Int} (hx : x < 1 ∨ n < x) : tal n (L ++ [x]) = tal n L := cnt_same fun j _ => seen_out hx j
theorem tal_again {n : Int} {L : List Int} {x : Nat} (h : seen n L x = true) : tal n (L ++ [(x : Int)]) = tal n L := cnt_same fun j _ => seen_again h j
theorem tal_new {n : Int} {L : List Int} {x : Nat} (h : seen n L x = false) (h1 : 1 ≤ x) (h2 : (x : Int) ≤ n) (h3 : x < 17) : tal n (L ++ [(x : Int)]) = tal n L + 1 :=
 cnt_more h (seen_self h1 h2) (fun j hj => seen_other j hj) h3
theorem tal_le (n : Int) (L : List Int) : tal n L ≤ 17 := cnt_le _ _
theorem take_one {α : Type} {l : List α} {k : Nat} {x : α} (h : l[k]? = some x) : l.take (k + 1) = l.take k ++ [x] := by
 rw [List.take_add_one, h]; rfl
theorem at_some {l : List Int} {k : Nat} (h : k < l.length) : l[k]? = some (l[k]?.getD 0) := by simp [h]

structure Flags (w : World) (B : Nat) (s : Nat → Bool) : Prop where
 lt : B < w.heap.size
 cell : ∀ j, j < 17 → w.cell? ⟨B, j, none⟩ = some (.bool (s j))
 free : ∀ j, w.frozen? ⟨B, j, none⟩ = false

theorem Flags.conv {w : World} {B : Nat} {s t : Nat → Bool} (h : Flags w B s) (e : ∀ j, t j = s j) : Flags w B t := by
 obtain rfl : t = s := funext e
 exact h

end Go.Proofs.YteepobghdpnabaaGreat
namespace Go.Proofs.YteepobghdpnabaaGreat
open Go.RowKit

def may (n : Int) : Bool := decide (1 ≤ n ∧ n ≤ 16 ∧ n % 3 = 1)
theorem may_yes {n : Int} (h : may n = true) : 1 ≤ n ∧ n ≤ 16 ∧ n % 3 = 1 := by simpa [may] using h
theorem may_no {n : Int} (h : may n = false) : n < 1 ∨ (1 ≤ n ∧ 16 < n) ∨ (1 ≤ n ∧ n ≤ 16 ∧ n % 3 ≠ 1) := by
 have : ¬ (1 ≤ n ∧ n ≤ 16 ∧ n % 3 = 1) := by simpa [may] using h
 omega

theorem ret_pair {k : IntKind} {a b : Int} {x : Value} (h : a = b) : Ending.returned (.tuple #[.int k a, x]) = .returned (.tuple #[.int k b, x]) := by rw [h]
theorem check_yes (n : Int) (h : may n = true) (w : World) : Calls Tryz.prog 76 #[.int .i64 n] w fun e w' => e = .returned (.int .i64 0) ∧ w = w' := by
 obtain ⟨h1, h2, h3⟩ := may_yes h
 have e1 : (n % 3 == 1) = true := by simp [h3]
 have e2 : (n % 3 != 1) = false := by simp [h3]
 clear h h3
 go_enter Tryz.func76, Tryz.ntmps76
 go_wp2
 go_ret
 exact ⟨rfl, rfl⟩
theorem check_no (n : Int) (h : may n = false) (w : World) : Calls Tryz.prog 76 #[.int .i64 n] w fun e w' => e = .returned (.int .i64 1) ∧ w = w' := by
 rcases may_no h with h1 | ⟨h1, h2⟩ | ⟨h1, h2, h3⟩
 ·clear h
  go_enter Tryz.func76, Tryz.ntmps76
  go_wp2
  go_ret
  exact ⟨rfl, rfl⟩
 ·clear h
  go_enter Tryz.func76, Tryz.ntmps76
  go_wp2
  go_ret
  exact ⟨rfl, rfl⟩
 ·have e1 : (n % 3 == 1) = false := by simp [h3]
  have e2 : (n % 3 != 1) = true := by simp [h3]
  clear h h3
  go_enter Tryz.func76, Tryz.ntmps76
  go_wp2
  go_ret
  exact ⟨rfl, rfl⟩

theorem rmay_yes (n : Int) (h : may n = true) (w : World) : Calls Tryz.prog 30 #[.int .i64 n] w fun e w' => e = .returned (.bool true) ∧ w = w' := by
 obtain ⟨h1, h2, h3⟩ := may_yes h
 have e1 : (n % 3 == 1) = true := by simp [h3]
 have e2 : (n % 3 != 1) = false := by simp [h3]
 clear h h3
 go_enter Tryz.func30, Tryz.ntmps30
 go_wp2
 go_ret
 exact ⟨rfl, rfl⟩
theorem rmay_no (n : Int) (h : may n = false) (w : World) : Calls Tryz.prog 30 #[.int .i64 n] w fun e w' => e = .returned (.bool false) ∧ w = w' := by
 rcases may_no h with h1 | ⟨h1, h2⟩ | ⟨h1, h2, h3⟩
 ·clear h
  go_enter Tryz.func30, Tryz.ntmps30
  go_wp2
  go_ret
  exact ⟨rfl, rfl⟩
 ·clear h
  go_enter Tryz.func30, Tryz.ntmps30
  go_wp2
  go_ret
  exact ⟨rfl, rfl⟩
 ·have e1 : (n % 3 == 1) = false := by simp [h3]
  have e2 : (n % 3 != 1) = true := by simp [h3]
  clear h h3
  go_enter Tryz.func30, Tryz.ntmps30
  go_wp2
  go_ret
  exact ⟨rfl, rfl⟩

theorem faults_yes (n : Int) (h : may n = true) (w : World) : Calls Tryz.prog 159 #[.int .i64 n] w fun e w' => e = .returned (.tuple #[.int .i64 (n / 3), .int .i64 0]) ∧ w = w' := by
 obtain ⟨h1, h2, h3⟩ := may_yes h
 have HE := Lib.hid (show (n - 1) / 3 = n / 3 by omega)
 have HM := Lib.hid h
 clear h h3
 go_enter Tryz.func159, Tryz.ntmps159
 go_wp2_with (go_at_call 76; refine (check_yes _ HM.out _).mono ?_; rintro e w' ⟨rfl, rfl⟩)
 go_ret2
 exact ⟨ret_pair HE.out, rfl⟩
theorem quorum_yes (n : Int) (h : may n = true) (w : World) : Calls Tryz.prog 146 #[.int .i64 n] w fun e w' => e = .returned (.tuple #[.int .i64 (2 * (n / 3) + 1), .int .i64 0]) ∧ w = w' := by
 obtain ⟨h1, h2, h3⟩ := may_yes h
 have HM := Lib.hid h
 have i1 : 0 ≤ n / 3 := by omega
 have i2 : n / 3 ≤ 5 := by omega
 clear h h3
 go_enter Tryz.func146, Tryz.ntmps146
 go_wp2_with (go_at_call 159; refine (faults_yes _ HM.out _).mono ?_; rintro e w' ⟨rfl, rfl⟩)
 go_ret2
 exact ⟨rfl, rfl⟩
end Go.Proofs.YteepobghdpnabaaGreat
namespace Go.Proofs.YteepobghdpnabaaGreat
open Go.RowKit

theorem info_i64 : (Tryz.prog.info? 3).map (fun i => (i.zero, i.size, i.bytes)) = some (some (.int .i64 0), 1, 8) := by kernel_rfl
theorem cell_new (w : World) (u : Value) (t : TypeId) : (w.alloc (.cells #[u] t)).cell? ⟨w.heap.size, 0, none⟩ = some u := by
 rw [World.cell?_alloc_at _ _ _ _ rfl]; rfl
theorem take_up {α : Type} {l : List α} {k : Nat} {x : α} (h : l[k]? = some x) : l.take (k + 1) = l.take k ++ [x] := by
 rw [List.take_add_one, h]; rfl

set_option maxHeartbeats 400000 in
theorem copyNumbers_any (A : Option Addr) (c n : Nat) (zs : List Int) (w : World) (hz : zs.length = n) (hr : Rd w A (i64s zs)) (hc : n ≤ c) (hn : n ≤ 1073741824) :
  Calls Tryz.prog 29 #[.slice A n c] w (Made w.heap.size 3 w (i64s zs)) := by
 have HZ := Lib.hid hz
 clear hz
 go_enter Tryz.func29, Tryz.ntmps29
 go_wp2
 go_loopw [3, 4] (fun v i wr => ∃ k : Nat, i = .int .i64 k ∧ k ≤ n ∧ wr.ownsRow w.heap.size 3 1 v k ((i64s zs).take k) ∧ Below w.heap.size w wr) (fun _ i _ => n - (intOf i).toNat)
 case atStart => exact ⟨0, rfl, by omega, World.ownsRow_nil _ _ _ _, Below.refl _ _⟩
 case round =>
  obtain ⟨k, rfl, hk, hown, hb⟩ := hrel
  by_cases hlt : k < n
  ·obtain ⟨b, off, rfl, hbl, hcell⟩ := (hr.below hb).open_ (by rw [i64s_length, HZ.out]; omega)
   have hc1 := hcell k _ (i64s_at (by rw [HZ.out]; exact hlt))
   clear hcell
   go_wp2_with (at_builtin; refine wpList_app_one _ rfl _ _ 25 rfl w.heap.size 3 (.int .i64 0) 8 Tryz.underlying25 info_i64 rfl (by decide) _ k _ rfl (hown.alloc _) wr.heap.size (.int .i64 (zs[k]?.getD 0)) rfl (cell_new _ _ _) rfl (by omega) (by have := hb.size; simp; omega) ?_)
   intro v' w1 hown1 hb1
   have hown2 := own_conv hown1 (take_up (i64s_at (by rw [HZ.out]; exact hlt))).symm rfl
   clear hown1 hown
   go_wp2
   go_roundw
   case rel => exact ⟨k + 1, by go_num, by omega, hown2, (hb.alloc hb.size _).trans hb1⟩
   case measure => simp [intOf]; omega
  ·obtain rfl : k = n := by omega
   go_wp2
   go_ret
   rw [List.take_of_length_le (by rw [i64s_length, HZ.out]; omega)] at hown
   exact ⟨_, rfl, own_cast hown (by rw [i64s_length, HZ.out]), hb⟩

end Go.Proofs.YteepobghdpnabaaGreat
namespace Go.Proofs.YteepobghdpnabaaGreat
open Go.RowKit

section
variable {w w' : World} {A : Option Addr} {xs : List Value} {B : Nat} {e : TypeId} {v : Value} {n s : Nat}

theorem ownS_slice (h : w.ownsRow B e s v n xs) : ∃ A c, v = .slice A n c ∧ n ≤ c ∧ c ≤ maxLen ∧ Rd w A xs ∧ (∀ a, A = some a → B ≤ a.block) ∧ xs.length = n * s := by
 have hl := h.1
 rcases h.2 with ⟨rfl, h0⟩ | ⟨g, cap, cur, rfl, hb, hg, hnc, hcm, hcs, ht⟩
 ·subst h0
  have hx : xs = [] := List.eq_nil_of_length_eq_zero (by simpa using hl)
  subst hx
  exact ⟨none, 0, rfl, by omega, by simp [maxLen], Rd.nil _ _, (fun a ha => by cases ha), hl⟩
 ·refine ⟨_, cap, rfl, hnc, hcm, fun _ => ⟨g, 0, rfl, ?_, fun i u hu => ?_⟩, (fun a ha => by cases ha; exact hb), hl⟩
  ·rcases Nat.lt_or_ge g w.heap.size with h' | h'
   ·exact h'
   ·rw [Array.getElem?_eq_none h'] at hg; cases hg
  ·have := h.cells (g := g) rfl i u hu
   rwa [Addr.add_lit] at this

theorem ownS_below (h : w.ownsRow B e s v n xs) (hb : Below w.heap.size w w') : w'.ownsRow B e s v n xs := by
 refine ⟨h.1, ?_⟩
 rcases h.2 with h0 | ⟨g, cap, cur, hv, hB, hg, h1, h2, h3, h4⟩
 ·exact .inl h0
 ·have hlt : g < w.heap.size := by
   rcases Nat.lt_or_ge g w.heap.size with h' | h'
   ·exact h'
   ·rw [Array.getElem?_eq_none h'] at hg; cases hg
  exact .inr ⟨g, cap, cur, hv, hB, (hb.block g hlt).trans hg, h1, h2, h3, h4⟩
theorem ownS_more {B' : Nat} (h : w.ownsRow B e s v n xs) (hB : B' ≤ B) : w.ownsRow B' e s v n xs := by
 refine ⟨h.1, ?_⟩
 rcases h.2 with h0 | ⟨g, cap, cur, hv, hb, hg, h1, h2, h3, h4⟩
 ·exact .inl h0
 ·exact .inr ⟨g, cap, cur, hv, Nat.le_trans hB hb, hg, h1, h2, h3, h4⟩
theorem ownS_conv {ys : List Value} {n' : Nat} (h : w.ownsRow B e s v n xs) (hx : xs = ys) (hn : n = n') : w.ownsRow B e s v n' ys := hx ▸ hn ▸ h
theorem belowS_own {a : World} (h : Below B a w) (ho : w.ownsRow B e s v n xs) (hg : w.grownBy w' v.ownBlock) (hB : B ≤ w.heap.size) : Below B a w' :=
 h.grown hg hB fun k hk => (ho.lt k hk).1
end

def MadeS (s B : Nat) (e : TypeId) (w : World) (n : Nat) (xs : List Value) (en : Ending) (w' : World) : Prop :=
 ∃ v, en = .returned v ∧ w'.ownsRow B e s v n xs ∧ Below B w w'

theorem wpList_app_elem {P : Program} (w : World) {ops : Array Oper} {rest : List Oper} {o : Oper} {a : Act} {Q : Exit → Act → World → Prop} (hgd : o.guard = none) (s x : Operand) (t : TypeId)
  (ho : o.op = .call { callee := .builtin .append, args := #[s, x], argTypes := #[t, t] })
  (B : Nat) (e : TypeId) (z : Value) (sz bytes : Nat) (ht : P.underlying t = some (.slice e)) (hinfo : (P.info? e).map (fun i => (i.zero, i.size, i.bytes)) = some (some z, sz, bytes)) (hzs : z.cells.size = sz) (hsz : 0 < sz) (hby : bytes ≤ 256)
  (v : Value) (n : Nat) (xs : List Value) (hs : a.eval s = v) (hown : w.ownsRow B e sz v n xs)
  (g : Nat) (us : List Value) (hx : a.eval x = .slice (some ⟨g, 0, none⟩) 1 1) (hu : us.length = sz) (hc : ∀ i u, us[i]? = some u → w.cell? ⟨g, i, none⟩ = some u) (h1 : ∀ u ∈ us, u.oneCell' = true)
  (hn : n + 1 ≤ 68719476736) (hB : B ≤ w.heap.size)
  (h : ∀ v' w', w'.ownsRow B e sz v' (n + 1) (xs ++ us) → Below B w w' → wpList P ops Q rest (a.put o.dst v') w') : wpList P ops Q (o :: rest) a w := by
 obtain ⟨i, hi, hz, hsize, hbytes⟩ := info_parts hinfo
 refine wpList_append_own (P := P) w hgd s x t ho B e i z sz bytes ht hi hz hsize hbytes hzs hsz v n xs hs hown ⟨g, 0, none⟩ 1 1 us hx (by omega) ?_ h1 (by unfold maxLen; omega) ?_ hB ?_
 ·intro j y hj
  rw [Addr.add_lit, Nat.zero_add]
  exact hc j y hj
 ·have := Nat.mul_le_mul hn hby
  omega
 ·intro v' w' hown' hg _
  exact h v' w' hown' (belowS_own (Below.refl _ _) hown hg hB)

theorem ownS_new (w : World) (B : Nat) (e : TypeId) (s n : Nat) (cs : List Value) (hl : cs.length = n * s) (hn : n ≤ maxLen) (hB : B ≤ w.heap.size) : (w.alloc (.cells cs.toArray e)).ownsRow B e s (.slice (some ⟨w.heap.size, 0, none⟩) n n) n cs :=
 ⟨hl, .inr ⟨w.heap.size, n, cs.toArray, rfl, hB, heap_alloc_new w _, Nat.le_refl _, hn, by simpa using hl, by rw [List.toList_toArray]; exact List.take_of_length_le (by omega)⟩⟩
theorem cells_new (w : World) (cs : List Value) (t : TypeId) : ∀ i u, cs[i]? = some u → (w.alloc (.cells cs.toArray t)).cell? ⟨w.heap.size, i, none⟩ = some u := fun i u hu => by
 rw [World.cell?_alloc_at _ _ _ _ rfl]
 simpa using hu
theorem take_next {α : Type} {l : List α} {k : Nat} {x : α} (h : l[k]? = some x) : l.take (k + 1) = l.take k ++ [x] := by
 rw [List.take_add_one, h]; rfl

end Go.Proofs.YteepobghdpnabaaGreat
