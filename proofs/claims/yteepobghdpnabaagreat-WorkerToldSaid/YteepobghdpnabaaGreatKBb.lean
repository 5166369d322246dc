/-
 The page's own walks on headers: which may be.
-/
import Derived.Laws.StructEq
import Derived.Deep.RegionHeld3
import Derived.Deep.AppendLies
import Derived.OneCell
import Derived.Test.YteepobghdpnabaaGreatRows
import Derived.WalkSpells
import Derived.WalkLawsBesides
import Derived.Deep.QuietTactic
import Derived.BigQuiet
import Derived.LoopTactic
import Derived.Outline
import Derived.Test.YteepobghdpnabaaGreatKBa
namespace Go.Proofs.YteepobghdpnabaaGreat
open Go.RowKit

theorem may_is (n : Int) : mayB n = may n := rfl
theorem ret_boolH {a b : Bool} (h : a = b) : Ending.returned (.bool a) = .returned (.bool b) := by rw [h]
theorem rmay_is (b : Bool) (n : Int) (h : mayB n = b) (w : World) : Calls Tryz.prog 30 #[.int .i64 n] w fun e w' => e = .returned (.bool b) ∧ w = w' := by
 cases b with
 | true => exact rmay_yes n h w
 | false => exact rmay_no n h w
theorem rdigest_is (b : Bool) (d : Int) (h : decide (1 ≤ d ∧ d ≤ 65536) = b) (w : World) : Calls Tryz.prog 36 #[.int .i64 d] w fun e w' => e = .returned (.bool b) ∧ w = w' := by
 by_cases h1 : 1 ≤ d
 ·by_cases h2 : d ≤ 65536
  ·have hb : b = true := by rw [← h]; simp [h1, h2]
   subst hb
   clear h
   go_enter Tryz.func36, Tryz.ntmps36
   go_wp2
   go_ret
   exact ⟨ret_boolH (by first | done | rfl | simp | simp [h2]), rfl⟩
  ·have hb : b = false := by rw [← h]; simp [h2]
   subst hb
   clear h
   go_enter Tryz.func36, Tryz.ntmps36
   go_wp2
   go_ret
   exact ⟨ret_boolH (by first | done | rfl | simp | simp [h2]), rfl⟩
 ·have hb : b = false := by rw [← h]; simp [h1]
  subst hb
  clear h
  go_enter Tryz.func36, Tryz.ntmps36
  go_wp2
  go_ret
  exact ⟨ret_boolH (by simp), rfl⟩

theorem bet_next {lo hi : Int} {l : List Int} {k : Nat} {z : Int} (h : betB lo hi (l.take k) = true) (hz : l[k]? = some z) (h1 : lo ≤ z) (h2 : z ≤ hi) : betB lo hi (l.take (k + 1)) = true := by
 rw [take_next hz, betB, List.all_append]
 rw [betB] at h
 rw [h]
 simp [h1, h2]
theorem bet_not {lo hi : Int} {l : List Int} {k : Nat} {z : Int} (hz : l[k]? = some z) (h : ¬ (lo ≤ z ∧ z ≤ hi)) : betB lo hi l = false := by
 cases hb : betB lo hi l with
 | false => rfl
 | true => exact absurd (betB_iff.1 hb z (List.mem_of_getElem? hz)) h

set_option maxHeartbeats 400000 in
theorem rbetween_is (b : Bool) (A : Option Addr) (c n : Nat) (zs : List Int) (lo hi : Int) (w : World) (hb : betB lo hi zs = b) (hz : zs.length = n) (hr : Rd w A (i64s zs)) (hn : n ≤ 1073741824) :
  Calls Tryz.prog 38 #[.slice A n c, .int .i64 lo, .int .i64 hi] w fun e w' => e = .returned (.bool b) ∧ w = w' := by
 have HZ := Lib.hid hz
 have HB := Lib.hid hb
 clear hz hb
 go_enter Tryz.func38, Tryz.ntmps38
 go_wp2
 go_loop [7] (fun i => ∃ k : Nat, i = .int .i64 k ∧ k ≤ n ∧ Hid (betB lo hi (zs.take k) = true)) (fun i => n - (intOf i).toNat)
 case atStart => exact ⟨0, rfl, by omega, rfl⟩
 case round =>
  obtain ⟨k, rfl, hk, HE⟩ := hrel
  by_cases hlt : k < n
  ·obtain ⟨b', off, rfl, hbl, hcell⟩ := hr.open_ (by rw [i64s_length, HZ.out]; omega)
   obtain ⟨z, hzk⟩ : ∃ z, zs[k]? = some z := ⟨zs[k]'(by rw [HZ.out]; exact hlt), by simp [HZ.out, hlt]⟩
   have hc1 := hcell k (.int .i64 z) (by simp [i64s, hzk])
   have HK := Lib.hid hzk
   have i0 : (0 : Int) ≤ (k : Int) := by omega
   have i1 : (k : Int) < (n : Int) := by omega
   clear hcell hzk
   by_cases h1 : z < lo
   ·have HT := Lib.hid (bet_not HK.out (lo := lo) (hi := hi) (by omega))
    go_wp2
    go_ret
    exact ⟨ret_boolH (by rw [← HB.out, HT.out]), rfl⟩
   ·by_cases h2 : hi < z
    ·have HT := Lib.hid (bet_not HK.out (lo := lo) (hi := hi) (by omega))
     go_wp2
     go_ret
     exact ⟨ret_boolH (by rw [← HB.out, HT.out]), rfl⟩
    ·have HT := Lib.hid (bet_next HE.out HK.out (by omega) (by omega))
     go_wp2
     go_round
     case rel => exact ⟨k + 1, by go_num, by omega, HT.out⟩
     case measure => simp [intOf]; omega
  ·have i1 : ¬ ((k : Int) < (n : Int)) := by omega
   have HT : Hid (betB lo hi zs = true) := by
    have := HE.out
    rwa [List.take_of_length_le (by rw [HZ.out]; omega)] at this
   go_wp2
   go_ret
   exact ⟨ret_boolH (by rw [← HB.out, HT.out]), rfl⟩

def RisTo (zs : List Int) (j : Nat) : Prop := ∀ (i : Nat) (x y : Int), i < j → zs[i]? = some x → zs[i + 1]? = some y → x < y
theorem risTo_all {zs : List Int} {j : Nat} (h : RisTo zs j) (hl : zs.length ≤ j + 1) : risB zs = true := risB_iff.2 fun i x y hx hy => by
 refine h i x y ?_ hx hy
 rcases Nat.lt_or_ge (i + 1) zs.length with h' | h'
 ·omega
 ·rw [List.getElem?_eq_none h'] at hy; cases hy
theorem risTo_next {zs : List Int} {j : Nat} {x y : Int} (h : RisTo zs j) (hx : zs[j]? = some x) (hy : zs[j + 1]? = some y) (hxy : x < y) : RisTo zs (j + 1) := fun i u v hi hu hv => by
 by_cases hij : i = j
 ·subst hij
  rw [hx] at hu
  rw [hy] at hv
  cases hu
  cases hv
  exact hxy
 ·exact h i u v (by omega) hu hv
theorem ris_not {zs : List Int} {j : Nat} {x y : Int} (hx : zs[j]? = some x) (hy : zs[j + 1]? = some y) (hxy : y ≤ x) : risB zs = false := by
 cases hb : risB zs with
 | false => rfl
 | true => have := risB_iff.1 hb j x y hx hy; omega

set_option maxHeartbeats 800000 in
theorem rrising_is (b : Bool) (A : Option Addr) (c n : Nat) (zs : List Int) (w : World) (hb : risB zs = b) (hz : zs.length = n) (hr : Rd w A (i64s zs)) (hn : n ≤ 1073741824) :
  Calls Tryz.prog 37 #[.slice A n c] w fun e w' => e = .returned (.bool b) ∧ ∃ d, w' = w.drewN d := by
 have HZ := Lib.hid hz
 have HB := Lib.hid hb
 clear hz hb
 go_enter Tryz.func37, Tryz.ntmps37
 go_wp2
 go_loopw [3] (fun i wr => ∃ j d : Nat, i = .int .i64 ((j : Int) + 1) ∧ j ≤ n ∧ Hid (RisTo zs j) ∧ wr = w.drewN d) (fun i _ => n + 1 - (intOf i).toNat)
 case atStart => exact ⟨0, 0, rfl, by omega, fun i x y hi => absurd hi (by omega), rfl⟩
 case round =>
  obtain ⟨j, d, rfl, hj, HE, rfl⟩ := hrel
  by_cases hlt : j + 1 < n
  ·obtain ⟨b', off, rfl, hbl, hcell⟩ := hr.open_ (by rw [i64s_length, HZ.out]; omega)
   obtain ⟨x, hx⟩ : ∃ x, zs[j]? = some x := ⟨zs[j]'(by rw [HZ.out]; omega), by simp⟩
   obtain ⟨y, hy⟩ : ∃ y, zs[j + 1]? = some y := ⟨zs[j + 1]'(by rw [HZ.out]; omega), by simp⟩
   have hc1 := hcell j (.int .i64 x) (by simp [i64s, hx])
   have hc2 := hcell (j + 1) (.int .i64 y) (by simp [i64s, hy])
   have HX := Lib.hid hx
   have HY := Lib.hid hy
   have i0 : (0 : Int) ≤ (j : Int) := by omega
   have i1 : (j : Int) < (n : Int) := by omega
   have i2 : (0 : Int) ≤ (j : Int) + 1 := by omega
   have i3 : (j : Int) + 1 < (n : Int) := by omega
   have s1 : wrap64 (j : Int) = (j : Int) := IntWalk.wrap64_in _ (by omega)
   have s2 : IntKind.i64.wrap (j : Int) = (j : Int) := IntWalk.i64_in _ (by omega)
   have s3 : IntKind.i64.wrap ((j : Int) + 1 - 1) = (j : Int) := by rw [IntWalk.i64_in _ (by omega)]; omega
   have t1 : ((j : Int) + 1).toNat = j + 1 := by omega
   clear hcell hx hy
   by_cases hxy : y ≤ x
   ·have HT := Lib.hid (ris_not HX.out HY.out hxy)
    go_wp2
    go_quiet (fail)
    go_wp2
    go_ret
    exact ⟨ret_boolH (by rw [← HB.out, HT.out]), d + _, World.drewN_drewN _ _ _⟩
   ·have HT := Lib.hid (risTo_next HE.out HX.out HY.out (by omega))
    go_wp2
    go_quiet (fail)
    go_wp2
    go_roundw
    case rel => exact ⟨j + 1, _, by go_num, by omega, HT.out, by first | rfl | exact World.drewN_drewN _ _ _⟩
    case measure => simp [intOf]; omega
  ·have i1 : ¬ ((j : Int) + 1 < (n : Int)) := by omega
   have HT := Lib.hid (risTo_all HE.out (by rw [HZ.out]; omega))
   go_wp2
   go_ret
   exact ⟨ret_boolH (by rw [← HB.out, HT.out]), d, rfl⟩

theorem rdigests0_is (b : Bool) (A : Option Addr) (c n : Nat) (zs : List Int) (w : World) (hb : betB 1 65536 zs = b) (hz : zs.length = n) (hr : Rd w A (i64s zs)) (hn : n ≤ 1073741824) :
  Calls Tryz.prog 34 #[.slice A n c] w fun e w' => e = .returned (.bool b) ∧ w = w' := by
 have HB := Lib.hid hb
 have HZ := Lib.hid hz
 clear hb hz
 go_enter Tryz.func34, Tryz.ntmps34
 go_wp2_with fail
 refine (rbetween_is b A c n zs 1 65536 _ HB.out HZ.out hr hn).mono ?_
 rintro e w' ⟨rfl, rfl⟩
 go_wp2_with fail
 go_ret
 exact ⟨rfl, rfl⟩

end Go.Proofs.YteepobghdpnabaaGreat
namespace Go.Proofs.YteepobghdpnabaaGreat
open Go.RowKit

section
variable {P : Program} (w : World)
end

/-! the same, and that only the row itself may have turned -/
section
variable {P : Program} (w : World)
end

theorem Rd.drew {w : World} {A : Option Addr} {xs : List Value} (h : Rd w A xs) : Rd w.drew A xs := h
theorem rd_new (w : World) (cs : List Value) (t : TypeId) : Rd (w.alloc (.cells cs.toArray t)) (some ⟨w.heap.size, 0, none⟩) cs := fun _ =>
 ⟨w.heap.size, 0, rfl, by simp, fun i v hv => by rw [Nat.zero_add, World.cell?_alloc_at _ _ _ _ rfl]; simpa using hv⟩

end Go.Proofs.YteepobghdpnabaaGreat
namespace Go.Proofs.YteepobghdpnabaaGreat
open Go.RowKit

structure Touch (F : Nat → Prop) (w w' : World) : Prop where
 os : w'.os = w.os
 tape : w'.tape = w.tape
 output : w'.output = w.output
 size : w.heap.size ≤ w'.heap.size
 block : ∀ k, k < w.heap.size → ¬ F k → w'.heap[k]? = w.heap[k]?

section
variable {F F' : Nat → Prop} {w w' w'' : World} {B : Nat}

theorem Touch.refl (F : Nat → Prop) (w : World) : Touch F w w := ⟨rfl, rfl, rfl, Nat.le_refl _, fun _ _ _ => rfl⟩
theorem Touch.of (h : Below w.heap.size w w') : Touch F w w' := ⟨h.os, h.tape, h.output, h.size, fun k hk _ => h.block k hk⟩
theorem Touch.trans (h : Touch F w w') (k : Touch F' w' w'') (hs : ∀ k, F' k → F k ∨ w.heap.size ≤ k) : Touch F w w'' :=
 ⟨k.os.trans h.os, k.tape.trans h.tape, k.output.trans h.output, Nat.le_trans h.size k.size, fun i hi hn =>
  (k.block i (Nat.lt_of_lt_of_le hi h.size) (fun hf => by rcases hs i hf with h' | h'; exact hn h'; omega)).trans (h.block i hi hn)⟩
theorem Touch.mono (h : Touch F w w') (hs : ∀ k, F k → F' k) : Touch F' w w' := ⟨h.os, h.tape, h.output, h.size, fun k hk hn => h.block k hk fun hf => hn (hs k hf)⟩
theorem Touch.below (h : Touch F w w') (hF : ∀ k, F k → B ≤ k) (hB : B ≤ w.heap.size) : Below B w w' :=
 ⟨h.os, h.tape, h.output, h.size, fun k hk => h.block k (by omega) fun hf => by have := hF k hf; omega⟩
theorem Touch.cell (h : Touch F w w') {b o : Nat} (hb : b < w.heap.size) (hn : ¬ F b) : w'.cell? ⟨b, o, none⟩ = w.cell? ⟨b, o, none⟩ := World.cell?_of_block (a := ⟨b, o, none⟩) (h.block b hb hn)
theorem Touch.frozen (h : Touch F w w') {b o : Nat} (hb : b < w.heap.size) (hn : ¬ F b) : w'.frozen? ⟨b, o, none⟩ = w.frozen? ⟨b, o, none⟩ := World.frozen?_of_block (a := ⟨b, o, none⟩) (h.block b hb hn)
theorem Touch.grown {row : Option Nat} (h : w.grownBy w' row) (hr : ∀ k, row = some k → F k) : Touch F w w' :=
 ⟨h.os, h.tape, h.output, h.size, fun k hk hn => h.block k hk fun e => hn (hr k e.symm)⟩
theorem Touch.set (h : Touch F w w') {b o : Nat} (hb : F b ∨ w.heap.size ≤ b) (u : Value) : Touch F w (w'.setCell ⟨b, o, none⟩ u) :=
 ⟨h.os, h.tape, h.output, by simpa using h.size, fun k hk hn => (Below.heap_setCell _ _ _ _ (by intro e; have e' : k = b := e; rcases hb with hb | hb; exact hn (e' ▸ hb); omega)).trans (h.block k hk hn)⟩
theorem Touch.alloc (h : Touch F w w') (o : Obj) : Touch F w (w'.alloc o) :=
 h.trans (F' := fun _ => False) (Touch.of ((Below.refl _ _).alloc (Nat.le_refl _) o)) (fun _ h => h.elim)
theorem Touch.drewN (h : Touch F w w') (n : Nat) : Touch F w (w'.drewN n) := ⟨h.os, h.tape, h.output, h.size, h.block⟩
theorem Touch.then (h : Touch F w w') (k : Below w'.heap.size w' w'') : Touch F w w'' := h.trans (F' := fun _ => False) (Touch.of k) (fun _ h => h.elim)

theorem Rd.kept {A : Option Addr} {xs : List Value} (h : Rd w A xs) (hs : w.heap.size ≤ w'.heap.size) (hk : ∀ a, A = some a → a.block < w.heap.size → w'.heap[a.block]? = w.heap[a.block]?) : Rd w' A xs := fun hx => by
 obtain ⟨b, off, e, hl, hc⟩ := h hx
 exact ⟨b, off, e, Nat.lt_of_lt_of_le hl hs, fun i v hv => (World.cell?_of_block (a := ⟨b, off + i, none⟩) (hk ⟨b, off, none⟩ e hl)).trans (hc i v hv)⟩
theorem own_kept {e : TypeId} {s n : Nat} {v : Value} {xs : List Value} (h : w.ownsRow B e s v n xs) (hk : ∀ g, v.ownBlock = some g → g < w.heap.size → w'.heap[g]? = w.heap[g]?) : w'.ownsRow B e s v n xs := by
 refine ⟨h.1, ?_⟩
 rcases h.2 with h0 | ⟨g, cap, cur, hv, hB, hh, h1⟩
 ·exact .inl h0
 ·have hlt : g < w.heap.size := lt_of_block hh
  exact .inr ⟨g, cap, cur, hv, hB, (hk g (by rw [hv]; rfl) hlt).trans hh, h1⟩
theorem own_lt {e : TypeId} {s n : Nat} {v : Value} {xs : List Value} (h : w.ownsRow B e s v n xs) {g : Nat} (hg : v.ownBlock = some g) : g < w.heap.size ∧ B ≤ g := by
 rcases h.2 with ⟨rfl, _⟩ | ⟨g', cap, cur, rfl, hB, hh, _⟩
 ·simp [Value.ownBlock] at hg
 ·have : g' = g := by simpa [Value.ownBlock] using hg
  subst this
  exact ⟨lt_of_block hh, hB⟩
theorem own_low {e : TypeId} {s n B' : Nat} {v : Value} {xs : List Value} (h : w.ownsRow B e s v n xs) (hB : ∀ g, v.ownBlock = some g → B' ≤ g) : w.ownsRow B' e s v n xs := by
 refine ⟨h.1, ?_⟩
 rcases h.2 with h0 | ⟨g, cap, cur, hv, _, hh, h1⟩
 ·exact .inl h0
 ·exact .inr ⟨g, cap, cur, hv, hB g (by rw [hv]; rfl), hh, h1⟩
end

theorem wpList_app_lies {P : Program} (w : World) {ops : Array Oper} {rest : List Oper} {o : Oper} {a : Act} {Q : Exit → Act → World → Prop} (hgd : o.guard = none) (s x : Operand) (t : TypeId)
  (ho : o.op = .call { callee := .builtin .append, args := #[s, x], argTypes := #[t, t] })
  (B : Nat) (e : TypeId) (z : Value) (bytes : Nat) (ht : P.underlying t = some (.slice e)) (hinfo : (P.info? e).map (fun i => (i.zero, i.size, i.bytes)) = some (some z, 1, bytes)) (hzs : z.cells.size = 1) (hby : bytes ≤ 256)
  (v : Value) (n : Nat) (xs : List Value) (hs : a.eval s = v) (hown : w.ownsRow B e 1 v n xs)
  (g : Nat) (u : Value) (hx : a.eval x = .slice (some ⟨g, 0, none⟩) 1 1) (hc : w.cell? ⟨g, 0, none⟩ = some u) (h1 : u.oneCell' = true)
  (hn : n + 1 ≤ 68719476736) (hB : B ≤ w.heap.size)
  (h : ∀ g' c' w', w'.ownsRow B e 1 (.slice (some ⟨g', 0, none⟩) (n + 1) c') (n + 1) (xs ++ [u]) → w.grownBy w' v.ownBlock → (v.ownBlock = some g' ∨ g' = w.heap.size) → wpList P ops Q rest (a.put o.dst (.slice (some ⟨g', 0, none⟩) (n + 1) c')) w') : wpList P ops Q (o :: rest) a w := by
 obtain ⟨i, hi, hz, hsize, hbytes⟩ := info_parts hinfo
 refine wpList_append_lies (P := P) w hgd s x t ho B e i z 1 bytes ht hi hz hsize hbytes hzs (by decide) v n xs hs hown ⟨g, 0, none⟩ 1 1 [u] hx rfl ?_ ?_ (by decide) (by unfold maxLen; omega) ?_ hB _ rfl ?_
 ·intro j y hj
  match j with
  | 0 =>
   simp only [List.getElem?_cons_zero, Option.some.injEq] at hj
   subst hj
   rw [Addr.add_lit]
   exact hc
  | j + 1 => simp at hj
 ·intro y hy
  simp only [List.mem_singleton] at hy
  subst hy
  exact h1
 ·have := Nat.mul_le_mul hn hby
  omega
 ·intro g' cap w' hown' hg hat _
  exact h g' cap w' hown' hg hat

theorem step_app_lies {P : Program} (w : World) {ops : Array Oper} {o : Oper} {a : Act} {K : Act → World → Prop} {Q : Exit → Act → World → Prop} {E : Prop} (hgd : o.guard = none) (s x : Operand) (t : TypeId)
  (ho : o.op = .call { callee := .builtin .append, args := #[s, x], argTypes := #[t, t] })
  (B : Nat) (e : TypeId) (z : Value) (bytes : Nat) (ht : P.underlying t = some (.slice e)) (hinfo : (P.info? e).map (fun i => (i.zero, i.size, i.bytes)) = some (some z, 1, bytes)) (hzs : z.cells.size = 1) (hby : bytes ≤ 256)
  (v : Value) (n : Nat) (xs : List Value) (hs : a.eval s = v) (hown : w.ownsRow B e 1 v n xs)
  (g : Nat) (u : Value) (hx : a.eval x = .slice (some ⟨g, 0, none⟩) 1 1) (hc : w.cell? ⟨g, 0, none⟩ = some u) (h1 : u.oneCell' = true)
  (hn : n + 1 ≤ 68719476736) (hB : B ≤ w.heap.size)
  (h : ∀ g' c' w', w'.ownsRow B e 1 (.slice (some ⟨g', 0, none⟩) (n + 1) c') (n + 1) (xs ++ [u]) → w.grownBy w' v.ownBlock → (v.ownBlock = some g' ∨ g' = w.heap.size) → K (a.put o.dst (.slice (some ⟨g', 0, none⟩) (n + 1) c')) w') : if Region.wanted o (yielded ops a.tmps) = true then Oper.wp P o a w K Q else E := by
 obtain ⟨i, hi, hz, hsize, hbytes⟩ := info_parts hinfo
 refine step_append_lies (P := P) w hgd s x t ho B e i z 1 bytes ht hi hz hsize hbytes hzs (by decide) v n xs hs hown ⟨g, 0, none⟩ 1 1 [u] hx rfl ?_ ?_ (by decide) (by unfold maxLen; omega) ?_ hB _ rfl ?_
 ·intro j y hj
  match j with
  | 0 =>
   simp only [List.getElem?_cons_zero, Option.some.injEq] at hj
   subst hj
   rw [Addr.add_lit]
   exact hc
  | j + 1 => simp at hj
 ·intro y hy
  simp only [List.mem_singleton] at hy
  subst hy
  exact h1
 ·have := Nat.mul_le_mul hn hby
  omega
 ·intro g' cap w' hown' hg hat _
  exact h g' cap w' hown' hg hat

end Go.Proofs.YteepobghdpnabaaGreat
namespace Go.Proofs.YteepobghdpnabaaGreat
open Go.RowKit

def CBox (w : World) (g : Nat) (a r : Int) (vB vP : Value) (d : Int) (vS : Value) : Prop :=
 w.cell? ⟨g, 0, none⟩ = some (.int .i64 a) ∧ w.cell? ⟨g, 1, none⟩ = some (.int .i64 r) ∧ w.cell? ⟨g, 2, none⟩ = some vB ∧ w.cell? ⟨g, 3, none⟩ = some vP ∧ w.cell? ⟨g, 4, none⟩ = some (.int .i64 d) ∧ w.cell? ⟨g, 5, none⟩ = some vS
theorem cbox_new {w w1 : World} {a r d : Int} {vB vP vS : Value} (h : w1 = w.alloc (.cells #[.int .i64 a, .int .i64 r, vB, vP, .int .i64 d, vS] 46)) : ∀ wX, Below w1.heap.size w1 wX → CBox wX w.heap.size a r vB vP d vS := by
 subst h
 intro wX hb
 have hs : w.heap.size < (w.alloc (.cells #[.int .i64 a, .int .i64 r, vB, vP, .int .i64 d, vS] 46)).heap.size := by simp
 refine ⟨(hb.cell (p := ⟨w.heap.size, 0, none⟩) hs).trans ?_, (hb.cell (p := ⟨w.heap.size, 1, none⟩) hs).trans ?_, (hb.cell (p := ⟨w.heap.size, 2, none⟩) hs).trans ?_, (hb.cell (p := ⟨w.heap.size, 3, none⟩) hs).trans ?_, (hb.cell (p := ⟨w.heap.size, 4, none⟩) hs).trans ?_, (hb.cell (p := ⟨w.heap.size, 5, none⟩) hs).trans ?_⟩
 all_goals
  rw [World.cell?_alloc_at _ _ _ _ rfl]
  rfl

def I64 (x : Int) : Prop := -9223372036854775808 ≤ x ∧ x ≤ 9223372036854775807
def I64s (l : List Int) : Prop := ∀ x ∈ l, I64 x

structure NumsIn (w : World) (A : Option Addr) (c n : Nat) (l : List Int) : Prop where
 hz : l.length = n
 hr : Rd w A (i64s l)
 hc : n ≤ c
 hm : c ≤ maxLen
 hi : I64s l
theorem NumsIn.below {w w' : World} {A : Option Addr} {c n : Nat} {l : List Int} (h : NumsIn w A c n l) (hb : Below w.heap.size w w') : NumsIn w' A c n l := ⟨h.hz, h.hr.below hb, h.hc, h.hm, h.hi⟩
theorem NumsIn.own {w : World} {B : Nat} {A : Option Addr} {c n : Nat} {l : List Int} (h : w.ownsRow B 3 1 (.slice A n c) n (i64s l)) (hi : I64s l) : NumsIn w A c n l := by
 obtain ⟨A', c', hv, hc, hm, hr, _, hl⟩ := own_val h
 cases hv
 exact ⟨by rw [← hl, i64s_length], hr, hc, hm, hi⟩

structure HdrIn (w : World) (AB : Option Addr) (cB nB : Nat) (B : List Int) (AP : Option Addr) (cP nP : Nat) (P : List Int) : Prop where
 hB : NumsIn w AB cB nB B
 hP : NumsIn w AP cP nP P
 lB : nB ≤ 1000000
 lP : nP ≤ 1000000
theorem HdrIn.below {w w' : World} {AB AP : Option Addr} {cB nB cP nP : Nat} {B P : List Int} (h : HdrIn w AB cB nB B AP cP nP P) (hb : Below w.heap.size w w') : HdrIn w' AB cB nB B AP cP nP P := ⟨h.hB.below hb, h.hP.below hb, h.lB, h.lP⟩

end Go.Proofs.YteepobghdpnabaaGreat
namespace Go.Proofs.YteepobghdpnabaaGreat
open Go.RowKit

structure TxD where
 s : Int
 q : Int
 k : ByteArray
 v : ByteArray
deriving DecidableEq

def TxD.cells (t : TxD) : List Value := [.int .i64 t.s, .int .i64 t.q, .string t.k, .string t.v]
def TxD.val (t : TxD) : Value := .agg #[.int .i64 t.s, .int .i64 t.q, .string t.k, .string t.v]
def txs (L : List TxD) : List Value := L.flatMap TxD.cells
theorem txs_length (L : List TxD) : (txs L).length = L.length * 4 := by
 induction L with
 | nil => rfl
 | cons t L ih =>
  have : txs (t :: L) = t.cells ++ txs L := rfl
  rw [this, List.length_append, ih]
  simp [TxD.cells]; omega
theorem txs_append (a b : List TxD) : txs (a ++ b) = txs a ++ txs b := by simp [txs]
theorem txs_single (t : TxD) : txs [t] = t.cells := by simp [txs]
theorem txs_one (L : List TxD) : ∀ u ∈ txs L, u.oneCell' = true := fun u hu => by
 obtain ⟨t, _, h⟩ := List.mem_flatMap.1 hu
 simp only [TxD.cells, List.mem_cons, List.not_mem_nil, or_false] at h
 rcases h with rfl | rfl | rfl | rfl <;> rfl
theorem cells_one (t : TxD) : ∀ u ∈ t.cells, u.oneCell' = true := fun u hu => txs_one [t] u (by rwa [txs_single])
theorem txs_at {L : List TxD} : ∀ {i : Nat} {t : TxD}, L[i]? = some t →
  (txs L)[i * 4]? = some (.int .i64 t.s) ∧ (txs L)[i * 4 + 1]? = some (.int .i64 t.q) ∧ (txs L)[i * 4 + 2]? = some (.string t.k) ∧ (txs L)[i * 4 + 3]? = some (.string t.v) := by
 induction L with
 | nil => intro i t h; simp at h
 | cons x L ih =>
  intro i t h
  have e : txs (x :: L) = [.int .i64 x.s, .int .i64 x.q, .string x.k, .string x.v] ++ txs L := rfl
  cases i with
  | zero =>
   simp only [List.getElem?_cons_zero, Option.some.injEq] at h
   subst h
   rw [e]
   exact ⟨rfl, rfl, rfl, rfl⟩
  | succ i =>
   simp only [List.getElem?_cons_succ] at h
   obtain ⟨h0, h1, h2, h3⟩ := ih h
   rw [e]
   have k : ∀ j, ([Value.int .i64 x.s, .int .i64 x.q, .string x.k, .string x.v] ++ txs L)[(i + 1) * 4 + j]? = (txs L)[i * 4 + j]? := fun j => by
    rw [List.getElem?_append_right (by simp; omega)]
    congr 1
    simp; omega
   exact ⟨(k 0).trans h0, (k 1).trans h1, (k 2).trans h2, (k 3).trans h3⟩
theorem txD_at {L : List TxD} {i : Nat} (h : i < L.length) : ∃ t, L[i]? = some t := ⟨L[i], by simp [h]⟩

theorem Rd.tx {w : World} {A : Option Addr} {L : List TxD} (h : Rd w A (txs L)) {i : Nat} (hi : i < L.length) : ∃ b off t, A = some ⟨b, off, none⟩ ∧ b < w.heap.size ∧ L[i]? = some t ∧
  w.cell? ⟨b, off + i * 4, none⟩ = some (.int .i64 t.s) ∧ w.cell? ⟨b, off + i * 4 + 1, none⟩ = some (.int .i64 t.q) ∧ w.cell? ⟨b, off + i * 4 + 2, none⟩ = some (.string t.k) ∧ w.cell? ⟨b, off + i * 4 + 3, none⟩ = some (.string t.v) := by
 obtain ⟨b, off, rfl, hb, hc⟩ := h.open_ (by rw [txs_length]; omega)
 obtain ⟨t, ht⟩ := txD_at hi
 obtain ⟨h0, h1, h2, h3⟩ := txs_at ht
 exact ⟨b, off, t, rfl, hb, ht, hc _ _ h0, hc _ _ h1, hc _ _ h2, hc _ _ h3⟩

end Go.Proofs.YteepobghdpnabaaGreat
namespace Go.Proofs.YteepobghdpnabaaGreat
open Go.RowKit

theorem info_tx : (Tryz.prog.info? 40).map (fun i => (i.zero, i.size, i.bytes)) = some (some (.agg #[.int .i64 0, .int .i64 0, .string ByteArray.empty, .string ByteArray.empty]), 4, 48) := by kernel_rfl

set_option maxHeartbeats 400000 in
theorem copyTxs_any (A : Option Addr) (c n : Nat) (L : List TxD) (w : World) (hz : L.length = n) (hr : Rd w A (txs L)) (hc : n ≤ c) (hn : n ≤ 1073741824) :
  Calls Tryz.prog 26 #[.slice A n c] w (MadeS 4 w.heap.size 40 w n (txs L)) := by
 have HZ := Lib.hid hz
 clear hz
 go_enter Tryz.func26, Tryz.ntmps26
 go_wp2
 go_loopw [3, 4] (fun v i wr => ∃ k : Nat, i = .int .i64 k ∧ k ≤ n ∧ wr.ownsRow w.heap.size 40 4 v k (txs (L.take k)) ∧ Below w.heap.size w wr) (fun _ i _ => n - (intOf i).toNat)
 case atStart => exact ⟨0, rfl, by omega, World.ownsRow_nil _ _ _ _, Below.refl _ _⟩
 case round =>
  obtain ⟨k, rfl, hk, hown, hb⟩ := hrel
  by_cases hlt : k < n
  ·obtain ⟨b, off, ⟨ts, tq, tk, tv⟩, rfl, hbl, hat, c0, c1, c2, c3⟩ := (hr.below hb).tx (i := k) (by rw [HZ.out]; exact hlt)
   have HAT := Lib.hid (take_next hat)
   simp only at c0 c1 c2 c3
   clear hat
   go_wp2_with (at_builtin; refine wpList_app_elem _ rfl _ _ 22 rfl w.heap.size 40 _ 4 48 Tryz.underlying22 info_tx rfl (by decide) (by decide) _ k _ rfl (hown.alloc _) wr.heap.size (TxD.cells ⟨ts, tq, tk, tv⟩) rfl rfl (cells_new _ _ _) (cells_one _) (by omega) (by have := hb.size; simp; omega) ?_)
   intro v' w1 hown1 hb1
   have hown2 := ownS_conv (n' := k + 1) hown1 (ys := txs (L.take (k + 1))) (by rw [HAT.out, txs_append, txs_single]) rfl
   clear hown1 hown
   go_wp2
   go_roundw
   case rel => exact ⟨k + 1, by go_num, by omega, hown2, (hb.alloc hb.size _).trans hb1⟩
   case measure => simp [intOf]; omega
  ·obtain rfl : k = n := by omega
   go_wp2
   go_ret
   rw [List.take_of_length_le (by rw [HZ.out]; omega)] at hown
   exact ⟨_, rfl, hown, hb⟩

theorem fields_tx : Tryz.prog.underlying 40 = some (.struct (Tryz.prog.fieldsOf 40)) := by kernel_rfl
theorem held_tx : Tryz.prog.stoodInHeld 40 = false := by kernel_rfl
theorem guard_tx : Tryz.prog.eqGuardType Tryz.prog.depth 40 = false := by kernel_rfl
theorem str_toList {a b : ByteArray} : a.toList = b.toList ↔ a = b := by
 constructor
 ·intro h
  rw [ByteArray.toList_eq, ByteArray.toList_eq] at h
  obtain ⟨⟨x⟩⟩ := a
  obtain ⟨⟨y⟩⟩ := b
  simp at h
  rw [h]
 ·rintro rfl; rfl
theorem neq_tx (w : World) (t u : TxD) : (binOp .neq 40 t.val u.val).run Tryz.prog w = .ok (.bool (!decide (t = u))) w := by
 unfold TxD.val
 rw [run_neq_struct, run_equalIn_struct _ _ _ _ _ fields_tx held_tx]
 simp only [Program.fieldsOf, Tryz.underlying40]
 go_simp
 obtain ⟨ts, tq, tk, tv⟩ := t
 obtain ⟨us, uq, uk, uv⟩ := u
 simp only [str_toList, TxD.mk.injEq]
 by_cases h0 : ts = us <;> by_cases h1 : tq = uq <;> by_cases h2 : tk = uk <;> by_cases h3 : tv = uv <;> simp [h0, h1, h2, h3]

theorem tx_take {L M : List TxD} {k : Nat} {t u : TxD} (h : L[k]? = some t) (g : M[k]? = some u) (e : L.take k = M.take k) (htu : t = u) : L.take (k + 1) = M.take (k + 1) := by
 rw [take_next h, take_next g, e, htu]
theorem tx_unlike {L M : List TxD} {k : Nat} {t u : TxD} (h : L[k]? = some t) (g : M[k]? = some u) (htu : t ≠ u) : decide (L = M) = false := by
 simp only [decide_eq_false_iff_not]
 intro e
 rw [e, g] at h
 exact htu (Option.some.inj h).symm

set_option maxHeartbeats 800000 in
theorem eqTxs_any (A A' : Option Addr) (c c' n n' : Nat) (L M : List TxD) (w : World) (hz : L.length = n) (hz' : M.length = n') (hr : Rd w A (txs L)) (hr' : Rd w A' (txs M)) (hn : n ≤ 1073741824) (hn' : n' ≤ 1073741824) :
  Calls Tryz.prog 81 #[.slice A n c, .slice A' n' c'] w fun e w' => e = .returned (.bool (decide (L = M))) ∧ ∃ d, w' = w.drewN d := by
 have HZ := Lib.hid hz
 have HZ' := Lib.hid hz'
 clear hz hz'
 by_cases hnn : n = n'
 ·subst hnn
  go_enter Tryz.func81, Tryz.ntmps81
  go_wp2
  go_loopw [5] (fun i wr => ∃ k d : Nat, i = .int .i64 k ∧ k ≤ n ∧ Hid (L.take k = M.take k) ∧ wr = w.drewN d) (fun i _ => n - (intOf i).toNat)
  case atStart => exact ⟨0, 0, rfl, by omega, rfl, rfl⟩
  case round =>
   obtain ⟨k, d, rfl, hk, HE, rfl⟩ := hrel
   by_cases hlt : k < n
   ·obtain ⟨b, off, ⟨ts, tq, tk, tv⟩, rfl, hbl, hat, c0, c1, c2, c3⟩ := hr.tx (i := k) (by rw [HZ.out]; exact hlt)
    obtain ⟨b', off', ⟨us, uq, uk, uv⟩, rfl, hbl', hat', d0, d1, d2, d3⟩ := hr'.tx (i := k) (by rw [HZ'.out]; exact hlt)
    have i0 : (0 : Int) ≤ (k : Int) := by omega
    have i1 : (k : Int) < (n : Int) := by omega
    simp only at c0 c1 c2 c3 d0 d1 d2 d3
    have hg := guard_tx
    have hne := fun w => neq_tx w ⟨ts, tq, tk, tv⟩ ⟨us, uq, uk, uv⟩
    by_cases htu : (⟨ts, tq, tk, tv⟩ : TxD) = ⟨us, uq, uk, uv⟩
    ·have HT := Lib.hid (tx_take hat hat' HE.out htu)
     have hne2 : ∀ w, (binOp .neq 40 (.agg #[.int .i64 ts, .int .i64 tq, .string tk, .string tv]) (.agg #[.int .i64 us, .int .i64 uq, .string uk, .string uv])).run Tryz.prog w = .ok (.bool false) w := fun w => by
      have := hne w
      rw [decide_eq_true htu] at this
      exact this
     clear hat hat' hne htu
     go_wp2
     go_quiet (fail)
     go_wp2
     go_roundw
     case rel => exact ⟨k + 1, _, by go_num, by omega, HT.out, rfl⟩
     case measure => simp [intOf]; omega
    ·have HT := Lib.hid (tx_unlike hat hat' htu)
     have hne2 : ∀ w, (binOp .neq 40 (.agg #[.int .i64 ts, .int .i64 tq, .string tk, .string tv]) (.agg #[.int .i64 us, .int .i64 uq, .string uk, .string uv])).run Tryz.prog w = .ok (.bool true) w := fun w => by
      have := hne w
      rw [decide_eq_false htu] at this
      exact this
     clear hat hat' hne htu
     go_wp2
     go_quiet (fail)
     go_wp2
     go_ret
     exact ⟨by rw [HT.out]; rfl, d + _, World.drewN_drewN _ _ _⟩
   ·have i1 : ¬ ((k : Int) < (n : Int)) := by omega
    have hLM : L = M := by
     have := HE.out
     rwa [List.take_of_length_le (by rw [HZ.out]; omega), List.take_of_length_le (by rw [HZ'.out]; omega)] at this
    have HT : Hid (decide (L = M) = true) := by show decide (L = M) = true; simp [hLM]
    clear hLM
    go_wp2
    go_ret
    exact ⟨by rw [HT.out]; rfl, _, rfl⟩
 ·have HT : Hid (decide (L = M) = false) := by
   show decide (L = M) = false
   simp only [decide_eq_false_iff_not]
   intro e
   have h1 := HZ.out
   have h2 := HZ'.out
   rw [e] at h1
   omega
  have j1 : ((n : Int) == (n' : Int)) = false := by simp; omega
  have j2 : ((n : Int) != (n' : Int)) = true := by simp; omega
  go_enter Tryz.func81, Tryz.ntmps81
  go_wp2
  go_ret
  exact ⟨by rw [HT.out]; rfl, 0, rfl⟩

end Go.Proofs.YteepobghdpnabaaGreat
namespace Go.Proofs.YteepobghdpnabaaGreat
open Go.RowKit

def idB (n : Int) : Bool := decide (1 ≤ n ∧ n ≤ 1099511627776)
def txB (t : TxD) : Bool := decide (idB t.s = true ∧ idB t.q = true ∧ 1 ≤ t.k.size ∧ t.k.size ≤ 16 ∧ t.v.size ≤ 32)
def batB (a n : Int) (L : List TxD) : Bool := decide ((1 ≤ a ∧ a ≤ 16) ∧ idB n = true ∧ 1 ≤ L.length ∧ L.length ≤ 8 ∧ L.all txB = true)

end Go.Proofs.YteepobghdpnabaaGreat
