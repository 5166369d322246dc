/-
 A worker in a block of its own: its cells, loads and stores.
-/
import Derived.WalkSpells
import Derived.Test.YteepobghdpnabaaGreatKBe
namespace Go.Proofs.YteepobghdpnabaaGreat
open Go.RowKit

section
variable {P : Program} {w : World}
theorem wpList_store_cell {ops : Array Oper} {rest : List Oper} {op : Oper} {a : Act} {Q : Exit → Act → World → Prop} (hgd : op.guard = none) (ty : TypeId) (x y : Operand) (ho : op.op = .store ty x y)
  (g j : Nat) (v : Value) (vs : List Value) (hx : a.eval x = .pointer (some ⟨g, j, none⟩)) (hy : a.eval y = v) (hc : v.cells = #[v]) (h1 : v.oneCell' = true) (hb : Box w g vs) (hj : j < vs.length)
  (hi : (P.info? ty).map (·.size) = some 1)
  (h : ∀ w', Box w' g (vs.set j v) → (∀ F : Nat → Prop, F g → Touch F w w') → wpList P ops Q rest (a.put op.dst undef) w') : wpList P ops Q (op :: rest) a w := by
 have ht := there_box (g := g) (j := j) (n := 1) hb (by omega)
 have hrun : (storeVar ty ⟨g, j, none⟩ v).run P w = .ok () (w.setCell ⟨g, j, none⟩ v) := by
  have := run_storeCells_cells (P := P) g j [v] 0 w (fun i hi => by simpa using (ht i (by simpa using hi)).1) (fun i hi => by simpa using (ht i (by simpa using hi)).2) (fun u hu => by simp at hu; rw [hu]; exact h1)
  cases hq : P.info? ty with
  | none => simp [hq] at hi
  | some i =>
   have hs : i.size = 1 := by simpa [hq] using hi
   simp only [Nat.add_zero] at this
   simp [storeVar, sizeOf, typeInfo, hq, hc, hs, this, World.setCells]
 refine wpList_plain hgd fun K hK => ?_
 unfold Oper.wp execOp
 simp only [ho, hx, hy, Instr.storeAt, Instr.sureAddr, Sem.run_bind, Sem.run_pure, Result.andThen_ok, hrun]
 exact hK _ _ (h _ (hb.set hj) fun F hF => (Touch.refl F w).set (.inl hF) v)
end

theorem size_wk : (Tryz.prog.info? 27).map (·.size) = some 9 := by kernel_rfl
theorem size_sTx : (Tryz.prog.info? 22).map (·.size) = some 1 := by kernel_rfl
theorem size_sWait : (Tryz.prog.info? 23).map (·.size) = some 1 := by kernel_rfl
theorem size_sHeld : (Tryz.prog.info? 24).map (·.size) = some 1 := by kernel_rfl
theorem size_sInt : (Tryz.prog.info? 25).map (·.size) = some 1 := by kernel_rfl
theorem size_int : (Tryz.prog.info? 3).map (·.size) = some 1 := by kernel_rfl
theorem size_batch : (Tryz.prog.info? 42).map (·.size) = some 3 := by kernel_rfl
theorem size_wait : (Tryz.prog.info? 56).map (·.size) = some 2 := by kernel_rfl
theorem size_held : (Tryz.prog.info? 70).map (·.size) = some 4 := by kernel_rfl

def zeroC : List Value := [.int .i64 0, .int .i64 0, .int .i64 0, .slice none 0 0, .int .i64 0, .int .i64 0, .slice none 0 0, .slice none 0 0, .slice none 0 0]
theorem wk_cells {w : World} {g : Nat} {P : WkD} {a : WkA} (h : Box w g (wkC P a)) : w.cell? ⟨g, 0, none⟩ = some (.int .i64 P.i) ∧ w.cell? ⟨g, 1, none⟩ = some (.int .i64 P.N) ∧ w.cell? ⟨g, 2, none⟩ = some (.int .i64 P.x) ∧
  w.cell? ⟨g, 3, none⟩ = some (.slice a.O.A a.O.n a.O.c) ∧ w.cell? ⟨g, 4, none⟩ = some (.int .i64 P.g) ∧ w.cell? ⟨g, 5, none⟩ = some (.int .i64 P.c) ∧ w.cell? ⟨g, 6, none⟩ = some (.slice a.W.A a.W.n a.W.c) ∧
  w.cell? ⟨g, 7, none⟩ = some (.slice a.H.A a.H.n a.H.c) ∧ w.cell? ⟨g, 8, none⟩ = some (.slice a.R.A a.R.n a.R.c) :=
 ⟨(h.2 0 _ rfl).1, (h.2 1 _ rfl).1, (h.2 2 _ rfl).1, (h.2 3 _ rfl).1, (h.2 4 _ rfl).1, (h.2 5 _ rfl).1, (h.2 6 _ rfl).1, (h.2 7 _ rfl).1, (h.2 8 _ rfl).1⟩
end Go.Proofs.YteepobghdpnabaaGreat
namespace Go.Proofs.YteepobghdpnabaaGreat
open Go.RowKit

section
variable {α : Type} {K : Kd α} {B i : Nat} {w w1 w2 : World} {a a' o : Ad} {ms : List (α × Ad)} {x : α}
theorem cellsK_ins (ms : List (α × Ad)) (i : Nat) (x : α) (o : Ad) : cellsK K (insAt ms i (x, o)) = (cellsK K ms).take (i * K.s) ++ K.cells x o.v ++ (cellsK K ms).drop (i * K.s) := by
 rw [insAt, cellsK_append, cellsK_take, cellsK_drop, List.append_assoc]
 rfl
theorem pairwise_ins {R : (α × Ad) → (α × Ad) → Prop} {y : α × Ad} (h : ms.Pairwise R) (h1 : ∀ z ∈ ms, R z y) (h2 : ∀ z ∈ ms, R y z) : (insAt ms i y).Pairwise R := by
 rw [← List.take_append_drop i ms, List.pairwise_append] at h
 obtain ⟨p1, p2, p3⟩ := h
 rw [insAt, List.pairwise_append]
 refine ⟨p1, List.pairwise_cons.2 ⟨fun z hz => h2 z (List.mem_of_mem_drop hz), p2⟩, fun z hz u hu => ?_⟩
 rcases List.mem_cons.1 hu with rfl | hu
 ·exact h1 z (List.mem_of_mem_take hz)
 ·exact p3 z hz u hu
theorem mem_ins {y z : α × Ad} (h : z ∈ insAt ms i y) : z = y ∨ z ∈ ms := by
 rcases List.mem_append.1 h with h | h
 ·exact .inr (List.mem_of_mem_take h)
 ·rcases List.mem_cons.1 h with h | h
  ·exact .inl h
  ·exact .inr (List.mem_of_mem_drop h)
theorem map_ins (ms : List (α × Ad)) (i : Nat) (x : α) (o : Ad) : (insAt ms i (x, o)).map Prod.fst = insAt (ms.map Prod.fst) i x := by simp [insAt, List.map_take, List.map_drop]
theorem RowOwn.ins (h : RowOwn K B w a ms) (hb : Below w.heap.size w w1) (ho : w1.ownsRow w.heap.size K.e2 K.s2 o.v o.n (K.bd x)) (hl : K.len x = o.n) (hB : B ≤ w.heap.size)
  (ht : Touch (fun k => a.v.ownBlock = some k) w1 w2) (hr : w2.ownsRow B K.e K.s a'.v a'.n ((cellsK K ms).take (i * K.s) ++ K.cells x o.v ++ (cellsK K ms).drop (i * K.s))) (hn : a'.n = a.n + 1) (hi : i ≤ ms.length) : RowOwn K B w2 a' (insAt ms i (x, o)) := by
 have hnew : w2.ownsRow w.heap.size K.e2 K.s2 o.v o.n (K.bd x) := own_kept ho fun g hg hlt => ht.block g hlt fun hf => by
  have := (own_lt ho hg).2
  have := (own_lt h.row hf).1
  omega
 have hfar : ∀ z ∈ ms, ∀ k, z.2.v.ownBlock = some k → o.v.ownBlock ≠ some k := fun z hz k h1 h2 => by
  have := (own_lt (h.sub z hz).1 h1).1
  have := (own_lt ho h2).2
  omega
 refine ⟨by rw [cellsK_ins]; exact hr, by rw [insAt_length _ _ _ hi, hn, h.len], fun z hz => ?_, pairwise_ins h.nod (fun z hz k => hfar z hz k) (fun z hz k h1 h2 => hfar z hz k h2 h1)⟩
 rcases mem_ins hz with rfl | hz
 ·exact ⟨ownS_more hnew hB, hl⟩
 ·exact ⟨own_kept (ownS_below (h.sub z hz).1 hb) fun g hg hlt => ht.block g hlt fun hf => own_unlike h.row (h.sub z hz).1 K.ne hf hg, (h.sub z hz).2⟩
end

structure WAt (B g : Nat) (w : World) (P : WkD) (a : WkA) : Prop where
 box : Box w g (wkC P a)
 new : WNew B w P a
 lt : g < B
 le : B ≤ w.heap.size
def WTo (B g : Nat) (P : WkD) (w : World) (e : Ending) (w' : World) : Prop := ∃ a', e = .returned (.tuple #[]) ∧ WAt B g w' P a' ∧ Touch (fun k => k = g ∨ B ≤ k) w w'
section
variable {B g : Nat} {w w' : World} {P : WkD} {a : WkA}
theorem WAt.below (h : WAt B g w P a) (hb : Below w.heap.size w w') : WAt B g w' P a := ⟨h.box.below hb (by have := h.box.1; omega), h.new.below hb, h.lt, by have := h.le; have := hb.size; omega⟩
theorem WAt.far {F : Nat → Prop} (h : WAt B g w P a) (ht : Touch F w w') (hF : ∀ k, F k → k < B ∧ k ≠ g) : WAt B g w' P a :=
 ⟨h.box.touch ht fun hf => (hF g hf).2 rfl, h.new.touch ht (fun k hk ho => by have := (h.new.core.lt ho).2; have := (hF k hk).1; omega) (fun k hk ho => by have := (own_lt h.new.open_ ho).2; have := (hF k hk).1; omega), h.lt, by have := h.le; have := ht.size; omega⟩
end

end Go.Proofs.YteepobghdpnabaaGreat
namespace Go.Proofs.YteepobghdpnabaaGreat
open Go.RowKit

def dH (x : HlD × Ad) : Int := x.1.d
def dW (x : WtD × Ad) : Int := x.1.d
def cmpI (a b : Int) : Int := if a < b then -1 else if b < a then 1 else 0
theorem cmpI_lt {a b : Int} (h : a < b) : cmpI a b = -1 := by rw [cmpI, if_pos h]
theorem cmpI_ge {a b : Int} (h : ¬ a < b) : 0 ≤ cmpI a b := by rw [cmpI, if_neg h]; split <;> omega
theorem cmpI_zero {a b : Int} : cmpI a b = 0 ↔ a = b := by unfold cmpI; split <;> (try split) <;> omega
theorem isNaNI_any (a : Int) (w : World) : Calls Tryz.prog 141 #[.int .i64 a] w fun e w' => e = .returned (.bool false) ∧ w = w' := by
 have h : (a != a) = false := by simp
 go_enter Tryz.func141, Tryz.ntmps141
 go_wp2
 go_ret
 exact ⟨rfl, rfl⟩
set_option maxHeartbeats 1000000 in
theorem cmpI_any (a b : Int) (w : World) : Calls Tryz.prog 122 #[.int .i64 a, .int .i64 b] w fun e w' => e = .returned (.int .i64 (cmpI a b)) ∧ w = w' := by
 have HC : Hid (cmpI a b = cmpI a b) := Lib.hid rfl
 by_cases h1 : a < b
 ·have HN : Hid (cmpI a b = -1) := cmpI_lt h1
  go_enter Tryz.func122, Tryz.ntmps122
  go_wp2_with (go_at_call 141; refine (isNaNI_any _ _).mono ?_; rintro e w' ⟨rfl, rfl⟩)
  go_ret
  exact ⟨by rw [HN.out]; rfl, rfl⟩
 ·by_cases h2 : b < a
  ·have HN : Hid (cmpI a b = 1) := by show cmpI a b = 1; rw [cmpI, if_neg h1, if_pos h2]
   go_enter Tryz.func122, Tryz.ntmps122
   go_wp2_with (go_at_call 141; refine (isNaNI_any _ _).mono ?_; rintro e w' ⟨rfl, rfl⟩)
   go_ret
   exact ⟨by rw [HN.out]; rfl, rfl⟩
  ·have HN : Hid (cmpI a b = 0) := by show cmpI a b = 0; rw [cmpI, if_neg h1, if_neg h2]
   go_enter Tryz.func122, Tryz.ntmps122
   go_wp2_with (go_at_call 141; refine (isNaNI_any _ _).mono ?_; rintro e w' ⟨rfl, rfl⟩)
   go_ret
   exact ⟨by rw [HN.out]; rfl, rfl⟩

set_option maxHeartbeats 1000000 in
theorem cloH_any (d p q : Int) (v : Value) (t : Int) (w : World) :
  Calls Tryz.prog 121 #[.agg #[.int .i64 d, .int .i64 p, .int .i64 q, v], .int .i64 t] w fun e w' => e = .returned (.int .i64 (cmpI d t)) ∧ Below w.heap.size w w' := by
 go_enter Tryz.func121, Tryz.ntmps121
 go_wp2_with (go_at_call 122; refine (cmpI_any _ _ _).mono ?_; rintro e w' ⟨rfl, rfl⟩)
 go_ret
 exact ⟨rfl, (Below.refl _ _).alloc (Nat.le_refl _) _⟩

set_option maxRecDepth 100000 in
set_option maxHeartbeats 4000000 in
theorem searchH_some (b off n c : Nat) (ms : List (HlD × Ad)) (t : Int) (w : World) (hn : ms.length = n) (hn1 : n ≤ 1000000) (hce : ∀ i v, (cellsK KH ms)[i]? = some v → w.cell? ⟨b, off + i, none⟩ = some v) (hg : 0 < n → b < w.heap.size) (hr : RiseI (ms.map dH)) :
  Calls Tryz.prog 120 #[.slice (some ⟨b, off, none⟩) n c, .int .i64 t, .func (.func 121) #[] #[]] w fun e w' =>
   e = .returned (.tuple #[.int .i64 (posI (ms.map dH) t), .bool (decide (t ∈ ms.map dH))]) ∧ Below w.heap.size w w' := by
 have HN := Lib.hid hn
 have HCE := Lib.hid hce
 have HR := Lib.hid hr
 have HML : Hid ((ms.map dH).length = ms.length) := by show (ms.map dH).length = ms.length; simp
 have HMG : Hid (∀ i : Nat, (ms.map dH)[i]? = (ms[i]?).map dH) := by show ∀ i : Nat, (ms.map dH)[i]? = (ms[i]?).map dH; intro i; simp
 obtain ⟨ds, hds⟩ : ∃ ds, ds = ms.map dH := ⟨_, rfl⟩
 rw [← hds] at HR HML HMG ⊢
 clear hn hce hr hds
 go_enter Tryz.func120, Tryz.ntmps120
 go_wp2
 go_loopw [9, 10] (fun i j wr => ∃ lo hi : Nat, i = .int .i64 lo ∧ j = .int .i64 hi ∧ lo ≤ hi ∧ hi ≤ n ∧ Hid (∀ k a, k < lo → ds[k]? = some a → a < t) ∧ Hid (∀ k a, hi ≤ k → ds[k]? = some a → t ≤ a) ∧ Below w.heap.size w wr) (fun i j _ => ((intOf j) - (intOf i)).toNat)
 case atStart => exact ⟨0, n, rfl, rfl, by omega, by omega, fun k a hk => by omega, fun k a hk ha => by
  have := (List.getElem?_eq_some_iff.1 ha).1
  rw [HML.out, HN.out] at this
  omega, Below.refl _ _⟩
 case round =>
  obtain ⟨lo, hi, rfl, rfl, hlh, hin, HA, HB, hb⟩ := hrel
  by_cases hlt : lo < hi
  ·obtain ⟨m, hm⟩ : ∃ m, ms[(lo + hi) / 2]? = some m := ⟨_, List.getElem?_eq_getElem (by rw [HN.out]; omega)⟩
   have hgl := hg (by omega)
   have k0 : wr.cell? ⟨b, off + ((lo + hi) / 2) * 4, none⟩ = some (.int .i64 m.1.d) := (hb.cell (p := ⟨b, off + ((lo + hi) / 2) * 4, none⟩) hgl).trans (by have := HCE.out _ _ (cellsK_at KH hm (j := 0) rfl); simpa [KH, Nat.add_assoc] using this)
   have k1 : wr.cell? ⟨b, off + ((lo + hi) / 2) * 4 + 1, none⟩ = some (.int .i64 m.1.a) := (hb.cell (p := ⟨b, off + ((lo + hi) / 2) * 4 + 1, none⟩) hgl).trans (by have := HCE.out _ _ (cellsK_at KH hm (j := 1) rfl); simpa [KH, Nat.add_assoc] using this)
   have k2 : wr.cell? ⟨b, off + ((lo + hi) / 2) * 4 + 2, none⟩ = some (.int .i64 m.1.n) := (hb.cell (p := ⟨b, off + ((lo + hi) / 2) * 4 + 2, none⟩) hgl).trans (by have := HCE.out _ _ (cellsK_at KH hm (j := 2) rfl); simpa [KH, Nat.add_assoc] using this)
   have k3 : wr.cell? ⟨b, off + ((lo + hi) / 2) * 4 + 3, none⟩ = some (m.2.v) := (hb.cell (p := ⟨b, off + ((lo + hi) / 2) * 4 + 3, none⟩) hgl).trans (by have := HCE.out _ _ (cellsK_at KH hm (j := 3) rfl); simpa [KH, Nat.add_assoc] using this)
   have HM : Hid (ds[(lo + hi) / 2]? = some m.1.d) := by show ds[(lo + hi) / 2]? = _; rw [HMG.out, hm]; rfl
   clear hm
   by_cases hls : m.1.d < t
   ·have hc0 : cmpI m.1.d t < 0 := by rw [cmpI_lt hls]; decide
    have HLS := Lib.hid hls
    clear hls
    go_wp2_with (go_at_call 121; refine (cloH_any _ _ _ _ _ _).mono ?_; rintro e w' ⟨rfl, hb1⟩)
    go_roundw
    case rel =>
     refine ⟨(lo + hi) / 2 + 1, hi, ?_, rfl, by omega, hin, fun k a hk ha => ?_, HB.out, hb.trans (hb1.mono hb.size)⟩
     ·rw [show ((lo : Int) + (hi : Int)) / 2 + 1 = (((lo + hi) / 2 + 1 : Nat) : Int) by omega]
     ·rcases Nat.lt_or_ge k ((lo + hi) / 2) with h2 | h2
      ·have h3 := HR.out _ _ _ _ h2 ha HM.out
       have h4 := HLS.out
       omega
      ·have : k = (lo + hi) / 2 := by omega
       subst this
       rw [HM.out] at ha
       cases ha
       exact HLS.out
    case measure => simp [intOf]; omega
   ·have hc0 : ¬ (cmpI m.1.d t < 0) := by have := cmpI_ge hls; omega
    have HLS : Hid (t ≤ m.1.d) := by show t ≤ m.1.d; omega
    clear hls
    go_wp2_with (go_at_call 121; refine (cloH_any _ _ _ _ _ _).mono ?_; rintro e w' ⟨rfl, hb1⟩)
    go_roundw
    case rel =>
     refine ⟨lo, (lo + hi) / 2, rfl, ?_, by omega, by omega, HA.out, fun k a hk ha => ?_, hb.trans (hb1.mono hb.size)⟩
     ·rw [show ((lo : Int) + (hi : Int)) / 2 = (((lo + hi) / 2 : Nat) : Int) by omega]
     ·rcases Nat.lt_or_ge ((lo + hi) / 2) k with h2 | h2
      ·have h3 := HR.out _ _ _ _ h2 HM.out ha
       have h4 := HLS.out
       omega
      ·have : k = (lo + hi) / 2 := by omega
       subst this
       rw [HM.out] at ha
       cases ha
       exact HLS.out
    case measure => simp [intOf]; omega
  ·obtain rfl : lo = hi := by omega
   have i0 : ¬ ((lo : Int) < (lo : Int)) := by omega
   clear hlt hlh
   have hp : lo = posI ds t := posI_unique (by rw [HML.out, HN.out]; exact hin) (fun k a hk ha => HA.out k a hk ha) (fun a ha => by have := HB.out lo a (Nat.le_refl _) ha; omega)
   have HP := Lib.hid hp
   clear hp
   by_cases hn2 : lo < n
   ·obtain ⟨m, hm⟩ : ∃ m, ms[lo]? = some m := ⟨_, List.getElem?_eq_getElem (by rw [HN.out]; omega)⟩
    have hgl := hg (by omega)
    have k0 : wr.cell? ⟨b, off + lo * 4, none⟩ = some (.int .i64 m.1.d) := (hb.cell (p := ⟨b, off + lo * 4, none⟩) hgl).trans (by have := HCE.out _ _ (cellsK_at KH hm (j := 0) rfl); simpa [KH, Nat.add_assoc] using this)
    have k1 : wr.cell? ⟨b, off + lo * 4 + 1, none⟩ = some (.int .i64 m.1.a) := (hb.cell (p := ⟨b, off + lo * 4 + 1, none⟩) hgl).trans (by have := HCE.out _ _ (cellsK_at KH hm (j := 1) rfl); simpa [KH, Nat.add_assoc] using this)
    have k2 : wr.cell? ⟨b, off + lo * 4 + 2, none⟩ = some (.int .i64 m.1.n) := (hb.cell (p := ⟨b, off + lo * 4 + 2, none⟩) hgl).trans (by have := HCE.out _ _ (cellsK_at KH hm (j := 2) rfl); simpa [KH, Nat.add_assoc] using this)
    have k3 : wr.cell? ⟨b, off + lo * 4 + 3, none⟩ = some (m.2.v) := (hb.cell (p := ⟨b, off + lo * 4 + 3, none⟩) hgl).trans (by have := HCE.out _ _ (cellsK_at KH hm (j := 3) rfl); simpa [KH, Nat.add_assoc] using this)
    have i1 : (lo : Int) < (n : Int) := by omega
    have hh : Hid (decide (t ∈ ds) = (cmpI m.1.d t == 0)) := by
     show decide (t ∈ ds) = (cmpI m.1.d t == 0)
     rw [Bool.eq_iff_iff]
     simp only [decide_eq_true_eq, beq_iff_eq]
     rw [mem_posI HR.out, ← HP.out, HMG.out, hm, cmpI_zero]
     simp [dH]
    clear hm
    go_wp2_with (go_at_call 121; refine (cloH_any _ _ _ _ _ _).mono ?_; rintro e w' ⟨rfl, hb1⟩)
    go_ret2
    refine ⟨?_, hb.trans (hb1.mono hb.size)⟩
    rw [hh.out, ← HP.out]
    rfl
   ·have i1 : ¬ ((lo : Int) < (n : Int)) := by omega
    have hh : Hid (decide (t ∈ ds) = false) := by
     show decide (t ∈ ds) = false
     rw [decide_eq_false_iff_not, mem_posI HR.out, ← HP.out, List.getElem?_eq_none (by rw [HML.out, HN.out]; omega)]
     simp
    go_wp2_with (go_at_call 121; refine (cloH_any _ _ _ _ _ _).mono ?_; rintro e w' ⟨rfl, hb1⟩)
    go_ret2
    refine ⟨?_, hb⟩
    rw [hh.out, ← HP.out]
    rfl

set_option maxHeartbeats 1000000 in
theorem searchH_none (A : Option Addr) (t : Int) (w : World) (c : Nat) :
  Calls Tryz.prog 120 #[.slice A 0 c, .int .i64 t, .func (.func 121) #[] #[]] w fun e w' =>
   e = .returned (.tuple #[.int .i64 (0 : Nat), .bool false]) ∧ Below w.heap.size w w' := by
 go_enter Tryz.func120, Tryz.ntmps120
 go_wp2
 go_loopw [9, 10] (fun i j wr => i = .int .i64 0 ∧ j = .int .i64 0 ∧ wr = w) (fun i j _ => ((intOf j) - (intOf i)).toNat)
 case atStart => exact ⟨rfl, rfl, rfl⟩
 case round =>
  obtain ⟨rfl, rfl, rfl⟩ := hrel
  go_wp2
  go_ret2
  exact ⟨rfl, Below.refl _ _⟩

set_option maxRecDepth 100000 in
set_option maxHeartbeats 1000000 in
theorem searchH_any (a : Ad) (ms : List (HlD × Ad)) (t : Int) (w : World) (h : SlIn w a ms.length (cellsK KH ms)) (hn : ms.length ≤ 1000000) (hr : RiseI (ms.map dH)) :
  Calls Tryz.prog 120 #[a.v, .int .i64 t, .func (.func 121) #[] #[]] w fun e w' =>
   e = .returned (.tuple #[.int .i64 (posI (ms.map dH) t), .bool (decide (t ∈ ms.map dH))]) ∧ Below w.heap.size w w' := by
 obtain ⟨A, n, c⟩ := a
 obtain ⟨hl, hc, hm, hrd⟩ := h
 simp only at hl hc hm hrd
 subst hl
 rcases Nat.eq_zero_or_pos ms.length with h0 | h0
 ·have hms : ms = [] := List.eq_nil_of_length_eq_zero h0
  subst hms
  exact searchH_none A t w c
 ·obtain ⟨b, off, rfl, hbl, hcell⟩ := hrd.open_ (by rw [cellsK_length]; exact Nat.mul_pos h0 KH.pos)
  exact searchH_some b off ms.length c ms t w rfl hn hcell (fun _ => hbl) hr

set_option maxHeartbeats 1000000 in
theorem cloW_any (d : Int) (v : Value) (t : Int) (w : World) :
  Calls Tryz.prog 128 #[.agg #[.int .i64 d, v], .int .i64 t] w fun e w' => e = .returned (.int .i64 (cmpI d t)) ∧ Below w.heap.size w w' := by
 go_enter Tryz.func128, Tryz.ntmps128
 go_wp2_with (go_at_call 122; refine (cmpI_any _ _ _).mono ?_; rintro e w' ⟨rfl, rfl⟩)
 go_ret
 exact ⟨rfl, (Below.refl _ _).alloc (Nat.le_refl _) _⟩

set_option maxRecDepth 100000 in
set_option maxHeartbeats 4000000 in
theorem searchW_some (b off n c : Nat) (ms : List (WtD × Ad)) (t : Int) (w : World) (hn : ms.length = n) (hn1 : n ≤ 1000000) (hce : ∀ i v, (cellsK KW ms)[i]? = some v → w.cell? ⟨b, off + i, none⟩ = some v) (hg : 0 < n → b < w.heap.size) (hr : RiseI (ms.map dW)) :
  Calls Tryz.prog 127 #[.slice (some ⟨b, off, none⟩) n c, .int .i64 t, .func (.func 128) #[] #[]] w fun e w' =>
   e = .returned (.tuple #[.int .i64 (posI (ms.map dW) t), .bool (decide (t ∈ ms.map dW))]) ∧ Below w.heap.size w w' := by
 have HN := Lib.hid hn
 have HCE := Lib.hid hce
 have HR := Lib.hid hr
 have HML : Hid ((ms.map dW).length = ms.length) := by show (ms.map dW).length = ms.length; simp
 have HMG : Hid (∀ i : Nat, (ms.map dW)[i]? = (ms[i]?).map dW) := by show ∀ i : Nat, (ms.map dW)[i]? = (ms[i]?).map dW; intro i; simp
 obtain ⟨ds, hds⟩ : ∃ ds, ds = ms.map dW := ⟨_, rfl⟩
 rw [← hds] at HR HML HMG ⊢
 clear hn hce hr hds
 go_enter Tryz.func127, Tryz.ntmps127
 go_wp2
 go_loopw [9, 10] (fun i j wr => ∃ lo hi : Nat, i = .int .i64 lo ∧ j = .int .i64 hi ∧ lo ≤ hi ∧ hi ≤ n ∧ Hid (∀ k a, k < lo → ds[k]? = some a → a < t) ∧ Hid (∀ k a, hi ≤ k → ds[k]? = some a → t ≤ a) ∧ Below w.heap.size w wr) (fun i j _ => ((intOf j) - (intOf i)).toNat)
 case atStart => exact ⟨0, n, rfl, rfl, by omega, by omega, fun k a hk => by omega, fun k a hk ha => by
  have := (List.getElem?_eq_some_iff.1 ha).1
  rw [HML.out, HN.out] at this
  omega, Below.refl _ _⟩
 case round =>
  obtain ⟨lo, hi, rfl, rfl, hlh, hin, HA, HB, hb⟩ := hrel
  by_cases hlt : lo < hi
  ·obtain ⟨m, hm⟩ : ∃ m, ms[(lo + hi) / 2]? = some m := ⟨_, List.getElem?_eq_getElem (by rw [HN.out]; omega)⟩
   have hgl := hg (by omega)
   have k0 : wr.cell? ⟨b, off + ((lo + hi) / 2) * 2, none⟩ = some (.int .i64 m.1.d) := (hb.cell (p := ⟨b, off + ((lo + hi) / 2) * 2, none⟩) hgl).trans (by have := HCE.out _ _ (cellsK_at KW hm (j := 0) rfl); simpa [KW, Nat.add_assoc] using this)
   have k1 : wr.cell? ⟨b, off + ((lo + hi) / 2) * 2 + 1, none⟩ = some (m.2.v) := (hb.cell (p := ⟨b, off + ((lo + hi) / 2) * 2 + 1, none⟩) hgl).trans (by have := HCE.out _ _ (cellsK_at KW hm (j := 1) rfl); simpa [KW, Nat.add_assoc] using this)
   have HM : Hid (ds[(lo + hi) / 2]? = some m.1.d) := by show ds[(lo + hi) / 2]? = _; rw [HMG.out, hm]; rfl
   clear hm
   by_cases hls : m.1.d < t
   ·have hc0 : cmpI m.1.d t < 0 := by rw [cmpI_lt hls]; decide
    have HLS := Lib.hid hls
    clear hls
    go_wp2_with (go_at_call 128; refine (cloW_any _ _ _ _).mono ?_; rintro e w' ⟨rfl, hb1⟩)
    go_roundw
    case rel =>
     refine ⟨(lo + hi) / 2 + 1, hi, ?_, rfl, by omega, hin, fun k a hk ha => ?_, HB.out, hb.trans (hb1.mono hb.size)⟩
     ·rw [show ((lo : Int) + (hi : Int)) / 2 + 1 = (((lo + hi) / 2 + 1 : Nat) : Int) by omega]
     ·rcases Nat.lt_or_ge k ((lo + hi) / 2) with h2 | h2
      ·have h3 := HR.out _ _ _ _ h2 ha HM.out
       have h4 := HLS.out
       omega
      ·have : k = (lo + hi) / 2 := by omega
       subst this
       rw [HM.out] at ha
       cases ha
       exact HLS.out
    case measure => simp [intOf]; omega
   ·have hc0 : ¬ (cmpI m.1.d t < 0) := by have := cmpI_ge hls; omega
    have HLS : Hid (t ≤ m.1.d) := by show t ≤ m.1.d; omega
    clear hls
    go_wp2_with (go_at_call 128; refine (cloW_any _ _ _ _).mono ?_; rintro e w' ⟨rfl, hb1⟩)
    go_roundw
    case rel =>
     refine ⟨lo, (lo + hi) / 2, rfl, ?_, by omega, by omega, HA.out, fun k a hk ha => ?_, hb.trans (hb1.mono hb.size)⟩
     ·rw [show ((lo : Int) + (hi : Int)) / 2 = (((lo + hi) / 2 : Nat) : Int) by omega]
     ·rcases Nat.lt_or_ge ((lo + hi) / 2) k with h2 | h2
      ·have h3 := HR.out _ _ _ _ h2 HM.out ha
       have h4 := HLS.out
       omega
      ·have : k = (lo + hi) / 2 := by omega
       subst this
       rw [HM.out] at ha
       cases ha
       exact HLS.out
    case measure => simp [intOf]; omega
  ·obtain rfl : lo = hi := by omega
   have i0 : ¬ ((lo : Int) < (lo : Int)) := by omega
   clear hlt hlh
   have hp : lo = posI ds t := posI_unique (by rw [HML.out, HN.out]; exact hin) (fun k a hk ha => HA.out k a hk ha) (fun a ha => by have := HB.out lo a (Nat.le_refl _) ha; omega)
   have HP := Lib.hid hp
   clear hp
   by_cases hn2 : lo < n
   ·obtain ⟨m, hm⟩ : ∃ m, ms[lo]? = some m := ⟨_, List.getElem?_eq_getElem (by rw [HN.out]; omega)⟩
    have hgl := hg (by omega)
    have k0 : wr.cell? ⟨b, off + lo * 2, none⟩ = some (.int .i64 m.1.d) := (hb.cell (p := ⟨b, off + lo * 2, none⟩) hgl).trans (by have := HCE.out _ _ (cellsK_at KW hm (j := 0) rfl); simpa [KW, Nat.add_assoc] using this)
    have k1 : wr.cell? ⟨b, off + lo * 2 + 1, none⟩ = some (m.2.v) := (hb.cell (p := ⟨b, off + lo * 2 + 1, none⟩) hgl).trans (by have := HCE.out _ _ (cellsK_at KW hm (j := 1) rfl); simpa [KW, Nat.add_assoc] using this)
    have i1 : (lo : Int) < (n : Int) := by omega
    have hh : Hid (decide (t ∈ ds) = (cmpI m.1.d t == 0)) := by
     show decide (t ∈ ds) = (cmpI m.1.d t == 0)
     rw [Bool.eq_iff_iff]
     simp only [decide_eq_true_eq, beq_iff_eq]
     rw [mem_posI HR.out, ← HP.out, HMG.out, hm, cmpI_zero]
     simp [dW]
    clear hm
    go_wp2_with (go_at_call 128; refine (cloW_any _ _ _ _).mono ?_; rintro e w' ⟨rfl, hb1⟩)
    go_ret2
    refine ⟨?_, hb.trans (hb1.mono hb.size)⟩
    rw [hh.out, ← HP.out]
    rfl
   ·have i1 : ¬ ((lo : Int) < (n : Int)) := by omega
    have hh : Hid (decide (t ∈ ds) = false) := by
     show decide (t ∈ ds) = false
     rw [decide_eq_false_iff_not, mem_posI HR.out, ← HP.out, List.getElem?_eq_none (by rw [HML.out, HN.out]; omega)]
     simp
    go_wp2_with (go_at_call 128; refine (cloW_any _ _ _ _).mono ?_; rintro e w' ⟨rfl, hb1⟩)
    go_ret2
    refine ⟨?_, hb⟩
    rw [hh.out, ← HP.out]
    rfl

set_option maxHeartbeats 1000000 in
theorem searchW_none (A : Option Addr) (t : Int) (w : World) (c : Nat) :
  Calls Tryz.prog 127 #[.slice A 0 c, .int .i64 t, .func (.func 128) #[] #[]] w fun e w' =>
   e = .returned (.tuple #[.int .i64 (0 : Nat), .bool false]) ∧ Below w.heap.size w w' := by
 go_enter Tryz.func127, Tryz.ntmps127
 go_wp2
 go_loopw [9, 10] (fun i j wr => i = .int .i64 0 ∧ j = .int .i64 0 ∧ wr = w) (fun i j _ => ((intOf j) - (intOf i)).toNat)
 case atStart => exact ⟨rfl, rfl, rfl⟩
 case round =>
  obtain ⟨rfl, rfl, rfl⟩ := hrel
  go_wp2
  go_ret2
  exact ⟨rfl, Below.refl _ _⟩

set_option maxRecDepth 100000 in
set_option maxHeartbeats 1000000 in
theorem searchW_any (a : Ad) (ms : List (WtD × Ad)) (t : Int) (w : World) (h : SlIn w a ms.length (cellsK KW ms)) (hn : ms.length ≤ 1000000) (hr : RiseI (ms.map dW)) :
  Calls Tryz.prog 127 #[a.v, .int .i64 t, .func (.func 128) #[] #[]] w fun e w' =>
   e = .returned (.tuple #[.int .i64 (posI (ms.map dW) t), .bool (decide (t ∈ ms.map dW))]) ∧ Below w.heap.size w w' := by
 obtain ⟨A, n, c⟩ := a
 obtain ⟨hl, hc, hm, hrd⟩ := h
 simp only at hl hc hm hrd
 subst hl
 rcases Nat.eq_zero_or_pos ms.length with h0 | h0
 ·have hms : ms = [] := List.eq_nil_of_length_eq_zero h0
  subst hms
  exact searchW_none A t w c
 ·obtain ⟨b, off, rfl, hbl, hcell⟩ := hrd.open_ (by rw [cellsK_length]; exact Nat.mul_pos h0 KW.pos)
  exact searchW_some b off ms.length c ms t w rfl hn hcell (fun _ => hbl) hr

end Go.Proofs.YteepobghdpnabaaGreat
namespace Go.Proofs.YteepobghdpnabaaGreat
open Go.RowKit

theorem hs_map {P : WkD} {hs : List (HlD × Ad)} (h : hs.map Prod.fst = P.H) : hs.map dH = P.hs := by rw [WkD.hs, ← h, List.map_map]; rfl
theorem ds_map {P : WkD} {ms : List (WtD × Ad)} (h : ms.map Prod.fst = P.W) : ms.map dW = P.ds := by rw [WkD.ds, ← h, List.map_map]; rfl
theorem due_is {P : WkD} {n : Nat} (hn : P.O.length = n) : dueW P = decide (((8 : Int) ≤ (n : Int) ∨ ((0 : Int) < (n : Int) ∧ 4 ≤ P.g)) ∧ P.x < 1099511627776) := by
 unfold dueW
 rw [decide_eq_decide, hn]
 omega
set_option maxHeartbeats 2000000 in
theorem isDue_is (b : Bool) (P : WkD) (a : WkA) (w : World) (h : dueW P = b) (hn : P.O.length = a.O.n) : Calls Tryz.prog 79 #[wkV P a] w (Tells w.heap.size w (.bool b)) := by
  rw [due_is hn] at h
  have HB := Lib.hid h
  clear h hn
  unfold wkV Ad.v
  by_cases h1 : (8 : Int) ≤ (a.O.n : Int)
  all_goals by_cases h2 : P.x < 1099511627776
  all_goals by_cases h3 : (0 : Int) < (a.O.n : Int)
  all_goals by_cases h4 : 4 ≤ P.g
  all_goals first
    | (exfalso; omega)
    | (go_enter Tryz.func79, Tryz.ntmps79
       go_wp2_with fail
       go_ret
       exact ⟨ret_bool (by rw [← HB.out]; simp; try omega), (Below.refl _ _).alloc (Nat.le_refl _) _⟩)

set_option maxHeartbeats 2000000 in
theorem findHeld_any (P : WkD) (a : WkA) (d : Int) (w : World) (h : RowIn KH w a.H a.hs) (he : a.hs.map Prod.fst = P.H) (hf : P.H.length ≤ 1000000) (hr : RiseI P.hs) :
  Calls Tryz.prog 89 #[wkV P a, .int .i64 d] w fun e w' => e = .returned (.tuple #[.int .i64 (posI P.hs d), .bool (decide (d ∈ P.hs))]) ∧ Below w.heap.size w w' := by
 have hm := hs_map he
 have hl : a.hs.length ≤ 1000000 := by
  have := congrArg List.length he
  rw [List.length_map] at this
  omega
 have hc := searchH_any a.H a.hs d (w.alloc (.cells #[.int .i64 P.i, .int .i64 P.N, .int .i64 P.x, .slice a.O.A a.O.n a.O.c, .int .i64 P.g, .int .i64 P.c, .slice a.W.A a.W.n a.W.c, .slice a.H.A a.H.n a.H.c, .slice a.R.A a.R.n a.R.c] 27)) (h.row.below ((Below.refl _ _).alloc (Nat.le_refl _) _)) hl (by rw [hm]; exact hr)
 rw [hm] at hc
 obtain ⟨p, hp⟩ : ∃ p, p = posI P.hs d := ⟨_, rfl⟩
 obtain ⟨b, hb⟩ : ∃ b, b = decide (d ∈ P.hs) := ⟨_, rfl⟩
 rw [← hp, ← hb] at hc
 rw [← hp, ← hb]
 have HC := Lib.hid hc
 clear hc hp hb hm hl h he hf hr
 unfold wkV Ad.v
 go_enter Tryz.func89, Tryz.ntmps89
 go_wp2_with (go_at_call 120; refine HC.out.mono ?_; rintro e w' ⟨rfl, hb⟩)
 go_ret2
 exact ⟨rfl, ((Below.refl _ _).alloc (Nat.le_refl _) _).trans (hb.mono (by simp))⟩

set_option maxHeartbeats 2000000 in
theorem findWait_any (P : WkD) (a : WkA) (d : Int) (w : World) (h : RowIn KW w a.W a.ms) (he : a.ms.map Prod.fst = P.W) (hf : P.W.length ≤ 1000000) (hr : RiseI P.ds) :
  Calls Tryz.prog 93 #[wkV P a, .int .i64 d] w fun e w' => e = .returned (.tuple #[.int .i64 (posI P.ds d), .bool (decide (d ∈ P.ds))]) ∧ Below w.heap.size w w' := by
 have hm := ds_map he
 have hl : a.ms.length ≤ 1000000 := by
  have := congrArg List.length he
  rw [List.length_map] at this
  omega
 have hc := searchW_any a.W a.ms d (w.alloc (.cells #[.int .i64 P.i, .int .i64 P.N, .int .i64 P.x, .slice a.O.A a.O.n a.O.c, .int .i64 P.g, .int .i64 P.c, .slice a.W.A a.W.n a.W.c, .slice a.H.A a.H.n a.H.c, .slice a.R.A a.R.n a.R.c] 27)) (h.row.below ((Below.refl _ _).alloc (Nat.le_refl _) _)) hl (by rw [hm]; exact hr)
 rw [hm] at hc
 obtain ⟨p, hp⟩ : ∃ p, p = posI P.ds d := ⟨_, rfl⟩
 obtain ⟨b, hb⟩ : ∃ b, b = decide (d ∈ P.ds) := ⟨_, rfl⟩
 rw [← hp, ← hb] at hc
 rw [← hp, ← hb]
 have HC := Lib.hid hc
 clear hc hp hb hm hl h he hf hr
 unfold wkV Ad.v
 go_enter Tryz.func93, Tryz.ntmps93
 go_wp2_with (go_at_call 127; refine HC.out.mono ?_; rintro e w' ⟨rfl, hb⟩)
 go_ret2
 exact ⟨rfl, ((Below.refl _ _).alloc (Nat.le_refl _) _).trans (hb.mono (by simp))⟩

end Go.Proofs.YteepobghdpnabaaGreat
