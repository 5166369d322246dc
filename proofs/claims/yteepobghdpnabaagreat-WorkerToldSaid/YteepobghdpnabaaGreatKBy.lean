/-
 One act done on both workers: what the kinds share.
-/
import Derived.BigRegion
import Derived.Test.YteepobghdpnabaaGreatKBp
import Derived.Test.YteepobghdpnabaaGreatKBt
import Derived.Test.YteepobghdpnabaaGreatKBs
import Derived.Test.YteepobghdpnabaaGreatKBu
import Derived.Test.YteepobghdpnabaaGreatKBv
import Derived.Test.YteepobghdpnabaaGreatKBx
import Derived.Test.YteepobghdpnabaaGreatKBb
import Derived.Test.YteepobghdpnabaaGreatKBe
import Derived.Test.YteepobghdpnabaaGreatKBg
import Derived.Test.YteepobghdpnabaaGreatKBd
import Derived.Test.YteepobghdpnabaaGreatKBq
namespace Go.Proofs.YteepobghdpnabaaGreat
open Go.RowKit

theorem st_newZ {B : Nat} {w : World} {P : WkD} {a : WkA} (h : WNew B w P a) (hB : B ≤ w.heap.size) : StAt w.heap.size B (w.alloc (.cells (wkC P a ++ [noAd.v]).toArray 75)) P a [] noAd [] := by
 have hb : Below w.heap.size w (w.alloc (.cells (wkC P a ++ [noAd.v]).toArray 75)) := (Below.refl _ _).alloc (Nat.le_refl _) _
 refine ⟨box_new w (wkC P a ++ [noAd.v]) 75, h.pg.below hb, rowOwn_none _ _, rfl, ?_, fun y hy => by simp at hy, hB, by have := hb.size; omega⟩
 rintro k (hk | ⟨x, hx, hk⟩ | hk | ⟨y, hy, hk⟩)
 ·have := (h.core.lt hk).1; omega
 ·obtain ⟨cur, hc⟩ := h.pg.typ x hx
  have := lt_of_block hc
  omega
 ·simp [noAd, Ad.v, Value.ownBlock] at hk
 ·simp at hy
theorem StAt.lenOZ {g B : Nat} {w : World} {P : WkD} {a : WkA} {l : List OtD} {o : Ad} {ms : List (OtD × Ad)} (h : StAt g B w P a l o ms) : ms.length = l.length := by rw [← h.eO, List.length_map]
theorem wp_store_boxY {op : Oper} {a : Act} {w : World} {K : Act → World → Prop} {Q : Exit → Act → World → Prop} (ty : TypeId) (x y : Operand) (ho : op.op = .store ty x y)
  (g j : Nat) (cs vs us : List Value) (hx : a.eval x = .pointer (some ⟨g, j, none⟩)) (hy : a.eval y = .agg cs.toArray) (hb : Box w g vs) (hl : j + cs.length ≤ vs.length) (hus : us = vs.take j ++ cs ++ vs.drop (j + cs.length))
  (hi : (Tryz.prog.info? ty).map (·.size) = some cs.length) (h1 : cs.all (·.oneCell') = true)
  (h : ∀ w', Box w' g us → (∀ F : Nat → Prop, F g → Touch F w w') → K (a.put op.dst undef) w') : op.wp Tryz.prog a w K Q :=
 wp_store_mid ty x y ho g j cs.toArray hx hy (by rw [List.size_toArray]; exact there_box hb hl) (by rw [List.size_toArray]; exact hi) (all_oneCell_toArray fun v hv => List.all_eq_true.1 h1 v hv)
  (h _ (by rw [hus]; exact box_setCells cs j vs w hb hl) (fun F hF => touch_setCells hF cs j w w (Touch.refl F w)))
def StepTo (k : Nat) (w : World) (e : Ending) (w' : World) : Prop := ∃ (Q : WkD) (a' : WkA), e = .returned (.tuple #[wkV Q a', .bool true]) ∧ WIn w' Q a' ∧ Grown (k + 1) Q ∧ Below w.heap.size w w'
theorem Touch.ofB {B : Nat} {w w' : World} (h : Below B w w') : Touch (fun k => B ≤ k) w w' := ⟨h.os, h.tape, h.output, h.size, fun k _ hn => h.block k (by omega)⟩
theorem StAt.other {s B g : Nat} {w : World} {Q : WkD} {a : WkA} {l : List OtD} {o : Ad} {ms : List (OtD × Ad)} (h : StAt s B w Q a l o ms) {cur : Array Value} (hty : w.heap[g]? = some (.cells cur 27 (0, 0))) : ¬ stHas a o ms g := by
 rintro (hk | ⟨x, hx, hk⟩ | hk | ⟨y, hy, hk⟩)
 ·obtain ⟨c, e, hc, he⟩ := h.pg.core.sort hk
  rw [hty] at hc
  simp only [Option.some.injEq, Obj.cells.injEq, and_true] at hc
  rcases he with he | he | he | he <;> rw [he] at hc <;> simp at hc
 ·obtain ⟨c, hc⟩ := h.pg.typ x hx
  rw [hk, hty] at hc
  simp at hc
 ·obtain ⟨c, hc⟩ := own_typeZ h.out.row hk
  rw [hty] at hc
  simp only [Option.some.injEq, Obj.cells.injEq, and_true] at hc
  exact absurd hc.2 (show 27 ≠ KM.e by decide)
 ·obtain ⟨c, hc⟩ := own_typeZ (h.out.sub y hy).1 hk
  rw [hty] at hc
  simp only [Option.some.injEq, Obj.cells.injEq, and_true] at hc
  exact absurd hc.2 (show 27 ≠ KM.e2 by decide)
theorem StAt.late2 {s B g : Nat} {w w' : World} {Q : WkD} {a : WkA} {l : List OtD} {o : Ad} {ms : List (OtD × Ad)} (h : StAt s B w Q a l o ms) {cur : Array Value} (hty : w.heap[g]? = some (.cells cur 27 (0, 0))) (hs : s ≠ g) (ht : Touch (fun k => k = g ∨ w.heap.size ≤ k) w w') : StAt s B w' Q a l o ms := by
 have hT : Touch (fun k => k = g) w w' := ⟨ht.os, ht.tape, ht.output, ht.size, fun k hk hn => ht.block k hk fun hf => hf.elim hn (by omega)⟩
 refine h.far hT ?_
 rintro k rfl
 exact ⟨fun e => hs e.symm, h.other hty⟩
theorem spoilt_row {C : Nat} {w w' : World} {P : WkD} {a : WkA} {o : Ad} {ms : List (OtD × Ad)} (hn : WNew C w P a) (ho : RowOwn KM C w o ms) (hap : ∀ y ∈ ms, ∀ j, y.2.v.ownBlock = some j → a.O.v.ownBlock ≠ some j ∧ ∀ z ∈ a.hs, z.2.v.ownBlock ≠ some j) (ht : Touch (fun j => a.owns j ∨ a.O.v.ownBlock = some j) w w') : RowOwn KM C w' o ms := by
 refine ho.touch ht ?_ ?_
 ·rintro k hk ((e | e | e | ⟨y, hy, e⟩ | ⟨y, hy, e⟩) | e)
  ·exact own_unlike ho.row hn.core.waits.row (show KM.e ≠ KW.e by decide) hk e
  ·exact own_unlike ho.row hn.core.held.row (show KM.e ≠ KH.e by decide) hk e
  ·exact own_unlike ho.row hn.core.ready (show KM.e ≠ 3 by decide) hk e
  ·exact own_unlike ho.row (hn.core.waits.sub y hy).1 (show KM.e ≠ KW.e2 by decide) hk e
  ·exact own_unlike ho.row (hn.core.held.sub y hy).1 (show KM.e ≠ KH.e2 by decide) hk e
  ·exact own_unlike ho.row hn.open_ (show KM.e ≠ 40 by decide) hk e
 ·rintro x hx k hk ((e | e | e | ⟨y, hy, e⟩ | ⟨y, hy, e⟩) | e)
  ·exact own_unlike (ho.sub x hx).1 hn.core.waits.row (show KM.e2 ≠ KW.e by decide) hk e
  ·exact own_unlike (ho.sub x hx).1 hn.core.held.row (show KM.e2 ≠ KH.e by decide) hk e
  ·exact own_unlike (ho.sub x hx).1 hn.core.ready (show KM.e2 ≠ 3 by decide) hk e
  ·exact own_unlike (ho.sub x hx).1 (hn.core.waits.sub y hy).1 (show KM.e2 ≠ KW.e2 by decide) hk e
  ·exact (hap x hx k hk).2 y hy e
  ·exact (hap x hx k hk).1 e
structure PreZ (w3 w5 : World) (s0 : Nat) : Prop where
 bel : Below w3.heap.size w3 w5
 bs : Box w5 s0 (wkC zeroW zeroWA ++ [noAd.v])
 bq : Box w5 (s0 + 1) zeroC
 ty : w5.heap[s0 + 1]? = some (.cells zeroC.toArray 27 (0, 0))
theorem preZ_new (w3 : World) : PreZ w3 ((w3.alloc (.cells (wkC zeroW zeroWA ++ [noAd.v]).toArray 75)).alloc (.cells zeroC.toArray 27)) w3.heap.size := by
 have e : (w3.alloc (.cells (wkC zeroW zeroWA ++ [noAd.v]).toArray 75)).heap.size = w3.heap.size + 1 := by simp
 refine ⟨((Below.refl _ _).alloc (Nat.le_refl _) _).alloc (by rw [e]; omega) _, (box_new w3 (wkC zeroW zeroWA ++ [noAd.v]) 75).below ((Below.refl _ _).alloc (Nat.le_refl _) _) (by rw [e]; omega), ?_, ?_⟩
 ·have := box_new (w3.alloc (.cells (wkC zeroW zeroWA ++ [noAd.v]).toArray 75)) zeroC 27
  rw [e] at this
  exact this
 ·have := heap_alloc_new (w3.alloc (.cells (wkC zeroW zeroWA ++ [noAd.v]).toArray 75)) (.cells zeroC.toArray 27)
  rw [e] at this
  exact this
structure LateZ (w wX : World) (P : WkD) (a a6 : WkA) (x : ActD) (g q6 : Nat) : Prop where
 b0 : Box wX g (wkC P a)
 b1 : Box wX (g + 1) (actC x)
 b2 : Box wX (g + 2) zeroC
 b6 : Box wX q6 (wkC P a6)
 inn : WIn wX P a
 in6 : WIn wX P a6
 act : ActIn wX x
 bel : Below w.heap.size w wX
 ty : wX.heap[g + 2]? = some (.cells zeroC.toArray 27 (0, 0))
set_option maxHeartbeats 4000000 in
theorem sres (tmps : Array Value) (w : World) (g : Nat) (P : WkD) (a : WkA) (b : Bool) (h4 : tmps.getD 4 undef = .pointer (some ⟨g, 0, none⟩)) (h5 : tmps.getD 5 undef = .bool b) (bx : Box w g (wkC P a)) :
  (results Tryz.f19 tmps).run Tryz.prog w = .ok (.tuple #[wkV P a, .bool b]) w := by
 obtain ⟨r0, r1, r2, r3, r4, r5, r6, r7, r8⟩ := wk_cells bx
 rw [Array.getD_eq_getD_getElem?] at h4 h5
 unfold wkV Ad.v
 simp [results, Tryz.results19, go_sem, h4, h5, r0, r1, r2, r3, r4, r5, r6, r7, r8]
end Go.Proofs.YteepobghdpnabaaGreat
namespace Go.Proofs.YteepobghdpnabaaGreat
open Go.RowKit

set_option maxHeartbeats 2000000 in
theorem rcw_any (a r : Int) (AB : Option Addr) (cB nB : Nat) (AP : Option Addr) (cP nP : Nat) (d : Int) (AS : Option Addr) (cS nS : Nat) (w : World) (hnB : nB ≤ 140737488351232) (hnP : nP ≤ 140737488351232) (hnS : nS ≤ 140737488351232) :
  Calls Tryz.prog 114 #[.agg #[.int .i64 a, .int .i64 r, .slice AB nB cB, .slice AP nP cP, .int .i64 d, .slice AS nS cS]] w (Tells w.heap.size w (.int .i64 (((1 + nB + nP + nS : Nat) : Int)))) := by
 obtain ⟨w1, hw1⟩ : ∃ w1, w1 = w.alloc (.cells #[.int .i64 a, .int .i64 r, .slice AB nB cB, .slice AP nP cP, .int .i64 d, .slice AS nS cS] 46) := ⟨_, rfl⟩
 have hb1 : Below w.heap.size w w1 := by rw [hw1]; exact (Below.refl _ _).alloc (Nat.le_refl _) _
 have HC := Lib.hid (cbox_new hw1)
 obtain ⟨c0, c1, c2, c3, c4, c5⟩ := HC.out _ (Below.refl _ _)
 have HW := Lib.hid hw1
 clear hw1
 go_enter Tryz.func114, Tryz.ntmps114
 go_wp2_with fail
 rw [← HW.out]
 first
  | (go_region_with (first
    | (go_at_call 113; refine (rhw_any a r AB cB nB AP cP nP _ hnB hnP).mono ?_; rintro e w2 ⟨rfl, hb2⟩; have hx2 : Below w1.heap.size w1 w2 := (by first | exact hb2 | exact ((Below.refl _ _).drew).trans hb2); obtain ⟨e0, e1, e2, e3, e4, e5⟩ := HC.out _ hx2)))
  | fail
 all_goals
  go_wp2_with fail
  go_ret
  exact ⟨ret_int (by rw [IntWalk.i64_in _ (by omega)]; omega), hb1.trans (hx2.mono hb1.size)⟩

end Go.Proofs.YteepobghdpnabaaGreat
namespace Go.Proofs.YteepobghdpnabaaGreat
open Go.RowKit

/-! ### weights -/
def txW : Nat → List TxD → Nat
 | n, [] => n
 | n, t :: r => if n < 1048576 then txW (n + t.k.size + t.v.size) r else n
theorem txW_cons (n : Nat) (t : TxD) (r : List TxD) : txW n (t :: r) = if n < 1048576 then txW (n + t.k.size + t.v.size) r else n := rfl
theorem txW_ge : ∀ (n : Nat) (L : List TxD), n ≤ txW n L
 | n, [] => Nat.le_refl _
 | n, t :: r => by
  unfold txW
  split
  ·have := txW_ge (n + t.k.size + t.v.size) r; omega
  ·exact Nat.le_refl _
theorem txW_le {M : Nat} : ∀ (n : Nat) (L : List TxD), (∀ t ∈ L, t.k.size ≤ M ∧ t.v.size ≤ M) → txW n L ≤ max n (1048576 + 2 * M)
 | n, [], _ => by unfold txW; omega
 | n, t :: r, h => by
  unfold txW
  have h1 := h t (by simp)
  split
  ·have := txW_le (n + t.k.size + t.v.size) r fun u hu => h u (by simp [hu])
   omega
  ·omega
theorem drop_tx {L : List TxD} {j : Nat} {t : TxD} (h : L[j]? = some t) : L.drop j = t :: L.drop (j + 1) := by
 rw [List.getElem?_eq_some_iff] at h
 obtain ⟨hl, h⟩ := h
 rw [← h, List.drop_eq_getElem_cons hl]

set_option maxRecDepth 100000 in
set_option maxHeartbeats 800000 in
theorem txWeight_is (A : Option Addr) (c n : Nat) (L : List TxD) (w : World) (hz : L.length = n) (hr : Rd w A (txs L)) (hs : ∀ t ∈ L, t.k.size ≤ 140737488351232 ∧ t.v.size ≤ 140737488351232) (hc : n ≤ c) (hm : c ≤ maxLen) :
  Calls Tryz.prog 23 #[.slice A n c] w fun e w' => e = .returned (.int .i64 ((txW n L : Nat) : Int)) ∧ ∃ d, w' = w.drewN d := by
 unfold maxLen at hm
 have HZ := Lib.hid hz
 have HS := Lib.hid hs
 clear hz hs
 go_enter Tryz.func23, Tryz.ntmps23
 go_wp2_with fail
 go_loopw [3, 4] (fun x i wr => ∃ j S d : Nat, i = .int .i64 j ∧ x = .int .i64 S ∧ j ≤ n ∧ S ≤ 9223372036854775807 ∧ Hid (txW S (L.drop j) = txW n L) ∧ wr = w.drewN d) (fun _ i _ => n - (intOf i).toNat)
 case atStart => exact ⟨0, n, 0, rfl, rfl, by omega, by omega, by show txW n (L.drop 0) = txW n L; rw [List.drop_zero], rfl⟩
 case round =>
  obtain ⟨j, S, d, rfl, rfl, hj, hS, HSe, rfl⟩ := hrel
  by_cases hlt : j < n
  ·have i0 : (0 : Int) ≤ (j : Int) := by omega
   have i1 : (j : Int) < (n : Int) := by omega
   obtain ⟨b, off, ⟨ts, tq, tk, tv⟩, rfl, hbl, hat, c0, c1, c2, c3⟩ := hr.tx (i := j) (by rw [HZ.out]; exact hlt)
   obtain ⟨z1, z2⟩ := HS.out _ (List.mem_of_getElem? hat)
   have hd := drop_tx hat
   have hst := HSe.out
   rw [hd, txW_cons] at hst
   simp only at c2 c3 z1 z2 hst
   have HST := Lib.hid hst
   clear c0 c1 hat hst hd
   by_cases hlt20 : S < 1048576
   ·have i2 : (S : Int) < 1048576 := by omega
    have s1 : IntKind.i64.wrap ((S : Int) + (tk.size : Int)) = (S : Int) + (tk.size : Int) := IntWalk.i64_in _ (by omega)
    have s2 : IntKind.i64.wrap ((S : Int) + (tk.size : Int) + (tv.size : Int)) = (S : Int) + (tk.size : Int) + (tv.size : Int) := IntWalk.i64_in _ (by omega)
    have HN : Hid (txW (S + tk.size + tv.size) (L.drop (j + 1)) = txW n L) := by
     show txW (S + tk.size + tv.size) (L.drop (j + 1)) = txW n L
     have h := HST.out
     rw [if_pos hlt20] at h
     exact h
    go_wp2_with fail
    go_quiet (fail)
    go_wp2_with fail
    go_roundw
    case rel => exact ⟨j + 1, S + tk.size + tv.size, _, by go_num, by go_num, by omega, by omega, HN, rfl⟩
    case measure => simp [intOf]; omega
   ·have i2 : ¬ ((S : Int) < 1048576) := by omega
    have HN : Hid (S = txW n L) := by
     show S = txW n L
     have h := HST.out
     rw [if_neg hlt20] at h
     exact h
    go_wp2_with fail
    go_ret
    exact ⟨ret_int (by rw [← HN.out]), d, rfl⟩
  ·have HN : Hid (S = txW n L) := by
    show S = txW n L
    have h := HSe.out
    rw [List.drop_eq_nil_of_le (by rw [HZ.out]; omega)] at h
    exact h
   have i1 : ¬ ((j : Int) < (n : Int)) := by omega
   go_wp2_with fail
   go_ret
   exact ⟨ret_int (by rw [← HN.out]), d, rfl⟩

/-! ### a message's weight -/
def msgW (m : MsgD) (a : MsgA) : Nat := txW a.nL m.L + (1 + a.nhB + a.nhP) + (1 + a.ncB + a.ncP + a.ncS) + a.nD
set_option maxRecDepth 100000 in
set_option maxHeartbeats 4000000 in
theorem rmw_any (m : MsgD) (a : MsgA) (w : World) (hi : MsgIn w m a) (ho : MsgOk m) (hf : MsgFew 140737488351232 a) :
  Calls Tryz.prog 71 #[msgV m a] w (Tells w.heap.size w (.int .i64 ((msgW m a : Nat) : Int))) := by
 unfold msgV
 obtain ⟨w1, hw1⟩ : ∃ w1, w1 = w.alloc (.cells #[.int .i64 m.k, .int .i64 m.f, .int .i64 m.t, .int .i64 m.d, .int .i64 m.ba, .int .i64 m.bn, .slice a.AL a.nL a.cL, .int .i64 m.ha, .int .i64 m.hr, .slice a.AhB a.nhB a.chB, .slice a.AhP a.nhP a.chP, .int .i64 m.ca, .int .i64 m.cr, .slice a.AcB a.ncB a.ccB, .slice a.AcP a.ncP a.ccP, .int .i64 m.cd, .slice a.AcS a.ncS a.ccS, .slice a.AD a.nD a.cD] 48) := ⟨_, rfl⟩
 have hb1 : Below w.heap.size w w1 := by rw [hw1]; exact (Below.refl _ _).alloc (Nat.le_refl _) _
 have hbx : Box w1 w.heap.size (msgC m a) := by rw [hw1]; exact box_new w (msgC m a) 48
 have HBX := Lib.hid hbx
 have HW := Lib.hid hw1
 have hsz : ∀ t ∈ m.L, t.k.size ≤ 140737488351232 ∧ t.v.size ≤ 140737488351232 := fun t ht => (ho.wL t ht).2.2
 have hle := txW_le (M := 140737488351232) a.nL m.L hsz
 have hfL := hf.sL
 have hfB := hf.shB
 have hfP := hf.shP
 have hfcB := hf.scB
 have hfcP := hf.scP
 have hfcS := hf.scS
 have hfD := hf.sD
 have HSZ := Lib.hid hsz
 have HI := Lib.hid hi
 have HI1 := Lib.hid (hi.below hb1)
 obtain ⟨X, hX⟩ : ∃ X, X = txW a.nL m.L := ⟨_, rfl⟩
 rw [← hX] at hle
 have HX := Lib.hid hX
 have s1 : IntKind.i64.wrap ((X : Int) + (((1 + a.nhB + a.nhP : Nat)) : Int)) = ((X + (1 + a.nhB + a.nhP) : Nat) : Int) := by rw [IntWalk.i64_in _ (by omega)]; omega
 have s2 : IntKind.i64.wrap (((X + (1 + a.nhB + a.nhP) : Nat) : Int) + (((1 + a.ncB + a.ncP + a.ncS : Nat)) : Int)) = ((X + (1 + a.nhB + a.nhP) + (1 + a.ncB + a.ncP + a.ncS) : Nat) : Int) := by rw [IntWalk.i64_in _ (by omega)]; omega
 have s3 : IntKind.i64.wrap (((X + (1 + a.nhB + a.nhP) + (1 + a.ncB + a.ncP + a.ncS) : Nat) : Int) + (a.nD : Int)) = ((X + (1 + a.nhB + a.nhP) + (1 + a.ncB + a.ncP + a.ncS) + a.nD : Nat) : Int) := by rw [IntWalk.i64_in _ (by omega)]; omega
 have c4 : ∀ x : Calm w1, x.val.cell? ⟨w.heap.size, 4, none⟩ = some (.int .i64 m.ba) := fun x => ((HBX.out.below x.ok HBX.out.1).2 4 _ rfl).1
 have c5 : ∀ x : Calm w1, x.val.cell? ⟨w.heap.size, 5, none⟩ = some (.int .i64 m.bn) := fun x => ((HBX.out.below x.ok HBX.out.1).2 5 _ rfl).1
 have c6 : ∀ x : Calm w1, x.val.cell? ⟨w.heap.size, 6, none⟩ = some (.slice a.AL a.nL a.cL) := fun x => ((HBX.out.below x.ok HBX.out.1).2 6 _ rfl).1
 have c7 : ∀ x : Calm w1, x.val.cell? ⟨w.heap.size, 7, none⟩ = some (.int .i64 m.ha) := fun x => ((HBX.out.below x.ok HBX.out.1).2 7 _ rfl).1
 have c8 : ∀ x : Calm w1, x.val.cell? ⟨w.heap.size, 8, none⟩ = some (.int .i64 m.hr) := fun x => ((HBX.out.below x.ok HBX.out.1).2 8 _ rfl).1
 have c9 : ∀ x : Calm w1, x.val.cell? ⟨w.heap.size, 9, none⟩ = some (.slice a.AhB a.nhB a.chB) := fun x => ((HBX.out.below x.ok HBX.out.1).2 9 _ rfl).1
 have c10 : ∀ x : Calm w1, x.val.cell? ⟨w.heap.size, 10, none⟩ = some (.slice a.AhP a.nhP a.chP) := fun x => ((HBX.out.below x.ok HBX.out.1).2 10 _ rfl).1
 have c11 : ∀ x : Calm w1, x.val.cell? ⟨w.heap.size, 11, none⟩ = some (.int .i64 m.ca) := fun x => ((HBX.out.below x.ok HBX.out.1).2 11 _ rfl).1
 have c12 : ∀ x : Calm w1, x.val.cell? ⟨w.heap.size, 12, none⟩ = some (.int .i64 m.cr) := fun x => ((HBX.out.below x.ok HBX.out.1).2 12 _ rfl).1
 have c13 : ∀ x : Calm w1, x.val.cell? ⟨w.heap.size, 13, none⟩ = some (.slice a.AcB a.ncB a.ccB) := fun x => ((HBX.out.below x.ok HBX.out.1).2 13 _ rfl).1
 have c14 : ∀ x : Calm w1, x.val.cell? ⟨w.heap.size, 14, none⟩ = some (.slice a.AcP a.ncP a.ccP) := fun x => ((HBX.out.below x.ok HBX.out.1).2 14 _ rfl).1
 have c15 : ∀ x : Calm w1, x.val.cell? ⟨w.heap.size, 15, none⟩ = some (.int .i64 m.cd) := fun x => ((HBX.out.below x.ok HBX.out.1).2 15 _ rfl).1
 have c16 : ∀ x : Calm w1, x.val.cell? ⟨w.heap.size, 16, none⟩ = some (.slice a.AcS a.ncS a.ccS) := fun x => ((HBX.out.below x.ok HBX.out.1).2 16 _ rfl).1
 have c17 : ∀ x : Calm w1, x.val.cell? ⟨w.heap.size, 17, none⟩ = some (.slice a.AD a.nD a.cD) := fun x => ((HBX.out.below x.ok HBX.out.1).2 17 _ rfl).1
 have HV : Hid (((X + (1 + a.nhB + a.nhP) + (1 + a.ncB + a.ncP + a.ncS) + a.nD : Nat) : Int) = ((msgW m a : Nat) : Int)) := by show _ = _; rw [msgW, ← HX.out]
 clear hw1 hbx hi hX hle hsz hf ho
 obtain ⟨q1, hq1⟩ : ∃ q1 : Int, ((X : Nat) : Int) = q1 := ⟨_, rfl⟩
 obtain ⟨q2, hq2⟩ : ∃ q2 : Int, (((1 + a.nhB + a.nhP : Nat)) : Int) = q2 := ⟨_, rfl⟩
 obtain ⟨q3, hq3⟩ : ∃ q3 : Int, (((1 + a.ncB + a.ncP + a.ncS : Nat)) : Int) = q3 := ⟨_, rfl⟩
 obtain ⟨q4, hq4⟩ : ∃ q4 : Int, ((X + (1 + a.nhB + a.nhP) : Nat) : Int) = q4 := ⟨_, rfl⟩
 obtain ⟨q5, hq5⟩ : ∃ q5 : Int, ((X + (1 + a.nhB + a.nhP) + (1 + a.ncB + a.ncP + a.ncS) : Nat) : Int) = q5 := ⟨_, rfl⟩
 obtain ⟨q6, hq6⟩ : ∃ q6 : Int, ((X + (1 + a.nhB + a.nhP) + (1 + a.ncB + a.ncP + a.ncS) + a.nD : Nat) : Int) = q6 := ⟨_, rfl⟩
 rw [hq1, hq2, hq4] at s1
 rw [hq3, hq4, hq5] at s2
 rw [hq5, hq6] at s3
 rw [hq6] at HV
 have HQ1 := Lib.hid hq1
 have HQ2 := Lib.hid hq2
 have HQ3 := Lib.hid hq3
 clear hq1 hq2 hq3 hq4 hq5 hq6
 go_enter Tryz.func71, Tryz.ntmps71
 go_wp2_with fail
 rw [← HW.out]
 refine wp_region_calm (by kernel_rfl) (by kernel_rfl) ?_
 repeat (go_big_quiet_step (first
   | (go_at_call 23; exact calm_drew (v := .int .i64 q1) (by rw [← HQ1.out, HX.out]; exact txWeight_is a.AL a.cL a.nL m.L _ HI.out.zL (HI1.out.rL.below (Calm.ok _)) HSZ.out HI.out.kL HI.out.xL))
   | (go_at_call 113; exact calm_tells (v := .int .i64 q2) (by rw [← HQ2.out]; exact rhw_any _ _ a.AhB a.chB a.nhB a.AhP a.chP a.nhP _ hfB hfP))
   | (go_at_call 114; exact calm_tells (v := .int .i64 q3) (by rw [← HQ3.out]; exact rcw_any _ _ a.AcB a.ccB a.ncB a.AcP a.ccP a.ncP _ a.AcS a.ccS a.ncS _ hfcB hfcP hfcS))))
 refine wpQuiet_nil ?_
 rintro _ ⟨x, rfl⟩
 go_wp2_with fail
 go_ret
 exact ⟨ret_int HV.out, hb1.trans (x.ok.mono hb1.size)⟩

def MHeavy (a : MsgA) (w : World) (en : Ending) (w' : World) : Prop := ∃ b : Bool, en = .returned (.bool b) ∧ Below w.heap.size w w' ∧ (b = false → MsgFew 2000 a)
theorem few_of {m : MsgD} {a : MsgA} (h : msgW m a ≤ 2000) : MsgFew 2000 a := by
 unfold msgW at h
 have := txW_ge a.nL m.L
 constructor <;> omega
set_option maxHeartbeats 1000000 in
theorem mheavy_any (m : MsgD) (a : MsgA) (w : World) (hi : MsgIn w m a) (ho : MsgOk m) (hf : MsgFew 140737488351232 a) :
  Calls Tryz.prog 25 #[msgV m a] w (MHeavy a w) := by
 obtain ⟨w1, hw1⟩ : ∃ w1, w1 = w.alloc (.cells #[.int .i64 m.k, .int .i64 m.f, .int .i64 m.t, .int .i64 m.d, .int .i64 m.ba, .int .i64 m.bn, .slice a.AL a.nL a.cL, .int .i64 m.ha, .int .i64 m.hr, .slice a.AhB a.nhB a.chB, .slice a.AhP a.nhP a.chP, .int .i64 m.ca, .int .i64 m.cr, .slice a.AcB a.ncB a.ccB, .slice a.AcP a.ncP a.ccP, .int .i64 m.cd, .slice a.AcS a.ncS a.ccS, .slice a.AD a.nD a.cD] 48) := ⟨_, rfl⟩
 have hb1 : Below w.heap.size w w1 := by rw [hw1]; exact (Below.refl _ _).alloc (Nat.le_refl _) _
 have hbx : Box w1 w.heap.size (msgC m a) := by rw [hw1]; exact box_new w (msgC m a) 48
 have HW := Lib.hid hw1
 have HI1 := Lib.hid (hi.below hb1)
 have hbxc0 := (hbx.2 0 _ rfl).1
 have hbxc1 := (hbx.2 1 _ rfl).1
 have hbxc2 := (hbx.2 2 _ rfl).1
 have hbxc3 := (hbx.2 3 _ rfl).1
 have hbxc4 := (hbx.2 4 _ rfl).1
 have hbxc5 := (hbx.2 5 _ rfl).1
 have hbxc6 := (hbx.2 6 _ rfl).1
 have hbxc7 := (hbx.2 7 _ rfl).1
 have hbxc8 := (hbx.2 8 _ rfl).1
 have hbxc9 := (hbx.2 9 _ rfl).1
 have hbxc10 := (hbx.2 10 _ rfl).1
 have hbxc11 := (hbx.2 11 _ rfl).1
 have hbxc12 := (hbx.2 12 _ rfl).1
 have hbxc13 := (hbx.2 13 _ rfl).1
 have hbxc14 := (hbx.2 14 _ rfl).1
 have hbxc15 := (hbx.2 15 _ rfl).1
 have hbxc16 := (hbx.2 16 _ rfl).1
 have hbxc17 := (hbx.2 17 _ rfl).1
 obtain ⟨W, hWe⟩ : ∃ W, W = msgW m a := ⟨_, rfl⟩
 have HWE := Lib.hid hWe
 clear hw1 hbx hi hWe
 unfold msgV
 go_enter Tryz.func25, Tryz.ntmps25
 go_wp2_with fail
 rw [← HW.out]
 go_wp2_with fail
 refine (rmw_any m a _ HI1.out ho hf).mono ?_
 rw [← HWE.out]
 rintro e w2 ⟨rfl, hb2⟩
 have hb3 := hb1.trans (hb2.mono hb1.size)
 by_cases h : 2000 < (W : Int)
 ·go_wp2_with fail
  go_ret
  exact ⟨true, ret_bool (by first | rfl | (simp; done) | (simp [h]; done)), hb3, fun h => by cases h⟩
 ·go_wp2_with fail
  go_ret
  exact ⟨false, ret_bool (by first | rfl | (simp; done) | (simp [h]; done)), hb3, fun _ => few_of (by rw [← HWE.out]; omega)⟩


end Go.Proofs.YteepobghdpnabaaGreat
namespace Go.Proofs.YteepobghdpnabaaGreat
open Go.RowKit

def heldWt : Nat → List HlD → Nat
 | n, [] => n
 | n, x :: r => if n < 1048576 then heldWt (n + txW x.L.length x.L) r else n
theorem heldWt_ge : ∀ (n : Nat) (l : List HlD), n ≤ heldWt n l
 | n, [] => Nat.le_refl _
 | n, x :: r => by
  unfold heldWt
  split
  ·have := heldWt_ge (n + txW x.L.length x.L) r; omega
  ·exact Nat.le_refl _
theorem heldWt_cons (n : Nat) (x : HlD) (r : List HlD) : heldWt n (x :: r) = if n < 1048576 then heldWt (n + txW x.L.length x.L) r else n := rfl

set_option maxRecDepth 100000 in
set_option maxHeartbeats 2000000 in
theorem heldWeight_is (a : Ad) (hs : List (HlD × Ad)) (l : List HlD) (w : World) (h : RowIn KH w a hs) (he : hs.map Prod.fst = l) (hz : ∀ x ∈ l, ∀ t ∈ x.L, t.k.size ≤ 140737488351232 ∧ t.v.size ≤ 140737488351232) (hn : l.length ≤ 140737488351232) (hn2 : ∀ x ∈ l, x.L.length ≤ 140737488351232) :
  Calls Tryz.prog 24 #[a.v] w fun e w' => e = .returned (.int .i64 ((heldWt l.length l : Nat) : Int)) ∧ ∃ d, w' = w.drewN d := by
 obtain ⟨A, n, c⟩ := a
 have hl : hs.length = n := h.row.len
 have hll : l.length = n := by rw [← hl, ← he, List.length_map]
 have hc : n ≤ c := h.row.cap
 have hm : c ≤ maxLen := h.row.max
 unfold maxLen at hm
 have hnn : n ≤ 140737488351232 := by omega
 have HN2 := Lib.hid hn2
 have H := Lib.hid h
 have HL := Lib.hid hl
 have HLL := Lib.hid hll
 have HE := Lib.hid he
 have HZ := Lib.hid hz
 unfold Ad.v
 rw [hll]
 clear h hl hll he hz hn hn2
 go_enter Tryz.func24, Tryz.ntmps24
 go_wp2_with fail
 go_loopw [3, 4] (fun x i wr => ∃ j S d : Nat, i = .int .i64 j ∧ x = .int .i64 S ∧ j ≤ n ∧ S ≤ 4611686018427387904 ∧ Hid (heldWt S (l.drop j) = heldWt n l) ∧ wr = w.drewN d) (fun _ i _ => n - (intOf i).toNat)
 case atStart => exact ⟨0, n, 0, rfl, rfl, by omega, by omega, by show heldWt n (l.drop 0) = heldWt n l; rw [List.drop_zero], rfl⟩
 case round =>
  obtain ⟨j, S, d, rfl, rfl, hj, hS, HSe, rfl⟩ := hrel
  by_cases hlt : j < n
  ·have i0 : (0 : Int) ≤ (j : Int) := by omega
   have i1 : (j : Int) < (n : Int) := by omega
   obtain ⟨x, hx⟩ : ∃ x, hs[j]? = some x := ⟨_, List.getElem?_eq_getElem (by rw [HL.out]; exact hlt)⟩
   have hx2 : l[j]? = some x.1 := by rw [← HE.out, List.getElem?_map, hx]; rfl
   have hd : l.drop j = x.1 :: l.drop (j + 1) := by
    obtain ⟨hl, he⟩ := List.getElem?_eq_some_iff.1 hx2
    rw [List.drop_eq_getElem_cons hl, he]
   have hst := HSe.out
   rw [hd, heldWt_cons] at hst
   have HST := Lib.hid hst
   obtain ⟨b, off, hA, hbl, -, hcell⟩ := H.out.cells hx
   simp only at hA
   subst hA
   have c3 : w.cell? ⟨b, off + j * 4 + 3, none⟩ = some (.slice x.2.A x.2.n x.2.c) := by have := hcell 3 _ rfl; rw [← Nat.add_assoc] at this; exact this
   have hsub := H.out.sub x (List.mem_of_getElem? hx)
   have hxn : x.1.L.length = x.2.n := hsub.len
   have hxc : x.2.n ≤ x.2.c := hsub.cap
   have hxm : x.2.c ≤ maxLen := hsub.max
   have hzx := HZ.out x.1 (List.mem_of_getElem? hx2)
   have htw : txW x.1.L.length x.1.L ≤ max x.1.L.length (1048576 + 2 * 140737488351232) := txW_le _ _ hzx
   have HTX := Lib.hid (fun d => txWeight_is x.2.A x.2.c x.2.n x.1.L (w.drewN d) hxn (hsub.rd.below (below_n (Below.refl _ _) d)) hzx hxc hxm)
   have hxl := HN2.out x.1 (List.mem_of_getElem? hx2)
   rw [hxn] at htw hxl
   unfold maxLen at hxm
   have hX : txW x.2.n x.1.L ≤ 4611686018427387904 - 1048576 := by omega
   have HXN := Lib.hid hxn
   clear hx hx2 hd hst hcell hsub hzx htw hxl
   obtain ⟨X, hXe⟩ : ∃ X, X = txW x.2.n x.1.L := ⟨_, rfl⟩
   rw [← hXe] at hX HTX
   have HXE := Lib.hid hXe
   clear hXe hxn
   by_cases hlt20 : S < 1048576
   ·have i2 : (S : Int) < 1048576 := by omega
    have s1 : IntKind.i64.wrap ((S : Int) + (X : Int)) = (S : Int) + (X : Int) := IntWalk.i64_in _ (by omega)
    have HN : Hid (heldWt (S + X) (l.drop (j + 1)) = heldWt n l) := by
     show heldWt (S + X) (l.drop (j + 1)) = heldWt n l
     have h := HST.out
     rw [if_pos hlt20, HXN.out, ← HXE.out] at h
     exact h
    go_wp2_with (go_at_call 23; refine (HTX.out _).mono ?_; rintro e w' ⟨rfl, d2, rfl⟩)
    go_roundw
    case rel => exact ⟨j + 1, S + X, _, by go_num, by go_num, by omega, by omega, HN, rfl⟩
    case measure => simp [intOf]; omega
   ·have i2 : ¬ ((S : Int) < 1048576) := by omega
    have HN : Hid (S = heldWt n l) := by
     show S = heldWt n l
     have h := HST.out
     rw [if_neg hlt20] at h
     exact h
    go_wp2_with fail
    go_ret
    exact ⟨ret_int (by rw [← HN.out]), d, rfl⟩
  ·have HN : Hid (S = heldWt n l) := by
    show S = heldWt n l
    have h := HSe.out
    rw [List.drop_eq_nil_of_le (by rw [HLL.out]; omega)] at h
    exact h
   have i1 : ¬ ((j : Int) < (n : Int)) := by omega
   go_wp2_with fail
   go_ret
   exact ⟨ret_int (by rw [← HN.out]), d, rfl⟩

end Go.Proofs.YteepobghdpnabaaGreat
