/-
 Package worker's ask and give: messages that hand batches on.
-/
import Derived.Test.YteepobghdpnabaaGreatKBf
import Derived.Test.YteepobghdpnabaaGreatKBh
import Derived.Test.YteepobghdpnabaaGreatKBm
namespace Go.Proofs.YteepobghdpnabaaGreat
open Go.RowKit

theorem info_mesZ : (Tryz.prog.info? 48).map (fun i => (i.zero, i.size, i.bytes)) = some (some (msgV zeroM zeroA), 18, 256) := by kernel_rfl
theorem step_app_elemZ {P : Program} (w : World) {ops : Array Oper} {o : Oper} {a : Act} {K : Act → World → Prop} {Q : Exit → Act → World → Prop} {E : Prop} (hgd : o.guard = none) (s x : Operand) (t : TypeId)
  (ho : o.op = .call { callee := .builtin .append, args := #[s, x], argTypes := #[t, t] })
  (B : Nat) (e : TypeId) (z : Value) (sz bytes : Nat) (ht : P.underlying t = some (.slice e)) (hinfo : (P.info? e).map (fun i => (i.zero, i.size, i.bytes)) = some (some z, sz, bytes)) (hzs : z.cells.size = sz) (hsz : 0 < sz) (hby : bytes ≤ 256)
  (v : Value) (n : Nat) (xs : List Value) (hs : a.eval s = v) (hown : w.ownsRow B e sz v n xs)
  (g : Nat) (us : List Value) (hx : a.eval x = .slice (some ⟨g, 0, none⟩) 1 1) (hu : us.length = sz) (hc : ∀ i u, us[i]? = some u → w.cell? ⟨g, i, none⟩ = some u) (h1 : ∀ u ∈ us, u.oneCell' = true)
  (hn : n + 1 ≤ 68719476736) (hB : B ≤ w.heap.size)
  (h : ∀ g' c' w', w'.ownsRow B e sz (.slice (some ⟨g', 0, none⟩) (n + 1) c') (n + 1) (xs ++ us) → w.grownBy w' v.ownBlock → (v.ownBlock = some g' ∨ g' = w.heap.size) → K (a.put o.dst (.slice (some ⟨g', 0, none⟩) (n + 1) c')) w') : if Region.wanted o (yielded ops a.tmps) = true then Oper.wp P o a w K Q else E := by
 obtain ⟨i, hi, hz, hsize, hbytes⟩ := info_parts hinfo
 refine step_append_lies (P := P) w hgd s x t ho B e i z sz bytes ht hi hz hsize hbytes hzs hsz v n xs hs hown ⟨g, 0, none⟩ 1 1 us hx (by omega) ?_ h1 (by decide) (by unfold maxLen; omega) ?_ hB _ rfl ?_
 ·intro j y hj
  rw [Addr.add_lit, Nat.zero_add]
  exact hc j y hj
 ·have := Nat.mul_le_mul hn hby
  omega
 ·intro g' cap w' hown' hg hat _
  exact h g' cap w' hown' hg hat
theorem copied_wp {w : World} {o : Oper} {a : Act} {K : Act → World → Prop} {Q : Exit → Act → World → Prop} {s : Nat} {t : TypeId} {v : Value} (ho : o.op = .call { callee := .value (.func 80), args := #[.tmp s], argTypes := #[t] }) (hs : a.tmps[s]? = some v) {R : Ending → World → Prop} (hc : Calls Tryz.prog 80 #[v] w R)
  (h : ∀ e w', R e w' → ∃ u, e = .returned u ∧ K (a.put o.dst u) w') : o.wp Tryz.prog a w K Q := by
 have he : a.eval (.tmp s) = v := by simp [Act.eval, hs]
 unfold Oper.wp execOp
 simp only [ho]
 go_simp
 refine hc.mono fun e w' hr => ?_
 obtain ⟨u, rfl, hk⟩ := h e w' hr
 exact hk
theorem step_copied {w : World} {ops : Array Oper} {o : Oper} {a : Act} {K : Act → World → Prop} {Q : Exit → Act → World → Prop} {E : Prop} {s : Nat} {t : TypeId} {v : Value} (hgd : o.guard = none)
  (ho : o.op = .call { callee := .value (.func 80), args := #[.tmp s], argTypes := #[t] }) (hs : a.tmps[s]? = some v) {R : Ending → World → Prop} (hc : Calls Tryz.prog 80 #[v] w R)
  (h : ∀ e w', R e w' → ∃ u, e = .returned u ∧ K (a.put o.dst u) w') : if Region.wanted o (yielded ops a.tmps) = true then Oper.wp Tryz.prog o a w K Q else E := by
 have hw : Region.wanted o (yielded ops a.tmps) = true := by simp [Region.wanted, hgd]
 rw [if_pos hw]
 exact copied_wp ho hs hc h

/-! ### is a number there? -/
def IdxP (l : List Int) (t : Int) (e : Ending) : Prop := ∃ r : Int, e = .returned (.int .i64 r) ∧ (0 ≤ r ↔ t ∈ l)
set_option maxHeartbeats 2000000 in
theorem indexI_any (A : Option Addr) (n c : Nat) (l : List Int) (t : Int) (w : World) (hz : l.length = n) (hr : Rd w A (i64s l)) (hn : n ≤ 1000000) :
  Calls Tryz.prog 145 #[.slice A n c, .int .i64 t] w fun e w' => IdxP l t e ∧ w = w' := by
 have HZ := Lib.hid hz
 have HRD := Lib.hid hr
 clear hz hr
 go_enter Tryz.func145, Tryz.ntmps145
 go_wp2
 go_loop [8] (fun i => ∃ k : Nat, i = .int .i64 k ∧ k ≤ n ∧ Hid (t ∉ l.take k)) (fun i => n - (intOf i).toNat)
 case atStart => exact ⟨0, rfl, by omega, by show t ∉ _; simp⟩
 case round =>
  obtain ⟨k, rfl, hk, HT⟩ := hrel
  by_cases hlt : k < n
  ·obtain ⟨b, off, rfl, hbl, hcell⟩ := HRD.out.open_ (by rw [i64s_length, HZ.out]; omega)
   have hc1 := hcell k _ (i64s_at (by rw [HZ.out]; exact hlt))
   have hm : l[k]? = some (l[k]?.getD 0) := at_some (by rw [HZ.out]; exact hlt)
   obtain ⟨m, hme⟩ : ∃ m, m = l[k]?.getD 0 := ⟨_, rfl⟩
   rw [← hme] at hc1 hm
   have HM := Lib.hid hm
   clear hm hme hcell
   have i0 : (0 : Int) ≤ (k : Int) := by omega
   have i1 : (k : Int) < (n : Int) := by omega
   by_cases htm : t = m
   ·have j1 : (t == m) = true := by simp [htm]
    have HI : Hid (t ∈ l) := by show t ∈ l; rw [htm]; exact List.mem_of_getElem? HM.out
    clear htm
    go_wp2_with fail
    go_ret
    exact ⟨⟨k, rfl, ⟨fun _ => HI.out, fun _ => by omega⟩⟩, rfl⟩
   ·have j1 : (t == m) = false := by simp [htm]
    have HN : Hid (t ∉ l.take (k + 1)) := by
     show t ∉ _
     rw [take_nxt HM.out, List.mem_append]
     rintro (h1 | h1)
     ·exact HT.out h1
     ·exact htm (by simpa using h1)
    clear htm
    go_wp2_with fail
    go_round
    case rel => exact ⟨k + 1, by go_num, by omega, HN.out⟩
    case measure => simp [intOf]; omega
  ·have i1 : ¬ ((k : Int) < (n : Int)) := by omega
   have HN : Hid (t ∉ l) := by
    show t ∉ l
    have := HT.out
    rwa [List.take_of_length_le (by rw [HZ.out]; omega)] at this
   go_wp2_with fail
   go_ret
   exact ⟨⟨-1, rfl, ⟨fun h => by omega, fun h => absurd h HN.out⟩⟩, rfl⟩
theorem contains_any (A : Option Addr) (n c : Nat) (l : List Int) (t : Int) (w : World) (hz : l.length = n) (hr : Rd w A (i64s l)) (hn : n ≤ 1000000) :
  Calls Tryz.prog 131 #[.slice A n c, .int .i64 t] w fun e w' => e = .returned (.bool (decide (t ∈ l))) ∧ w = w' := by
 have HC := Lib.hid (indexI_any A n c l t w hz hr hn)
 clear hz hr
 go_enter Tryz.func131, Tryz.ntmps131
 go_wp2_with fail
 refine HC.out.mono ?_
 rintro e w' ⟨⟨r, rfl, hri⟩, rfl⟩
 have HR := Lib.hid hri
 clear hri
 by_cases hr0 : 0 ≤ r
 ·have HD : Hid (decide (t ∈ l) = true) := decide_eq_true (HR.out.1 hr0)
  go_wp2_with fail
  go_ret
  exact ⟨ret_bool (by rw [HD.out]), rfl⟩
 ·have HD : Hid (decide (t ∈ l) = false) := decide_eq_false fun h => hr0 (HR.out.2 h)
  go_wp2_with fail
  go_ret
  exact ⟨ret_bool (by rw [HD.out]; simp; omega), rfl⟩

/-! ### the nodes asked, one by one -/
def askTo (P : WkD) (d a n : Int) (L : List TxD) (S : List Int) (k : Nat) : List OtD := (((List.range k).map fun j : Nat => (j : Int) + 1).filter fun j => decide (j ≠ P.i ∧ j ∉ S)).map fun j => ⟨1, P.i, j, d, a, n, L⟩
theorem askTo_next (P : WkD) (d a n : Int) (L : List TxD) (S : List Int) (k : Nat) : askTo P d a n L S (k + 1) = askTo P d a n L S k ++ (if (k : Int) + 1 ≠ P.i ∧ (k : Int) + 1 ∉ S then [⟨1, P.i, (k : Int) + 1, d, a, n, L⟩] else []) := by
 unfold askTo
 rw [List.range_succ, List.map_append, List.filter_append, List.map_append]
 congr 1
 by_cases h : (k : Int) + 1 ≠ P.i ∧ (k : Int) + 1 ∉ S
 ·simp [h]
 ·rw [if_neg h]
  simp only [List.map_cons, List.map_nil, List.filter_cons, List.filter_nil]
  rw [if_neg (by simpa using h)]
  rfl
structure Outs (B : Nat) (w : World) (o : Ad) (ms : List (OtD × Ad)) (l : List OtD) (w' : World) (o' : Ad) : Prop where
 row : ∃ ms', RowOwn KM B w' o' (ms ++ ms') ∧ ms'.map Prod.fst = l
 touch : Touch (fun k => o.v.ownBlock = some k) w w'
 own : ∀ k, o'.v.ownBlock = some k → o.v.ownBlock = some k ∨ w.heap.size ≤ k
section
variable {B : Nat} {w w1 w2 w3 : World} {o o' o2 ob : Ad} {ms : List (OtD × Ad)} {l : List OtD} {m : OtD} {b : Obj}
theorem outs_start (h : RowOwn KM B w o ms) : Outs B w o ms [] w o := ⟨⟨[], by rw [List.append_nil]; exact h, rfl⟩, Touch.refl _ _, fun _ hk => .inl hk⟩
theorem Outs.skip (h : Outs B w o ms l w1 o') (hb : Below w1.heap.size w1 w2) : Outs B w o ms l w2 o' := by
 obtain ⟨ms', h1, h2⟩ := h.row
 exact ⟨⟨ms', h1.below hb, h2⟩, h.touch.on (Touch.of hb), h.own⟩
theorem Outs.base (h : Outs B w1 o ms l w2 o') (hb : Below w.heap.size w w1) : Outs B w o ms l w2 o' :=
 ⟨h.row, (Touch.of hb).on h.touch, fun k hk => (h.own k hk).imp id fun h1 => by have := hb.size; omega⟩
theorem Outs.push (h : Outs B w o ms l w1 o') (hB : B ≤ w1.heap.size) (hb : Below w1.heap.size w1 w2) (hl : w2.ownsRow w1.heap.size 40 4 ob.v ob.n (txs m.L)) (hn : m.L.length = ob.n) (hg : (w2.alloc b).grownBy w3 o'.v.ownBlock)
  {ms' : List (OtD × Ad)} (h1 : RowOwn KM B w1 o' (ms ++ ms')) (h2 : ms'.map Prod.fst = l) (hr : w3.ownsRow B 48 18 o2.v o2.n (cellsK KM (ms ++ ms') ++ KM.cells m ob.v)) (hn2 : o2.n = o'.n + 1) (hat : o'.v.ownBlock = o2.v.ownBlock ∨ ∃ k, o2.v.ownBlock = some k ∧ w2.heap.size ≤ k) : Outs B w o ms (l ++ [m]) w3 o2 := by
 have hT : Touch (fun k => o'.v.ownBlock = some k) w2 w3 := ((Touch.refl (fun k => o'.v.ownBlock = some k) w2).alloc b).on (Touch.grown hg fun k hk => hk)
 have hins := h1.ins (x := m) (o := ob) (i := (ms ++ ms').length) (a' := o2) hb hl hn hB hT (by
  rw [List.take_of_length_le (by rw [cellsK_length]; exact Nat.le_refl _), List.drop_of_length_le (by rw [cellsK_length]; exact Nat.le_refl _), List.append_nil]
  exact hr) hn2 (Nat.le_refl _)
 rw [insAt, List.take_length, List.drop_length] at hins
 refine ⟨⟨ms' ++ [(m, ob)], by rw [← List.append_assoc]; exact hins, by rw [List.map_append, h2]; rfl⟩, h.touch.trans ((Touch.of hb : Touch (fun k => o'.v.ownBlock = some k) w1 w2).on hT) (fun k hk => h.own k hk), fun k hk => ?_⟩
 rcases hat with e | ⟨j, e, hj⟩
 ·exact h.own k (e.trans hk)
 ·rw [e] at hk
  cases hk
  have := h.touch.size
  have := hb.size
  exact .inr (by omega)
end

set_option maxRecDepth 100000 in
set_option maxHeartbeats 16000000 in
theorem ask_any (B : Nat) (P : WkD) (a : WkA) (d ba bn : Int) (o : Ad) (L : List TxD) (os : Ad) (S : List Int) (oO : Ad) (ms : List (OtD × Ad)) (w : World) (hN : 0 ≤ P.N ∧ P.N ≤ 16) (hL : L.length ≤ 1000000) (hSl : S.length ≤ 1000000)
    (hst : ∀ wX, Touch (fun k => oO.v.ownBlock = some k) w wX → SlIn wX o L.length (txs L) ∧ SlIn wX os S.length (i64s S)) (hO : RowOwn KM B w oO ms) (hOl : ms.length ≤ 100000000) (hB : B ≤ w.heap.size) :
    Calls Tryz.prog 95 #[oO.v, wkV P a, .int .i64 d, .agg #[.int .i64 ba, .int .i64 bn, o.v], os.v] w fun e w' => ∃ o', e = .returned o'.v ∧ Outs B w oO ms (askW P d ba bn L S) w' o' := by
  obtain ⟨w0, hw0⟩ : ∃ w0, w0 = (w.alloc (.cells #[.int .i64 P.i, .int .i64 P.N, .int .i64 P.x, .slice a.O.A a.O.n a.O.c, .int .i64 P.g, .int .i64 P.c, .slice a.W.A a.W.n a.W.c, .slice a.H.A a.H.n a.H.c, .slice a.R.A a.R.n a.R.c] 27)).alloc (.cells #[.int .i64 ba, .int .i64 bn, .slice o.A o.n o.c] 42) := ⟨_, rfl⟩
  have hb0 : Below w.heap.size w w0 := by rw [hw0]; exact ((Below.refl _ _).alloc (Nat.le_refl _) _).alloc (by simp) _
  have bx0 : Box w0 w.heap.size (wkC P a) := by rw [hw0]; exact (box_new w (wkC P a) 27).below ((Below.refl _ _).alloc (Nat.le_refl _) _) (by simp)
  have by0 : Box w0 (w.heap.size + 1) [.int .i64 ba, .int .i64 bn, .slice o.A o.n o.c] := by
    rw [hw0]
    have h := box_new (w.alloc (.cells #[.int .i64 P.i, .int .i64 P.N, .int .i64 P.x, .slice a.O.A a.O.n a.O.c, .int .i64 P.g, .int .i64 P.c, .slice a.W.A a.W.n a.W.c, .slice a.H.A a.H.n a.H.c, .slice a.R.A a.R.n a.R.c] 27)) [.int .i64 ba, .int .i64 bn, .slice o.A o.n o.c] 42
    rw [show (w.alloc (.cells #[.int .i64 P.i, .int .i64 P.N, .int .i64 P.x, .slice a.O.A a.O.n a.O.c, .int .i64 P.g, .int .i64 P.c, .slice a.W.A a.W.n a.W.c, .slice a.H.A a.H.n a.H.c, .slice a.R.A a.R.n a.R.c] 27)).heap.size = w.heap.size + 1 by simp] at h
    exact h
  obtain ⟨g, hg⟩ : ∃ g, g = w.heap.size := ⟨_, rfl⟩
  rw [← hg] at bx0 by0
  obtain ⟨T, hT⟩ : ∃ T, T = P.N.toNat := ⟨_, rfl⟩
  have hTN : P.N = (T : Int) := by omega
  have hT16 : T ≤ 16 := by omega
  have hg0 : g + 2 ≤ w0.heap.size := by rw [hw0, hg]; simp
  have HOS : Hid (Outs B w0 oO ms (askTo P d ba bn L S 0) w0 oO) := outs_start (hO.below hb0)
  have HAS : Hid (askTo P d ba bn L S T = askW P d ba bn L S) := by show _ = _; rw [hT]; rfl
  have HW0 := Lib.hid hw0
  have HTN := Lib.hid hTN
  have HG := Lib.hid hg
  have HBX := Lib.hid bx0
  have HBY := Lib.hid by0
  have HB0 := Lib.hid hb0
  have hblk : ∀ k, oO.v.ownBlock = some k → k < g := fun k hk => by have := (own_lt hO.row hk).1; omega
  have HBLK := Lib.hid hblk
  have hOn : oO.n = ms.length := hO.len.symm
  have HON := Lib.hid hOn
  have hB0 : B ≤ w0.heap.size := by omega
  have HSL : Hid (∀ wX, Touch (fun k => oO.v.ownBlock = some k) w0 wX → SlIn wX o L.length (txs L) ∧ SlIn wX os S.length (i64s S)) := by
    show ∀ wX, _
    exact fun wX hX => hst wX ((Touch.of hb0).on hX)
  have HGW : Hid (∀ k, oO.v.ownBlock = some k → k < w.heap.size) := by show ∀ k, _; exact fun k hk => by rw [← hg]; exact hblk k hk
  clear hst hO hw0 hTN hN hT bx0 by0 hb0 hblk hOn hB hg
  unfold wkV Ad.v
  go_enter Tryz.func95, Tryz.ntmps95
  go_upto_region 1 with fail
  rw [← HW0.out, ← HG.out]
  go_wp2_with fail
  go_loopw [0, 11] (fun v i wr => ∃ (k : Nat) (o' : Ad), i = .int .i64 ((k : Int) + 1) ∧ v = .slice o'.A o'.n o'.c ∧ k ≤ T ∧ o'.n ≤ ms.length + k ∧ Hid (Outs B w0 oO ms (askTo P d ba bn L S k) wr o')) (fun _ i _ => T + 1 - (intOf i).toNat)
  case atStart => exact ⟨0, oO, by simp, rfl, Nat.zero_le _, by have := HON.out; omega, HOS.out⟩
  case round =>
    obtain ⟨k, o', rfl, rfl, hk, hon, HO⟩ := hrel
    have hT0 := HO.out.touch
    have hng : ¬ (oO.v.ownBlock = some g) := fun hq => by have := HBLK.out g hq; omega
    have hng1 : ¬ (oO.v.ownBlock = some (g + 1)) := fun hq => by have := HBLK.out _ hq; omega
    have hbx := HBX.out.touch hT0 hng
    have hby := HBY.out.touch hT0 hng1
    have q0 : wr.cell? ⟨g, 0, none⟩ = some (.int .i64 P.i) := (hbx.2 0 _ rfl).1
    have q1 : wr.cell? ⟨g, 1, none⟩ = some (.int .i64 (T : Int)) := by rw [← HTN.out]; exact (hbx.2 1 _ rfl).1
    have m0 : wr.cell? ⟨g + 1, 0, none⟩ = some (.int .i64 ba) := (hby.2 0 _ rfl).1
    have m1 : wr.cell? ⟨g + 1, 1, none⟩ = some (.int .i64 bn) := (hby.2 1 _ rfl).1
    have m2 : wr.cell? ⟨g + 1, 2, none⟩ = some (.slice o.A o.n o.c) := (hby.2 2 _ rfl).1
    have hgl : g < wr.heap.size := hbx.1
    have hgl1 : g + 1 < wr.heap.size := hby.1
    have hsz := hT0.size
    have HST := Lib.hid (HSL.out wr hT0)
    clear hT0 hbx hby hng hng1
    have hnx := askTo_next P d ba bn L S k
    have HNX := Lib.hid hnx
    clear hnx
    by_cases hlt : k < T
    · have i1 : (k : Int) + 1 ≤ (T : Int) := by omega
      have w1' : IntKind.i64.wrap ((k : Int) + 1 + 1) = (k : Int) + 1 + 1 := IntWalk.i64_in _ (by omega)
      by_cases hid : (k : Int) + 1 = P.i
      · have j1 : ((k : Int) + 1 == P.i) = true := by simp [hid]
        have HN : Hid (askTo P d ba bn L S (k + 1) = askTo P d ba bn L S k) := by show _ = _; rw [HNX.out, if_neg (fun h => h.1 hid), List.append_nil]
        clear hid
        go_wp2_with fail
        go_roundw
        case rel => exact ⟨k + 1, o', by push_cast; rfl, rfl, by omega, by omega, by show Outs _ _ _ _ _ _ _; rw [HN.out]; exact HO.out⟩
        case measure => simp [intOf]; omega
      · have j1 : ((k : Int) + 1 == P.i) = false := by simp [hid]
        have hcon := contains_any os.A os.n os.c S ((k : Int) + 1) wr HST.out.2.len HST.out.2.rd (by have := HST.out.2.len; omega)
        by_cases hS : (k : Int) + 1 ∈ S
        · rw [decide_eq_true hS] at hcon
          have HCON := Lib.hid hcon
          have HN : Hid (askTo P d ba bn L S (k + 1) = askTo P d ba bn L S k) := by show _ = _; rw [HNX.out, if_neg (fun h => h.2 hS), List.append_nil]
          clear hid hcon hS
          go_wp2_with (go_at_call 131; refine HCON.out.mono ?_; rintro e w' ⟨rfl, rfl⟩)
          go_roundw
          case rel => exact ⟨k + 1, o', by push_cast; rfl, rfl, by omega, by omega, by show Outs _ _ _ _ _ _ _; rw [HN.out]; exact HO.out⟩
          case measure => simp [intOf]; omega
        · rw [decide_eq_false hS] at hcon
          have HCON := Lib.hid hcon
          have HN : Hid (askTo P d ba bn L S (k + 1) = askTo P d ba bn L S k ++ [⟨1, P.i, (k : Int) + 1, d, ba, bn, L⟩]) := by show _ = _; rw [HNX.out, if_pos ⟨hid, hS⟩]
          clear hid hcon hS
          go_upto_region 5 with (go_at_call 131; refine HCON.out.mono ?_; rintro e w' ⟨rfl, rfl⟩)
          have HSD : Hid (SlIn wr.drew o L.length (txs L)) := HST.out.1.drew
          obtain ⟨ms', hrow, hmap⟩ := HO.out.row
          have HROW := Lib.hid hrow.row
          have HRW := Lib.hid hrow
          have hwB : B ≤ wr.heap.size := by omega
          have HMAP := Lib.hid hmap
          clear hrow hmap
          have HOB : Hid (∀ j, (Value.slice o'.A o'.n o'.c).ownBlock = some j → j < wr.heap.size) := by show ∀ j, _; exact fun j hj => (own_lt HROW.out hj).1
          go_region_law (first
            | (refine step_copied (by rfl) (by rfl) (by rfl) (copied_any ba bn o L _ HSD.out hL) ?_
               rintro e w2 ⟨⟨A', n', c'⟩, rfl, hn', ho', hb'⟩
               obtain rfl : n' = L.length := hn'
               have hb2 : Below wr.heap.size wr w2 := ((Below.refl _ _).drew).trans hb'
               refine ⟨_, rfl, ?_⟩
               dsimp only [Ad.v]
               have e0 := (hb2.cell (p := ⟨g, 0, none⟩) hgl).trans q0
               have n0 := (hb2.cell (p := ⟨g + 1, 0, none⟩) hgl1).trans m0
               have n1 := (hb2.cell (p := ⟨g + 1, 1, none⟩) hgl1).trans m1
               have n2 := (hb2.cell (p := ⟨g + 1, 2, none⟩) hgl1).trans m2
               have e0a : ∀ ob, (w2.alloc ob).cell? ⟨g, 0, none⟩ = some (.int .i64 P.i) := fun ob => ((hb2.alloc hb2.size ob).cell (p := ⟨g, 0, none⟩) hgl).trans q0)
            | (refine step_app_elemZ _ (by rfl) _ _ _ (by rfl) B 48 (msgV zeroM zeroA) 18 256 Tryz.underlying73 info_mesZ rfl (by decide) (by decide) _ o'.n (cellsK KM (ms ++ ms')) (by rfl) (ownS_below HROW.out (hb2.alloc hb2.size _)) w2.heap.size (KM.cells ⟨1, P.i, (k : Int) + 1, d, ba, bn, L⟩ (.slice A' L.length c')) (by rfl) (by rfl) (cells_new _ _ _) (KM.one _ _ rfl) (by omega) (by have := hb2.size; simp; omega) ?_
               intro g' c4 w7 ho7 hg7 hl7))
          all_goals
            have hpush := HO.out.push (m := ⟨1, P.i, (k : Int) + 1, d, ba, bn, L⟩) (ob := ⟨A', L.length, c'⟩) (o2 := ⟨some ⟨g', 0, none⟩, o'.n + 1, c4⟩) hwB hb2 ho' rfl hg7 HRW.out HMAP.out ho7 rfl (by
              rcases hl7 with e | e
              · exact .inl e
              · exact .inr ⟨g', rfl, by rw [e]; simp⟩)
            rw [← HN.out] at hpush
            have HPUSH := Lib.hid hpush
            clear hpush ho7 hg7 hl7 ho' hb' hb2 e0 n0 n1 n2 e0a
            go_wp2_with fail
            go_roundw
            case rel => exact ⟨k + 1, ⟨some ⟨g', 0, none⟩, o'.n + 1, c4⟩, by push_cast; rfl, rfl, by omega, by show o'.n + 1 ≤ _; omega, HPUSH.out⟩
            case measure => simp [intOf]; omega
    · have i1 : ¬ ((k : Int) + 1 ≤ (T : Int)) := by omega
      obtain rfl : k = T := by omega
      have HE : Hid (Outs B w oO ms (askW P d ba bn L S) wr o') := by
        show Outs _ _ _ _ _ _ _
        rw [← HAS.out]
        exact HO.out.base HB0.out
      go_wp2_with fail
      go_ret
      exact ⟨o', rfl, HE.out⟩

end Go.Proofs.YteepobghdpnabaaGreat
