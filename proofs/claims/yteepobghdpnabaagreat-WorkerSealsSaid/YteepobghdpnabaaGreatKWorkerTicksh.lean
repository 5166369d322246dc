/-
  Package worker: whether a batch is due; where a digest stands among the held batches and the waits.
-/
import Derived.Deep.QuietTactic
import Derived.BigQuiet
import Derived.BigRegion
import Derived.Test.YteepobghdpnabaaGreatKWorkerTicksg
import Derived.Test.YteepobghdpnabaaGreatKWorkerTicksa
import Derived.Test.YteepobghdpnabaaGreatKWorkerTicksc
import Derived.Test.YteepobghdpnabaaGreatKWorkerTicksb
import Derived.Test.YteepobghdpnabaaGreatKWorkerTicksd
namespace Go.Proofs.YteepobghdpnabaaGreat
open Go.RowKit

theorem hs_map {P : WkD} {hs : List (HlD × Ad)} (h : hs.map Prod.fst = P.H) : hs.map dH = P.hs := by rw [WkD.hs, ← h, List.map_map]; rfl
theorem ds_map {P : WkD} {ms : List (WtD × Ad)} (h : ms.map Prod.fst = P.W) : ms.map dW = P.ds := by rw [WkD.ds, ← h, List.map_map]; rfl
theorem due_is {P : WkD} {n : Nat} (hn : P.O.length = n) : dueW P = decide (((8 : Int) ≤ (n : Int) ∨ ((0 : Int) < (n : Int) ∧ 4 ≤ P.g)) ∧ P.x < 1099511627776) := by
  unfold dueW
  rw [decide_eq_decide, hn]
  omega
set_option maxHeartbeats 2000000 in
theorem isDue_is (b : Bool) (P : WkD) (a : WkA) (w : World) (h : dueW P = b) (hn : P.O.length = a.O.n) : Calls Tryz.prog 79 #[wkV P a] w (Tells w.heap.size w (.bool b)) := by
  rw [due_is hn] at h
  have HB := Lib.hid h
  clear h hn
  unfold wkV Ad.v
  by_cases h1 : (8 : Int) ≤ (a.O.n : Int)
  all_goals by_cases h2 : P.x < 1099511627776
  all_goals by_cases h3 : (0 : Int) < (a.O.n : Int)
  all_goals by_cases h4 : 4 ≤ P.g
  all_goals first
    | (exfalso; omega)
    | (go_enter Tryz.func79, Tryz.ntmps79
       go_wp2_with fail
       go_ret
       exact ⟨ret_bool (by rw [← HB.out]; simp; try omega), (Below.refl _ _).alloc (Nat.le_refl _) _⟩)

set_option maxHeartbeats 2000000 in
theorem findHeld_any (P : WkD) (a : WkA) (d : Int) (w : World) (h : RowIn KH w a.H a.hs) (he : a.hs.map Prod.fst = P.H) (hf : P.H.length ≤ 1000000) (hr : RiseI P.hs) :
    Calls Tryz.prog 89 #[wkV P a, .int .i64 d] w fun e w' => e = .returned (.tuple #[.int .i64 (posI P.hs d), .bool (decide (d ∈ P.hs))]) ∧ Below w.heap.size w w' := by
  have hm := hs_map he
  have hl : a.hs.length ≤ 1000000 := by
    have := congrArg List.length he
    rw [List.length_map] at this
    omega
  have hc := searchH_any a.H a.hs d (w.alloc (.cells #[.int .i64 P.i, .int .i64 P.N, .int .i64 P.x, .slice a.O.A a.O.n a.O.c, .int .i64 P.g, .int .i64 P.c, .slice a.W.A a.W.n a.W.c, .slice a.H.A a.H.n a.H.c, .slice a.R.A a.R.n a.R.c] 27)) (h.row.below ((Below.refl _ _).alloc (Nat.le_refl _) _)) hl (by rw [hm]; exact hr)
  rw [hm] at hc
  obtain ⟨p, hp⟩ : ∃ p, p = posI P.hs d := ⟨_, rfl⟩
  obtain ⟨b, hb⟩ : ∃ b, b = decide (d ∈ P.hs) := ⟨_, rfl⟩
  rw [← hp, ← hb] at hc
  rw [← hp, ← hb]
  have HC := Lib.hid hc
  clear hc hp hb hm hl h he hf hr
  unfold wkV Ad.v
  go_enter Tryz.func89, Tryz.ntmps89
  go_wp2_with (go_at_call 120; refine HC.out.mono ?_; rintro e w' ⟨rfl, hb⟩)
  go_ret2
  exact ⟨rfl, ((Below.refl _ _).alloc (Nat.le_refl _) _).trans (hb.mono (by simp))⟩

set_option maxHeartbeats 2000000 in
theorem findWait_any (P : WkD) (a : WkA) (d : Int) (w : World) (h : RowIn KW w a.W a.ms) (he : a.ms.map Prod.fst = P.W) (hf : P.W.length ≤ 1000000) (hr : RiseI P.ds) :
    Calls Tryz.prog 93 #[wkV P a, .int .i64 d] w fun e w' => e = .returned (.tuple #[.int .i64 (posI P.ds d), .bool (decide (d ∈ P.ds))]) ∧ Below w.heap.size w w' := by
  have hm := ds_map he
  have hl : a.ms.length ≤ 1000000 := by
    have := congrArg List.length he
    rw [List.length_map] at this
    omega
  have hc := searchW_any a.W a.ms d (w.alloc (.cells #[.int .i64 P.i, .int .i64 P.N, .int .i64 P.x, .slice a.O.A a.O.n a.O.c, .int .i64 P.g, .int .i64 P.c, .slice a.W.A a.W.n a.W.c, .slice a.H.A a.H.n a.H.c, .slice a.R.A a.R.n a.R.c] 27)) (h.row.below ((Below.refl _ _).alloc (Nat.le_refl _) _)) hl (by rw [hm]; exact hr)
  rw [hm] at hc
  obtain ⟨p, hp⟩ : ∃ p, p = posI P.ds d := ⟨_, rfl⟩
  obtain ⟨b, hb⟩ : ∃ b, b = decide (d ∈ P.ds) := ⟨_, rfl⟩
  rw [← hp, ← hb] at hc
  rw [← hp, ← hb]
  have HC := Lib.hid hc
  clear hc hp hb hm hl h he hf hr
  unfold wkV Ad.v
  go_enter Tryz.func93, Tryz.ntmps93
  go_wp2_with (go_at_call 127; refine HC.out.mono ?_; rintro e w' ⟨rfl, hb⟩)
  go_ret2
  exact ⟨rfl, ((Below.refl _ _).alloc (Nat.le_refl _) _).trans (hb.mono (by simp))⟩

end Go.Proofs.YteepobghdpnabaaGreat
namespace Go.Proofs.YteepobghdpnabaaGreat
open Go.RowKit

/-- a world in which nothing that was there has turned -/
structure Calm (w : World) where
  val : World
  ok : Below w.heap.size w val

instance (w : World) : Nonempty (Calm w) := ⟨⟨w, Below.refl _ _⟩⟩

theorem wp_region_calm {P : Program} {id : Nat} {Q : Exit → Act → World → Prop} {a : Act} {w : World} {l : List Oper} (hm : P.follows .mixedOrders = true) (hB : Region.lexB .any l.toArray = true)
    (h : wpQuiet P l.toArray (fun w' => ∃ x : Calm w, w' = x.val) (fun a' => ∀ w', (∃ x : Calm w, w' = x.val) → Q .normal a' w') l a) : (Code.region id l.toArray true).wp P Q a w :=
  wp_region_quiet (C := fun w' => ∃ x : Calm w, w' = x.val) hm hB ⟨⟨_, (Below.refl _ _).drew⟩, rfl⟩ (by simpa using h)

/-- a call's contract, met in any such world -/
theorem calm_tells {P : Program} {f : FuncId} {args : Array Value} {w : World} {x : Calm w} {v : Value} (h : Calls P f args x.val (Tells x.val.heap.size x.val v)) :
    Calls P f args x.val fun e w'' => e = .returned v ∧ ∃ y : Calm w, w'' = y.val :=
  h.mono fun _ w'' ⟨he, hb⟩ => ⟨he, ⟨w'', x.ok.trans (hb.mono x.ok.size)⟩, rfl⟩
theorem calm_same {P : Program} {f : FuncId} {args : Array Value} {w : World} {x : Calm w} {v : Value} (h : Calls P f args x.val fun e w' => e = .returned v ∧ x.val = w') :
    Calls P f args x.val fun e w'' => e = .returned v ∧ ∃ y : Calm w, w'' = y.val :=
  h.mono fun _ _ ⟨he, hw⟩ => ⟨he, x, hw.symm⟩
theorem calm_drew {P : Program} {f : FuncId} {args : Array Value} {w : World} {x : Calm w} {v : Value} (h : Calls P f args x.val fun e w' => e = .returned v ∧ ∃ d, w' = x.val.drewN d) :
    Calls P f args x.val fun e w'' => e = .returned v ∧ ∃ y : Calm w, w'' = y.val :=
  h.mono fun _ w'' ⟨he, d, hw⟩ => ⟨he, ⟨w'', by rw [hw]; exact below_n x.ok d⟩, rfl⟩

end Go.Proofs.YteepobghdpnabaaGreat
namespace Go.Proofs.YteepobghdpnabaaGreat
open Go.RowKit

theorem rd_takeZ {w : World} {A : Option Addr} {xs : List Value} (h : Rd w A xs) (n : Nat) : Rd w A (xs.take n) := fun hx => by
  have hl : 0 < xs.length := by
    cases xs with
    | nil => simp at hx
    | cons x r => simp
  obtain ⟨b, off, e, hb, hc⟩ := h.open_ hl
  refine ⟨b, off, e, hb, fun i v hv => hc i v ?_⟩
  rw [List.getElem?_take] at hv
  split at hv
  · exact hv
  · cases hv
theorem p_facts (p : Nat) (hn : p ≤ 1000000) : IntKind.i64.wrap ((p : Int) + 1 - 1) = (p : Int) ∧ wrap64 ((p : Int) + 1 - 1) = (p : Int) ∧ IntKind.i64.wrap (p : Int) = (p : Int) ∧ wrap64 (p : Int) = (p : Int) := by
  have e : IntKind.i64.wrap (p : Int) = (p : Int) := IntWalk.i64_in _ (by omega)
  have e2 : wrap64 (p : Int) = (p : Int) := by rw [wrap64]; omega
  rw [show (p : Int) + 1 - 1 = p by omega]
  exact ⟨e, e2, e, e2⟩
/-- the first place of a number, or -1 -/
def idxI (l : List Int) (d : Int) : Int := match firstI l d with
  | some k => (k : Int)
  | none => -1
theorem idxI_no {l : List Int} {d : Int} (h : d ∉ l) : idxI l d = -1 := by rw [idxI, firstI_none h]
theorem idxI_at {l : List Int} {d : Int} {k : Nat} (h : l[k]? = some d) (hb : ∀ (j : Nat) (y : Int), j < k → l[j]? = some y → y ≠ d) : idxI l d = k := by rw [idxI, firstI_some h hb]
theorem idxI_ex {l : List Int} {d : Int} (h : d ∈ l) : ∃ k : Nat, idxI l d = k ∧ k < l.length ∧ l[k]? = some d := by
  induction l with
  | nil => simp at h
  | cons y r ih =>
    by_cases hy : y = d
    · exact ⟨0, by rw [idxI, firstI, if_pos hy], by simp, by simp [hy]⟩
    · have hr : d ∈ r := by
        rcases List.mem_cons.1 h with e | e
        · exact absurd e.symm hy
        · exact e
      obtain ⟨k, h1, h2, h3⟩ := ih hr
      refine ⟨k + 1, ?_, by simp; omega, by simpa using h3⟩
      rw [idxI] at h1 ⊢
      rw [firstI, if_neg hy]
      cases hf : firstI r d with
      | none => rw [hf] at h1; simp only at h1 <;> omega
      | some j => rw [hf] at h1; simp at h1 ⊢ <;> omega
theorem idxI_ge {l : List Int} {d : Int} : 0 ≤ idxI l d ↔ d ∈ l := by
  by_cases h : d ∈ l
  · obtain ⟨k, h1, _⟩ := idxI_ex h
    simp [h, h1]
  · rw [idxI_no h]; simp [h]

set_option maxHeartbeats 2000000 in
theorem rin_is (A : Option Addr) (n c : Nat) (l : List Int) (t : Int) (w : World) (hz : l.length = n) (hr : Rd w A (i64s l)) (hn : n ≤ 1000000) :
    Calls Tryz.prog 75 #[.slice A n c, .int .i64 t] w fun e w' => e = .returned (.int .i64 (idxI l t)) ∧ w = w' := by
  have HZ := Lib.hid hz
  have HRD := Lib.hid hr
  clear hz hr
  go_enter Tryz.func75, Tryz.ntmps75
  go_wp2
  go_loop [5] (fun i => ∃ k : Nat, i = .int .i64 k ∧ k ≤ n ∧ Hid (∀ (j : Nat) (y : Int), j < k → l[j]? = some y → y ≠ t)) (fun i => n - (intOf i).toNat)
  case atStart => exact ⟨0, rfl, by omega, by show ∀ (j : Nat), _; exact fun j y hj => by omega⟩
  case round =>
    obtain ⟨k, rfl, hk, HT⟩ := hrel
    by_cases hlt : k < n
    · obtain ⟨b, off, rfl, hbl, hcell⟩ := HRD.out.open_ (by rw [i64s_length, HZ.out]; omega)
      have hc1 := hcell k _ (i64s_at (by rw [HZ.out]; exact hlt))
      have hm : l[k]? = some (l[k]?.getD 0) := at_some (by rw [HZ.out]; exact hlt)
      obtain ⟨m, hme⟩ : ∃ m, m = l[k]?.getD 0 := ⟨_, rfl⟩
      rw [← hme] at hc1 hm
      have HM := Lib.hid hm
      clear hm hme hcell
      have i0 : (0 : Int) ≤ (k : Int) := by omega
      have i1 : (k : Int) < (n : Int) := by omega
      by_cases htm : m = t
      · have j1 : (m == t) = true := by simp [htm]
        have HI : Hid (idxI l t = k) := idxI_at (by rw [HM.out, htm]) HT.out
        clear htm
        go_wp2_with fail
        go_ret
        exact ⟨by rw [HI.out]; rfl, rfl⟩
      · have j1 : (m == t) = false := by simp [htm]
        have HN : Hid (∀ (j : Nat) (y : Int), j < k + 1 → l[j]? = some y → y ≠ t) := by
          show ∀ (j : Nat), _
          intro j y hj hy
          rcases Nat.lt_or_ge j k with h1 | h1
          · exact HT.out j y h1 hy
          · obtain rfl : j = k := by omega
            rw [HM.out] at hy
            cases hy
            exact htm
        clear htm
        go_wp2_with fail
        go_round
        case rel => exact ⟨k + 1, by go_num, by omega, HN⟩
        case measure => simp [intOf]; omega
    · have i1 : ¬ ((k : Int) < (n : Int)) := by omega
      have HN : Hid (idxI l t = -1) := idxI_no fun h => by
        obtain ⟨j, hj⟩ := List.mem_iff_getElem?.1 h
        have := (List.getElem?_eq_some_iff.1 hj).1
        rw [HZ.out] at this
        exact HT.out j t (by omega) hj rfl
      go_wp2_with fail
      go_ret
      exact ⟨by rw [HN.out]; rfl, rfl⟩

set_option maxRecDepth 100000 in
set_option maxHeartbeats 4000000 in
theorem runlike_is (b : Bool) (A : Option Addr) (c n : Nat) (l : List Int) (w : World) (h : b = true ↔ OnceOk l) (hz : l.length = n) (hc : n ≤ c) (hr : Rd w A (i64s l)) (hn : n ≤ 1000000) :
    Calls Tryz.prog 35 #[.slice A n c] w (Tells w.heap.size w (.bool b)) := by
  have HZ := Lib.hid hz
  have HH := Lib.hid h
  have HR := Lib.hid hr
  clear hz h hr
  go_enter Tryz.func35, Tryz.ntmps35
  go_wp2
  go_loopw [3] (fun i wr => ∃ k : Nat, i = .int .i64 k ∧ k ≤ n ∧ Hid (∀ (i : Nat) (x : Int), i < k → l[i]? = some x → x ∉ l.take i) ∧ Below w.heap.size w wr) (fun i _ => n - (intOf i).toNat)
  case atStart => exact ⟨0, rfl, by omega, by show ∀ (i : Nat), _; exact fun i x hi => by omega, Below.refl _ _⟩
  case round =>
    obtain ⟨k, rfl, hk, HT, hb⟩ := hrel
    have i0 : (0 : Int) ≤ (k : Int) := by omega
    have i2 : (k : Int) ≤ (n : Int) := by omega
    have i3 : (k : Int) ≤ (c : Int) := by omega
    by_cases hlt : k < n
    · have hrw := HR.out.below hb
      obtain ⟨bq, off, rfl, hbl, hcell⟩ := hrw.open_ (by rw [i64s_length, HZ.out]; omega)
      have hc1 := hcell k _ (i64s_at (by rw [HZ.out]; exact hlt))
      have hm : l[k]? = some (l[k]?.getD 0) := at_some (by rw [HZ.out]; exact hlt)
      obtain ⟨m, hme⟩ : ∃ m, m = l[k]?.getD 0 := ⟨_, rfl⟩
      rw [← hme] at hc1 hm
      have HM := Lib.hid hm
      have i1 : (k : Int) < (n : Int) := by omega
      have hlen : (l.take k).length = k := by rw [List.length_take, HZ.out]; omega
      have hrt : Rd wr (some ⟨bq, off, none⟩) (i64s (l.take k)) := by
        have e : i64s (l.take k) = (i64s l).take k := by simp [i64s, List.map_take]
        rw [e]
        exact rd_takeZ hrw k
      have HIN : Hid (∀ z : Calm wr, Calls Tryz.prog 75 #[.slice (some ⟨bq, off, none⟩) k c, .int .i64 m] z.val fun e w' => e = .returned (.int .i64 (idxI (l.take k) m)) ∧ z.val = w') := fun z => rin_is _ k c (l.take k) m z.val hlen (hrt.below z.ok) (by omega)
      have y1 : ∀ z : Calm wr, z.val.cell? ⟨bq, off + k, none⟩ = some (.int .i64 m) := fun z => (z.ok.cell (p := ⟨bq, off + k, none⟩) hbl).trans hc1
      clear hcell hc1 hm hme hlen hrt hrw
      obtain ⟨r, hr⟩ : ∃ r, r = idxI (l.take k) m := ⟨_, rfl⟩
      rw [← hr] at HIN
      by_cases hin : m ∈ l.take k
      · have h0 : 0 ≤ r := by rw [hr]; exact idxI_ge.2 hin
        have j0 : decide (0 ≤ r) = true := decide_eq_true h0
        have HB : Hid (b = false) := by
          show b = false
          cases b with
          | false => rfl
          | true => exact absurd hin (HH.out.1 rfl k m HM.out)
        clear hin hr
        go_upto_region 4 with fail
        refine wp_region_calm (by kernel_rfl) (by kernel_rfl) ?_
        repeat (go_big_quiet_step (first
          | (go_at_call 75; exact calm_same (HIN.out _))))
        refine wpQuiet_nil ?_
        rintro _ ⟨z, rfl⟩
        have hz := z.ok
        clear y1
        go_wp2_with fail
        go_ret
        exact ⟨ret_bool HB.out.symm, hb.trans (hz.mono hb.size)⟩
      · have h0 : ¬ (0 ≤ r) := by rw [hr]; exact fun h => hin (idxI_ge.1 h)
        have j0 : decide (0 ≤ r) = false := decide_eq_false h0
        have HN : Hid (∀ (i : Nat) (x : Int), i < k + 1 → l[i]? = some x → x ∉ l.take i) := by
          show ∀ (i : Nat), _
          intro i x hi hx
          rcases Nat.lt_or_ge i k with h1 | h1
          · exact HT.out i x h1 hx
          · obtain rfl : i = k := by omega
            rw [HM.out] at hx
            cases hx
            exact hin
        clear hin hr
        go_upto_region 4 with fail
        refine wp_region_calm (by kernel_rfl) (by kernel_rfl) ?_
        repeat (go_big_quiet_step (first
          | (go_at_call 75; exact calm_same (HIN.out _))))
        refine wpQuiet_nil ?_
        rintro _ ⟨z, rfl⟩
        have hz := z.ok
        clear y1
        go_wp2_with fail
        go_roundw
        case rel => exact ⟨k + 1, by go_num, by omega, HN, hb.trans (hz.mono hb.size)⟩
        case measure => simp [intOf]; omega
    · have i1 : ¬ ((k : Int) < (n : Int)) := by omega
      have HB : Hid (b = true) := HH.out.2 fun i x hx => HT.out i x (by have := (List.getElem?_eq_some_iff.1 hx).1; rw [HZ.out] at this; omega) hx
      go_wp2_with fail
      go_ret
      exact ⟨ret_bool HB.out.symm, hb⟩

/-- held batches that may be, as far as k -/
def HeldTo (l : List HlD) (k : Nat) : Prop := ∀ (i : Nat) (x : HlD), i < k → l[i]? = some x → digB x.d = true ∧ batB x.a x.n x.L = true ∧ ∀ y, 0 < i → l[i - 1]? = some y → y.d < x.d
theorem heldTo_next {l : List HlD} {k : Nat} {x : HlD} (h : HeldTo l k) (hx : l[k]? = some x) (h1 : digB x.d = true) (h2 : batB x.a x.n x.L = true) (h3 : ∀ y, 0 < k → l[k - 1]? = some y → y.d < x.d) : HeldTo l (k + 1) := by
  intro i y hi hy
  rcases Nat.lt_or_ge i k with h4 | h4
  · exact h i y h4 hy
  · obtain rfl : i = k := by omega
    rw [hx] at hy
    cases hy
    exact ⟨h1, h2, h3⟩
theorem heldTo_all {l : List HlD} {k : Nat} (h : HeldTo l k) (hk : l.length ≤ k) : HeldOk l := fun i x hx => h i x (by have := (List.getElem?_eq_some_iff.1 hx).1; omega) hx

set_option maxRecDepth 100000 in
set_option maxHeartbeats 8000000 in
theorem rheld_is (b : Bool) (a : Ad) (hs : List (HlD × Ad)) (w : World) (h : b = true ↔ HeldOk (hs.map Prod.fst)) (hi : RowIn KH w a hs) (hn : hs.length ≤ 1000000) :
    Calls Tryz.prog 33 #[a.v] w (Tells w.heap.size w (.bool b)) := by
  obtain ⟨A, n, c⟩ := a
  have hz : hs.length = n := hi.row.len
  have HZ := Lib.hid hz
  have HH := Lib.hid h
  have HR := Lib.hid hi
  unfold Ad.v
  have hn2 : n ≤ 1000000 := by omega
  clear hz h hi hn
  go_enter Tryz.func33, Tryz.ntmps33
  go_wp2
  go_loopw [3] (fun i wr => ∃ k : Nat, i = .int .i64 k ∧ k ≤ n ∧ Hid (HeldTo (hs.map Prod.fst) k) ∧ Below w.heap.size w wr) (fun i _ => n - (intOf i).toNat)
  case atStart => exact ⟨0, rfl, by omega, fun i x hi => by omega, Below.refl _ _⟩
  case round =>
    obtain ⟨k, rfl, hk, HT, hb⟩ := hrel
    have i0 : (0 : Int) ≤ (k : Int) := by omega
    by_cases hlt : k < n
    · have i1 : (k : Int) < (n : Int) := by omega
      obtain ⟨x, hx⟩ : ∃ x, hs[k]? = some x := ⟨hs[k]'(by rw [HZ.out]; exact hlt), by simp⟩
      obtain ⟨bq, off, rfl, hbl, hcl⟩ := (HR.out.row.rd.below hb).open_ (by rw [cellsK_length, HZ.out]; show 0 < n * 4; omega)
      have hce := fun j v hv => hcl (k * 4 + j) v (cellsK_at KH hx (j := j) (v := v) hv)
      have e0 : wr.cell? ⟨bq, off + k * 4, none⟩ = some (.int .i64 x.1.d) := hce 0 _ rfl
      have e1 : wr.cell? ⟨bq, off + k * 4 + 1, none⟩ = some (.int .i64 x.1.a) := by have := hce 1 _ rfl; rw [← Nat.add_assoc] at this; exact this
      have e2 : wr.cell? ⟨bq, off + k * 4 + 2, none⟩ = some (.int .i64 x.1.n) := by have := hce 2 _ rfl; rw [← Nat.add_assoc] at this; exact this
      have e3 : wr.cell? ⟨bq, off + k * 4 + 3, none⟩ = some (.slice x.2.A x.2.n x.2.c) := by have := hce 3 _ rfl; rw [← Nat.add_assoc] at this; exact this
      have hx1 : (hs.map Prod.fst)[k]? = some x.1 := by rw [List.getElem?_map, hx]; rfl
      have HX1 := Lib.hid hx1
      have hsub := (HR.out.sub x (List.mem_of_getElem? hx)).below hb
      have HSB := Lib.hid hsub
      have y0 : ∀ z : Calm wr, z.val.cell? ⟨bq, off + k * 4, none⟩ = some (.int .i64 x.1.d) := fun z => (z.ok.cell (p := ⟨bq, off + k * 4, none⟩) hbl).trans e0
      have y1 : ∀ z : Calm wr, z.val.cell? ⟨bq, off + k * 4 + 1, none⟩ = some (.int .i64 x.1.a) := fun z => (z.ok.cell (p := ⟨bq, off + k * 4 + 1, none⟩) hbl).trans e1
      have y2 : ∀ z : Calm wr, z.val.cell? ⟨bq, off + k * 4 + 2, none⟩ = some (.int .i64 x.1.n) := fun z => (z.ok.cell (p := ⟨bq, off + k * 4 + 2, none⟩) hbl).trans e2
      have y3 : ∀ z : Calm wr, z.val.cell? ⟨bq, off + k * 4 + 3, none⟩ = some (.slice x.2.A x.2.n x.2.c) := fun z => (z.ok.cell (p := ⟨bq, off + k * 4 + 3, none⟩) hbl).trans e3
      clear e0 e1 e2 e3 hx1
      have HDG : Hid (∀ (b : Bool), digB x.1.d = b → ∀ z : Calm wr, Calls Tryz.prog 36 #[.int .i64 x.1.d] z.val fun e w' => e = .returned (.bool b) ∧ z.val = w') := fun b hb z => rdigest_is b x.1.d hb z.val
      have HBT : Hid (∀ (b : Bool), batB x.1.a x.1.n x.1.L = b → ∀ z : Calm wr, Calls Tryz.prog 74 #[.agg #[.int .i64 x.1.a, .int .i64 x.1.n, .slice x.2.A x.2.n x.2.c]] z.val (Tells z.val.heap.size z.val (.bool b))) := fun b hb z => rbatch_is b x.1.a x.1.n x.2.A x.2.c x.2.n x.1.L z.val hb (HSB.out.below z.ok).len (HSB.out.below z.ok).rd
      have HNO : Hid ((¬ (digB x.1.d = true ∧ batB x.1.a x.1.n x.1.L = true ∧ ∀ y, 0 < k → (hs.map Prod.fst)[k - 1]? = some y → y.d < x.1.d)) → b = false) := by
        intro hne
        cases b with
        | false => rfl
        | true => exact absurd (HH.out.1 rfl k x.1 HX1.out) hne
      cases hdg : digB x.1.d with
      | false =>
        have HD := Lib.hid hdg
        have HB : Hid (b = false) := HNO.out fun h => by rw [HD.out] at h; exact absurd h.1 (by decide)
        clear hdg hcl hce hx hsub
        go_upto_region 4 with fail
        refine wp_region_calm (by kernel_rfl) (by kernel_rfl) ?_
        repeat (go_big_quiet_step (first
          | (go_at_call 36; exact calm_same (HDG.out false HD.out _))))
        refine wpQuiet_nil ?_
        rintro _ ⟨z, rfl⟩
        have hz := z.ok
        clear y0 y1 y2 y3
        go_wp2_with fail
        go_ret
        exact ⟨ret_bool HB.out.symm, hb.trans (hz.mono hb.size)⟩
      | true =>
        have HD := Lib.hid hdg
        clear hdg
        cases hbt : batB x.1.a x.1.n x.1.L with
        | false =>
          have HBA := Lib.hid hbt
          have HB : Hid (b = false) := HNO.out fun h => by rw [HBA.out] at h; exact absurd h.2.1 (by decide)
          clear hbt hcl hce hx hsub
          go_upto_region 4 with fail
          refine wp_region_calm (by kernel_rfl) (by kernel_rfl) ?_
          repeat (go_big_quiet_step (first
            | (go_at_call 36; exact calm_same (HDG.out true HD.out _))
            | (go_at_call 74; exact calm_tells (HBT.out _ HBA.out _))))
          refine wpQuiet_nil ?_
          rintro _ ⟨z, rfl⟩
          have hz := z.ok
          clear y0 y1 y2 y3
          go_wp2_with fail
          go_ret
          exact ⟨ret_bool HB.out.symm, hb.trans (hz.mono hb.size)⟩
        | true =>
          have HBA := Lib.hid hbt
          clear hbt
          by_cases hk0 : k = 0
          · have j0 : decide ((0 : Int) < (k : Int)) = false := decide_eq_false (by omega)
            have j1 : ¬ ((0 : Int) < (k : Int)) := by omega
            have j2 : ¬ (0 < k) := by omega
            have j3 : decide (0 < k) = false := decide_eq_false j2
            have HN : Hid (HeldTo (hs.map Prod.fst) (k + 1)) := heldTo_next HT.out HX1.out HD.out HBA.out (fun y hy => absurd hy j2)
            clear hk0 hcl hce hx hsub
            go_upto_region 4 with fail
            refine wp_region_calm (by kernel_rfl) (by kernel_rfl) ?_
            repeat (go_big_quiet_step (first
              | (go_at_call 36; exact calm_same (HDG.out true HD.out _))
              | (go_at_call 74; exact calm_tells (HBT.out _ HBA.out _))))
            refine wpQuiet_nil ?_
            rintro _ ⟨z, rfl⟩
            have hz := z.ok
            clear y0 y1 y2 y3
            go_wp2_with fail
            go_roundw
            case rel => exact ⟨k + 1, by go_num, by omega, HN, hb.trans (hz.mono hb.size)⟩
            case measure => simp [intOf]; omega
          · obtain ⟨p, hp⟩ : ∃ p, k = p + 1 := ⟨k - 1, by omega⟩
            subst hp
            obtain ⟨y, hy⟩ : ∃ y, hs[p]? = some y := ⟨hs[p]'(by rw [HZ.out]; omega), by simp⟩
            have f0 : wr.cell? ⟨bq, off + p * 4, none⟩ = some (.int .i64 y.1.d) := hcl (p * 4 + 0) _ (cellsK_at KH hy (j := 0) rfl)
            have q0 : ∀ z : Calm wr, z.val.cell? ⟨bq, off + p * 4, none⟩ = some (.int .i64 y.1.d) := fun z => (z.ok.cell (p := ⟨bq, off + p * 4, none⟩) hbl).trans f0
            have hy1 : (hs.map Prod.fst)[p + 1 - 1]? = some y.1 := by rw [List.getElem?_map, Nat.add_sub_cancel, hy]; rfl
            have HY1 := Lib.hid hy1
            have i4 : (0 : Int) ≤ (p : Int) := by omega
            have i5 : (p : Int) < (n : Int) := by omega
            have j0 : decide ((0 : Int) < (p : Int) + 1) = true := decide_eq_true (by omega)
            have j1 : (0 : Int) < (p : Int) + 1 := by omega
            obtain ⟨hwp, hwp2, hwp3, hwp4⟩ := p_facts p (by omega)
            clear f0 hy1 hcl hce hx hsub hy hk0
            by_cases hge : x.1.d ≤ y.1.d
            · have j5 : decide (x.1.d ≤ y.1.d) = true := decide_eq_true hge
              have HB : Hid (b = false) := HNO.out fun h => by have := h.2.2 y.1 (by omega) HY1.out; omega
              go_upto_region 4 with fail
              refine wp_region_calm (by kernel_rfl) (by kernel_rfl) ?_
              repeat (go_big_quiet_step (first
                | (go_at_call 36; exact calm_same (HDG.out true HD.out _))
                | (go_at_call 74; exact calm_tells (HBT.out _ HBA.out _))))
              refine wpQuiet_nil ?_
              rintro _ ⟨z, rfl⟩
              have hz := z.ok
              clear y0 y1 y2 y3
              go_wp2_with fail
              go_ret
              exact ⟨ret_bool HB.out.symm, hb.trans (hz.mono hb.size)⟩
            · have j5 : decide (x.1.d ≤ y.1.d) = false := decide_eq_false hge
              have HN : Hid (HeldTo (hs.map Prod.fst) (p + 1 + 1)) := heldTo_next HT.out HX1.out HD.out HBA.out (fun v hv h => by rw [HY1.out] at h; cases h; omega)
              go_upto_region 4 with fail
              refine wp_region_calm (by kernel_rfl) (by kernel_rfl) ?_
              repeat (go_big_quiet_step (first
                | (go_at_call 36; exact calm_same (HDG.out true HD.out _))
                | (go_at_call 74; exact calm_tells (HBT.out _ HBA.out _))))
              refine wpQuiet_nil ?_
              rintro _ ⟨z, rfl⟩
              have hz := z.ok
              clear y0 y1 y2 y3
              go_wp2_with fail
              go_roundw
              case rel => exact ⟨p + 1 + 1, by go_num, by omega, HN, hb.trans (hz.mono hb.size)⟩
              case measure => simp [intOf]; omega
    · have i1 : ¬ ((k : Int) < (n : Int)) := by omega
      have HB : Hid (b = true) := HH.out.2 (heldTo_all HT.out (by rw [List.length_map, HZ.out]; omega))
      go_wp2_with fail
      go_ret
      exact ⟨ret_bool HB.out.symm, hb⟩

end Go.Proofs.YteepobghdpnabaaGreat
