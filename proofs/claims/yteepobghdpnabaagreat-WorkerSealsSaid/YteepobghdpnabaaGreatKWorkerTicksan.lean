/-
  Package worker's Sealed.
-/
import Derived.Test.YteepobghdpnabaaGreatKWorkerTicksam
import Derived.Test.YteepobghdpnabaaGreatKWorkerTicksac
import Derived.Test.YteepobghdpnabaaGreatKWorkerTicksag
import Derived.Test.YteepobghdpnabaaGreatKWorkerTicksah
namespace Go.Proofs.YteepobghdpnabaaGreat
open Go.RowKit

theorem sealed_any (P : WkD) (a : WkA) (d : Int) (w : World) (h : WIn w P a) (hf : WFew P 300000) : Calls Tryz.prog 52 #[wkV P a, .int .i64 d] w (Ret3 (orW (ifMay P (sealE P d)) (sealW P d)) (orO (ifMay P (sealE P d)) (sealO P d)) (ifMay P (sealE P d)) w) := by
  by_cases hok : ifMay P (sealE P d) = 0
  · exact sealed_yes P a d w h hf hok
  · exact sealed_no P a d w h hf hok

end Go.Proofs.YteepobghdpnabaaGreat
namespace Go.Proofs.YteepobghdpnabaaGreat
open Go.RowKit

def wkT : TxD := ⟨1, 1, ⟨#[107]⟩, ⟨#[]⟩⟩
def wkP (k : Nat) : WkD := ⟨1, 1, 1, [wkT], k, k, [], [], []⟩
def wkE : WkD := ⟨1, 1, 2, [], 0, 4, [], [⟨7, 1, 1, [wkT]⟩], [7]⟩
theorem may_new1 : mayW (newW 1 1) = true := mayW_iff.2 ⟨by decide, ⟨by decide, by decide⟩, ⟨by decide, by decide⟩, by decide, by decide, ⟨by decide, by decide⟩, ⟨by decide, by decide⟩, by decide, fun i x h => by simp [newW] at h, by decide, fun i x h => by simp [newW] at h, fun i x h => by simp [newW] at h⟩
theorem may_wkP (k : Nat) (hk : k ≤ 4) : mayW (wkP k) = true := mayW_iff.2 ⟨by show mayB 1 = true; decide, ⟨by show (1 : Int) ≤ 1; decide, by show (1 : Int) ≤ 1; decide⟩, ⟨by show (1 : Int) ≤ 1; decide, by show (1 : Int) ≤ 1099511627776; decide⟩, by show 1 ≤ 64; decide, by show [wkT].all txB = true; decide, ⟨by show (0 : Int) ≤ (k : Int); omega, by show (k : Int) ≤ 1099511627776; omega⟩, ⟨by show (0 : Int) ≤ (k : Int); omega, by show (k : Int) ≤ 1099511627776; omega⟩, by show 0 ≤ 1024; decide, fun i x h => by simp [wkP] at h, by show betB 1 65536 [] = true; decide, fun i x h => by simp [wkP] at h, fun i x h => by simp [wkP] at h⟩
theorem few_wkP (k : Nat) (m : Nat) (hm : 1 ≤ m) : WFew (wkP k) m := ⟨hm, by simp [wkP], by simp [wkP], by simp [wkP], fun x hx => by simp [wkP] at hx, fun x hx => by simp [wkP] at hx⟩
theorem few_new1 (m : Nat) : WFew (newW 1 1) m := ⟨by simp [newW], by simp [newW], by simp [newW], by simp [newW], fun x hx => by simp [newW] at hx, fun x hx => by simp [newW] at hx⟩
theorem wk_new (w : World) : Calls Tryz.prog 69 #[.int .i64 1, .int .i64 1] w (Ret2 (newW 1 1) 0 w) := by
  have h := new_any 1 1 w
  rw [if_pos may_new1, if_pos may_new1] at h
  exact h
theorem wk_add (w : World) (a : WkA) (h : WIn w (newW 1 1) a) : Calls Tryz.prog 66 #[wkV (newW 1 1) a, .agg #[.int .i64 1, .int .i64 1, .string ⟨#[107]⟩, .string ⟨#[]⟩]] w (Ret2 (wkP 0) 0 w) := by
  have h := add_any (newW 1 1) a wkT w h (few_new1 _)
  have e : ifMay (newW 1 1) (addE (newW 1 1) wkT) = 0 := by rw [ifMay_yes may_new1]; decide
  rw [e] at h
  exact h
theorem wk_tick (k : Nat) (hk : k ≤ 4) (w : World) (a : WkA) (h : WIn w (wkP k) a) : Calls Tryz.prog 60 #[wkV (wkP k) a] w (Ret3 (wkP (k + 1)) [] 0 w) := by
  have h := tick_any (wkP k) a w h (few_wkP k _ (by omega))
  rw [ifMay_yes (may_wkP k hk)] at h
  have e1 : tickW (wkP k) = wkP (k + 1) := by
    unfold tickW wkP
    simp
    omega
  have e2 : tickO (wkP k) = [] := by unfold tickO; split <;> rfl
  have e3 : orW 0 (tickW (wkP k)) = wkP (k + 1) := by rw [orW, if_pos rfl, e1]
  have e4 : orO 0 (tickO (wkP k)) = [] := by rw [orO, if_pos rfl, e2]
  rw [e3, e4] at h
  exact h
theorem wk_seal (w : World) (a : WkA) (h : WIn w (wkP 4) a) : Calls Tryz.prog 52 #[wkV (wkP 4) a, .int .i64 7] w (Ret3 wkE [] 0 w) := by
  have h := sealed_any (wkP 4) a 7 w h (few_wkP 4 _ (by omega))
  rw [ifMay_yes (may_wkP 4 (by omega))] at h
  have e0 : sealE (wkP 4) 7 = 0 := by decide +kernel
  have e1 : sealW (wkP 4) 7 = wkE := by decide +kernel
  have e2 : sealO (wkP 4) 7 = [] := by decide +kernel
  rw [e0, orW, if_pos rfl, orO, if_pos rfl, e1, e2] at h
  exact h

set_option maxRecDepth 100000 in
set_option maxHeartbeats 8000000 in
theorem wakes13_any (w : World) : Calls Tryz.prog 20 #[] w (Tells w.heap.size w (.bool true)) := by
  go_enter Tryz.func20, Tryz.ntmps20
  go_upto_region 2 with (first
    | (go_at_call 69; refine (wk_new w).mono ?_; rintro e w1 ⟨a1, rfl, hn1, hb1⟩)
    | (refine wpList_store_box rfl 27 _ _ rfl w1.heap.size 0 (wkC (newW 1 1) a1) (zeroC) (wkC (newW 1 1) a1) rfl rfl (box_new w1 zeroC 27) (show 0 + 9 ≤ 9 by decide) rfl size_wk rfl ?_; intro w2 bx2 T2))
  have t2 := T2 (fun k => k = w1.heap.size) rfl
  have hn2 : WNew w.heap.size w2 (newW 1 1) a1 := (hn1.below ((Below.refl _ _).alloc (Nat.le_refl _) _)).touch t2 (fun k hk ho => by have := (hn1.core.lt ho).1; omega) (fun k hk ho => by have := (own_lt hn1.open_ ho).1; omega)
  have hb2 : Below w.heap.size w w2 := (hb1.alloc hb1.size _).trans (t2.below (fun k hk => by have := hb1.size; omega) (by have := hb1.size; simp; omega))
  obtain ⟨g, hg⟩ : ∃ g, g = w1.heap.size := ⟨_, rfl⟩
  rw [← hg] at bx2 ⊢
  have hgw : w.heap.size ≤ g := by have := hb1.size; omega
  have HAD := Lib.hid (wk_add w2 a1 hn2.in_)
  have HX2 := Lib.hid bx2
  have HB2 := Lib.hid hb2
  have hgl2 : g < w2.heap.size := bx2.1
  clear hn1 hb1 T2 t2 hn2 hb2 bx2 hg
  go_upto_region 3 with (first
    | (refine wpList_load_box rfl 27 _ rfl g rfl (wkC (newW 1 1) a1) (HX2.out) _ Tryz.underlying27 rfl size_wk ?_)
    | (go_at_call 66; refine HAD.out.mono ?_; rintro e w3 ⟨a3, rfl, hn3, hb3⟩)
    | (refine wpList_store_box rfl 27 _ _ rfl g 0 (wkC (wkP 0) a3) (wkC (newW 1 1) a1) (wkC (wkP 0) a3) rfl rfl (HX2.out.below hb3 hgl2) (show 0 + 9 ≤ 9 by decide) rfl size_wk rfl ?_; intro w4 bx4 T4))
  have t4 := T4 (fun k => k = g) rfl
  have HN4 : Hid (WNew w2.heap.size w4 (wkP 0) a3) := hn3.touch t4 (fun k hk ho => by have := (hn3.core.lt ho).2; omega) (fun k hk ho => by have := (own_lt hn3.open_ ho).2; omega)
  have HB4 : Hid (Below w.heap.size w w4) := (HB2.out.trans (hb3.mono HB2.out.size)).trans (t4.below (fun k hk => by omega) (by have := HB2.out.size; have := hb3.size; omega))
  have HX4 : Hid (Box w4 g (wkC (wkP 0) a3)) := bx4
  clear hn3 hb3 T4 t4 bx4 HAD
  go_wp2_with fail
  go_loopw [4] (fun i wr => ∃ (k B : Nat) (a : WkA), i = .int .i64 k ∧ k ≤ 4 ∧ Hid (g < B ∧ Box wr g (wkC (wkP k) a) ∧ WNew B wr (wkP k) a ∧ Below w.heap.size w wr)) (fun i _ => 4 - (intOf i).toNat)
  case atStart => exact ⟨0, _, a3, rfl, by omega, hgl2, HX4.out, HN4.out, HB4.out⟩
  case round =>
    clear HX4 HN4 HB4 HX2 HB2
    obtain ⟨k, B, a, rfl, hk, HR⟩ := hrel
    have i0 : (0 : Int) ≤ (k : Int) := by omega
    by_cases hlt : k < 4
    · have i1 : (k : Int) < 4 := by omega
      have HTK := Lib.hid (wk_tick k (by omega) wr a HR.out.2.2.1.in_)
      have hgr := HR.out.2.1.1
      have hwr := HR.out.2.2.2.size
      go_upto_region 7 with (first
        | (refine wpList_load_box rfl 27 _ rfl g rfl (wkC (wkP k) a) (HR.out.2.1) _ Tryz.underlying27 rfl size_wk ?_)
        | (go_at_call 60; refine HTK.out.mono ?_; rintro e w5 ⟨a5, o5, ms5, rfl, hn5, -, -, -, hb5⟩)
        | (refine wpList_store_box rfl 27 _ _ rfl w5.heap.size 0 (wkC (wkP (k + 1)) a5) (zeroC) (wkC (wkP (k + 1)) a5) rfl rfl (box_new w5 zeroC 27) (show 0 + 9 ≤ 9 by decide) rfl size_wk rfl ?_; intro w6 bx6 T6))
      have t6 := T6 (fun k => k = w5.heap.size) rfl
      have hn6 : WNew wr.heap.size w6 (wkP (k + 1)) a5 := (hn5.below ((Below.refl _ _).alloc (Nat.le_refl _) _)).touch t6 (fun k hk ho => by have := (hn5.core.lt ho).1; omega) (fun k hk ho => by have := (own_lt hn5.open_ ho).1; omega)
      have hb6 : Below wr.heap.size wr w6 := (hb5.alloc hb5.size _).trans (t6.below (fun k hk => by have := hb5.size; omega) (by have := hb5.size; simp; omega))
      have HN6 := Lib.hid hn6
      have HB6 := Lib.hid hb6
      have HX6 := Lib.hid bx6
      have HX0 : Hid (Box w6 g (wkC (wkP k) a)) := HR.out.2.1.below hb6 hgr
      have hgne : g ≠ w5.heap.size := by have := hb5.size; omega
      clear hn5 hb5 T6 t6 hn6 hb6 bx6
      go_wp2_with (first
        | (go_at_call 17; refine (num13_any _ _).mono ?_; rintro e w' ⟨rfl, rfl⟩)
        | (refine wpList_load_box rfl 27 _ rfl w5.heap.size rfl (wkC (wkP (k + 1)) a5) (HX6.out) _ Tryz.underlying27 rfl size_wk ?_)
        | (refine wpList_store_box rfl 27 _ _ rfl g 0 (wkC (wkP (k + 1)) a5) (wkC (wkP k) a) (wkC (wkP (k + 1)) a5) rfl rfl (HX0.out) (show 0 + 9 ≤ 9 by decide) rfl size_wk rfl ?_; intro w7 bx7 T7))
      have t7 := T7 (fun k => k = g) rfl
      go_roundw
      case rel => exact ⟨k + 1, wr.heap.size, a5, by go_num, by omega, hgr, bx7, HN6.out.touch t7 (fun k hk ho => by have := (HN6.out.core.lt ho).2; omega) (fun k hk ho => by have := (own_lt HN6.out.open_ ho).2; omega), (HR.out.2.2.2.trans (HB6.out.mono hwr)).trans (t7.below (fun k hk => by omega) (by have := HB6.out.size; omega))⟩
      case measure => simp [intOf]; omega
    · have i1 : ¬ ((k : Int) < 4) := by omega
      obtain rfl : k = 4 := by omega
      have HSL := Lib.hid (wk_seal wr a HR.out.2.2.1.in_)
      have hgr := HR.out.2.1.1
      have hwr := HR.out.2.2.2.size
      go_upto_region 11 with (first
        | (refine wpList_load_box rfl 27 _ rfl g rfl (wkC (wkP 4) a) (HR.out.2.1) _ Tryz.underlying27 rfl size_wk ?_)
        | (go_at_call 52; refine HSL.out.mono ?_; rintro e w5 ⟨a5, o5, ms5, rfl, hn5, ho5, he5, -, hb5⟩)
        | (refine wpList_store_box rfl 27 _ _ rfl g 0 (wkC (wkE) a5) (wkC (wkP 4) a) (wkC (wkE) a5) rfl rfl (HR.out.2.1.below hb5 hgr) (show 0 + 9 ≤ 9 by decide) rfl size_wk rfl ?_; intro w6 bx6 T6))
      have t6 := T6 (fun k => k = g) rfl
      have hn6 : WNew wr.heap.size w6 wkE a5 := hn5.touch t6 (fun k hk ho => by have := (hn5.core.lt ho).2; omega) (fun k hk ho => by have := (own_lt hn5.open_ ho).2; omega)
      have HB6 : Hid (Below w.heap.size w w6) := (HR.out.2.2.2.trans (hb5.mono hwr)).trans (t6.below (fun k hk => by omega) (by have := hb5.size; omega))
      have hl5 : o5.n = 0 := by
        have h1 := ho5.len
        have h2 : ms5.length = 0 := by rw [← List.length_map (f := Prod.fst), he5]; rfl
        omega
      obtain ⟨Ao, no, co⟩ := o5
      simp only at hl5
      subst hl5
      obtain ⟨AR, nR, cR, hoR⟩ : ∃ A n c, a5.R = ⟨A, n, c⟩ := ⟨_, _, _, rfl⟩
      have hrdy := hn6.in_.ready
      rw [hoR] at hrdy
      have hnR : nR = 1 := hrdy.len.symm
      subst hnR
      have k8 := (bx6.2 8 _ rfl).1
      rw [hoR] at k8
      obtain ⟨w7, hw7⟩ : ∃ w7, w7 = w6.alloc (.cells #[.int .i64 7] 3) := ⟨_, rfl⟩
      have hb7 : Below w6.heap.size w6 w7 := by rw [hw7]; exact (Below.refl _ _).alloc (Nat.le_refl _) _
      have HEQ := Lib.hid (eqNumbers_any AR (some ⟨w6.heap.size, 0, none⟩) cR 1 1 1 [7] [7] w7 rfl rfl (hrdy.below hb7).rd (by rw [hw7]; exact rd_new w6 [.int .i64 7] 3) (by omega) (by omega))
      have HW7 := Lib.hid hw7
      have hz67 := hb7.size
      clear hn5 hb5 ho5 he5 T6 t6 hn6 hrdy hoR hw7 bx6
      unfold Ad.v
      go_wp2_with (first
        | (go_at_call 17; refine (num13_any _ _).mono ?_; rintro e w' ⟨rfl, rfl⟩)
        | (go_at_call 70; rw [← HW7.out]; refine HEQ.out.mono ?_; rintro e w8 ⟨rfl, d8, hw8⟩; have hb8 : Below w6.heap.size w6 w8 := by { rw [hw8]; exact below_n hb7 d8 }; clear hw8))
      go_ret
      exact ⟨by simp, HB6.out.trans (hb8.mono HB6.out.size)⟩

end Go.Proofs.YteepobghdpnabaaGreat
namespace Go.Proofs.YteepobghdpnabaaGreat
open Go.RowKit

def zeroAct : List Value := [.int .i64 0, .int .i64 0, .int .i64 0, .int .i64 0, .string ⟨#[]⟩, .string ⟨#[]⟩, .int .i64 0, .int .i64 0, .int .i64 0, .int .i64 0, .int .i64 0, .int .i64 0, .slice none 0 0, .int .i64 0, .int .i64 0, .slice none 0 0, .slice none 0 0, .int .i64 0, .int .i64 0, .slice none 0 0, .slice none 0 0, .int .i64 0, .slice none 0 0, .slice none 0 0, .bool false, .slice none 0 0]
theorem ActIn.setDo {w : World} {x : ActD} (h : ActIn w x) {d : Int} (hd : I64 d) : ActIn w { x with Do := d } := ⟨hd, h.wD, h.t, h.m, h.ok, h.few, h.z, h.r, h.k, h.c⟩
theorem scr_wk {w : World} {g : Nat} {s : ScrZ} (h : Box w g (scrC s)) : w.rangeAt g 0 (wkC s.P s.a) := fun j v hv => by
  have hj : j < 9 := (List.getElem?_eq_some_iff.1 hv).1
  have e : scrC s = wkC s.P s.a ++ [.slice s.A s.n s.c] := rfl
  rw [Nat.zero_add]
  refine (h.2 j v ?_).1
  rw [e, List.getElem?_append_left (show j < (wkC s.P s.a).length from hj)]
  exact hv
/-- what a kind's theorem says -/
def StepIs (D : Nat) : Prop := ∀ (P : WkD) (a : WkA) (x : ActD) (w : World), WIn w P a → Grown 0 P → ActIn w x → MsgFew 2000 x.b ∧ x.L.length ≤ 12000 → wrap64 ((IntKind.u64.wrap x.Do).tmod ((11 : Nat) : Int)) = ((D : Nat) : Int) → Calls Tryz.prog 19 #[wkV P a, actV x] w (StepTo 0 w)

set_option maxRecDepth 100000 in
set_option maxHeartbeats 16000000 in
theorem only_is (D : Nat) (hD : D ≤ 10) (hv : wrap64 ((IntKind.u64.wrap (D : Int)).tmod ((11 : Nat) : Int)) = ((D : Nat) : Int)) (HSTEP : StepIs D) (s : ScrZ) (w : World) (h : ScrIn w s) : Calls Tryz.prog 21 #[scrV s, .int .i64 D] w (Tells w.heap.size w (.bool true)) := by
  obtain ⟨g, hg⟩ : ∃ g, g = w.heap.size := ⟨_, rfl⟩
  obtain ⟨w1, hw1⟩ : ∃ w1, w1 = w.alloc (.cells #[.int .i64 s.P.i, .int .i64 s.P.N, .int .i64 s.P.x, .slice s.a.O.A s.a.O.n s.a.O.c, .int .i64 s.P.g, .int .i64 s.P.c, .slice s.a.W.A s.a.W.n s.a.W.c, .slice s.a.H.A s.a.H.n s.a.H.c, .slice s.a.R.A s.a.R.n s.a.R.c, .slice s.A s.n s.c] 30) := ⟨_, rfl⟩
  have hb1 : Below g w w1 := by rw [hw1]; exact (Below.refl _ _).alloc (by omega) _
  have bx1 : Box w1 g (scrC s) := by rw [hw1, hg]; exact box_new w (scrC s) 30
  have HG : Hid (w.heap.size = g) := hg.symm
  have HW : Hid (w.alloc (.cells #[.int .i64 s.P.i, .int .i64 s.P.N, .int .i64 s.P.x, .slice s.a.O.A s.a.O.n s.a.O.c, .int .i64 s.P.g, .int .i64 s.P.c, .slice s.a.W.A s.a.W.n s.a.W.c, .slice s.a.H.A s.a.H.n s.a.H.c, .slice s.a.R.A s.a.R.n s.a.R.c, .slice s.A s.n s.c] 30) = w1) := hw1.symm
  have hsz : w1.heap.size = g + 1 := by rw [hw1, hg]; simp
  have HIN : Hid (∀ wX, Below w1.heap.size w1 wX → ScrIn wX s) := by
    show ∀ wX, _
    exact fun wX hX => h.below (by rw [← hg]; exact hb1.trans (hX.mono (by omega)))
  have HBX : Hid (∀ wX, Below w1.heap.size w1 wX → Box wX g (scrC s)) := by
    show ∀ wX, _
    exact fun wX hX => bx1.below hX bx1.1
  have HB1 := Lib.hid hb1
  have HHV := Lib.hid (heavyZ_any s w1 (h.below (by rw [← hg]; exact hb1)))
  obtain ⟨nL, hnL⟩ : ∃ n, n = s.n := ⟨_, rfl⟩
  have HNL := Lib.hid hnL
  have HC : Hid (∀ wX, Below w1.heap.size w1 wX → wX.cell? ⟨g, 9, none⟩ = some (.slice s.A nL s.c) ∧ wX.rangeAt g 0 (wkC s.P s.a)) := by
    show ∀ wX, _
    intro wX hX
    have hb := HBX.out wX hX
    rw [hnL]
    exact ⟨(hb.2 9 _ rfl).1, scr_wk hb⟩
  clear hw1 bx1 hg h hnL hb1
  unfold scrV
  go_enter Tryz.func21, Tryz.ntmps21
  go_upto_region 1 with fail
  rw [HG.out, HW.out]
  go_wp2_with (refine wpList_load_box rfl 30 _ rfl g rfl (scrC s) (HBX.out w1 (Below.refl _ _)) _ Tryz.underlying30 rfl size_scr ?_)
  refine HHV.out.mono ?_
  rintro e w2 ⟨bv, rfl, hb2, hlt⟩
  cases bv with
  | true =>
    go_wp2_with fail
    go_ret
    exact ⟨rfl, by rw [HG.out]; exact HB1.out.trans (hb2.mono (by omega))⟩
  | false =>
  have HLT : Hid (LightZ s) := hlt rfl
  have HB2 := Lib.hid hb2
  clear hlt hb2 HHV
  go_wp2_with fail
  go_loopw [5] (fun i wr => ∃ k : Nat, i = .int .i64 k ∧ k ≤ nL ∧ k ≤ 12 ∧ Hid (Below w1.heap.size w1 wr)) (fun i _ => 12 - (intOf i).toNat)
  case atStart => exact ⟨0, rfl, by omega, by omega, HB2⟩
  case round =>
    clear HB2
    obtain ⟨k, rfl, hk, hk12, HB⟩ := hrel
    have i0 : (0 : Int) ≤ (k : Int) := by omega
    obtain ⟨c9, cw⟩ := HC.out _ HB.out
    go_upto_region 4 with fail
    go_cut [19] from 11 to 18 (fun bv wx => bv = .bool (decide (k < nL ∧ k < 12)) ∧ wr = wx)
    case first =>
      by_cases hlt : k < nL
      · have i1 : (k : Int) < (nL : Int) := by omega
        by_cases h12 : k < 12
        · have i2 : (k : Int) < 12 := by omega
          have HD : Hid (decide (k < nL ∧ k < 12) = true) := decide_eq_true ⟨hlt, h12⟩
          go_wp2_with fail
          go_meet
          exact ⟨by rw [HD.out], rfl⟩
        · have i2 : ¬ ((k : Int) < 12) := by omega
          have HD : Hid (decide (k < nL ∧ k < 12) = false) := decide_eq_false (fun h => h12 h.2)
          go_wp2_with fail
          go_meet
          exact ⟨by rw [HD.out], rfl⟩
      · have i1 : ¬ ((k : Int) < (nL : Int)) := by omega
        have HD : Hid (decide (k < nL ∧ k < 12) = false) := decide_eq_false (fun h => hlt h.1)
        go_wp2_with fail
        go_meet
        exact ⟨by rw [HD.out], rfl⟩
    case rest =>
    obtain ⟨rfl, rfl⟩ := hcut
    by_cases hc : k < nL ∧ k < 12
    · rw [decide_eq_true hc]
      obtain ⟨hlt, h12⟩ := hc
      obtain ⟨b, off, x, hA, hx, hm, hbl, hrg⟩ := (HIN.out _ HB.out).at_ (k := k) (by rw [← HNL.out]; exact hlt)
      rw [hA] at c9
      have HACT : Hid (∀ wX, Below wr.heap.size wr wX → ActIn wX x) := by
        show ∀ wX, _
        exact fun wX hX => ((HIN.out _ HB.out).acts x hm).below hX
      have HFE : Hid (MsgFew 2000 x.b ∧ x.L.length ≤ 12000) := ⟨(HLT.out.acts x hm).2, (HLT.out.acts x hm).1⟩
      have HRG := Lib.hid hrg
      have i1 : (k : Int) < (nL : Int) := by omega
      clear hA hx hm hrg cw
      go_upto_region 7 with (first
        | (refine wpList_load_mid rfl 50 _ rfl b (off + k * 26) rfl (actC x) _ HRG.out Tryz.underlying50 rfl size_act ?_)
        | (refine wpList_store_box rfl 50 _ _ rfl wr.heap.size 0 (actC x) zeroAct (actC x) rfl rfl (box_new wr zeroAct 50) (show 0 + 26 ≤ 26 by decide) rfl size_act rfl ?_; intro w3 bx3 T3))
      have t3 := T3 (fun j => j = wr.heap.size) rfl
      obtain ⟨q, hq⟩ : ∃ q, q = wr.heap.size := ⟨_, rfl⟩
      rw [← hq] at bx3 t3 ⊢
      have hb3 : Below wr.heap.size wr w3 := ((Below.refl _ _).alloc (Nat.le_refl _) _).trans (t3.below (fun j hj => by omega) (by simp))
      have hql := bx3.1
      have hqge : wr.heap.size ≤ q := by omega
      clear hq
      go_upto_region 8 with (refine wpList_store_cell rfl 3 _ _ rfl q 0 (.int .i64 D) (actC x) rfl rfl rfl rfl bx3 (show 0 < 26 by decide) size_int ?_; intro w4 bx4 T4)
      have t4 := T4 (fun j => j = q) rfl
      have hb4 : Below wr.heap.size wr w4 := hb3.trans (t4.below (fun j hj => by omega) hb3.size)
      have HB4 : Hid (Below w1.heap.size w1 w4) := HB.out.trans (hb4.mono HB.out.size)
      have HX4 : Hid (Box w4 q (actC { x with Do := D })) := bx4
      have ha4 : ActIn w4 { x with Do := D } := (HACT.out w4 hb4).setDo (show I64 D by unfold I64; omega)
      have HST := Lib.hid (HSTEP s.P s.a { x with Do := D } w4 (HIN.out w4 HB4.out).wk HLT.out.grown ha4 HFE.out hv)
      obtain ⟨c9', cw4⟩ := HC.out _ HB4.out
      have HCW := Lib.hid cw4
      clear t3 T3 t4 T4 hb3 hb4 bx3 bx4 ha4 hql cw4 c9'
      go_upto_region 9 with (first
        | (refine wpList_load_mid rfl 27 _ rfl g 0 rfl (wkC s.P s.a) _ HCW.out Tryz.underlying27 rfl size_wk ?_)
        | (refine wpList_load_box rfl 50 _ rfl q rfl (actC { x with Do := D }) HX4.out _ Tryz.underlying50 rfl size_act ?_)
        | (go_at_call 19; refine HST.out.mono ?_; rintro e w5 ⟨Q, a5, rfl, -, -, hb5⟩)
        | (refine wpList_store_box rfl 27 _ _ rfl w5.heap.size 0 (wkC Q a5) zeroC (wkC Q a5) rfl rfl (box_new w5 zeroC 27) (show 0 + 9 ≤ 9 by decide) rfl size_wk rfl ?_; intro w6 bx6 T6))
      have t6 := T6 (fun j => j = w5.heap.size) rfl
      have hz5 := hb5.size
      have HB6 : Hid (Below w1.heap.size w1 w6) := (HB4.out.trans (hb5.mono HB4.out.size)).trans (((Below.refl w5.heap.size w5).alloc (Nat.le_refl _) _).trans (t6.below (fun j hj => by omega) (by simp)) |>.mono (by have := HB4.out.size; omega))
      clear t6 T6 bx6 hb5 HST HCW HX4
      go_wp2_with fail
      go_roundw
      case rel => exact ⟨k + 1, by go_num, by omega, by omega, HB6⟩
      case measure => simp [intOf]; omega
    · rw [decide_eq_false hc]
      clear hc
      have HWK := Lib.hid (wakes13_any wr)
      go_wp2_with (go_at_call 20; refine HWK.out.mono ?_; rintro e w9 ⟨rfl, hb9⟩)
      go_ret
      exact ⟨rfl, by rw [HG.out]; exact HB1.out.trans ((HB.out.trans (hb9.mono HB.out.size)).mono (by omega))⟩

end Go.Proofs.YteepobghdpnabaaGreat
