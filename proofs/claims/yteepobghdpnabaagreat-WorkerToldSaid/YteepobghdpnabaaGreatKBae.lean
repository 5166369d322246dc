/-
 Alone a batch is ready: what wakes the statements on package worker.
-/
import Derived.Test.YteepobghdpnabaaGreatKBv
import Derived.Test.YteepobghdpnabaaGreatKBad
import Derived.Test.YteepobghdpnabaaGreatKBx
import Derived.Test.YteepobghdpnabaaGreatKBy
import Derived.Test.YteepobghdpnabaaGreatKBz
import Derived.Test.YteepobghdpnabaaGreatKBq
import Derived.Test.YteepobghdpnabaaGreatKBm
import Derived.Test.YteepobghdpnabaaGreatKBab
import Derived.Test.YteepobghdpnabaaGreatKBd
namespace Go.Proofs.YteepobghdpnabaaGreat
open Go.RowKit

def wkT : TxD := ⟨1, 1, ⟨#[107]⟩, ⟨#[]⟩⟩
def wkP (k : Nat) : WkD := ⟨1, 1, 1, [wkT], k, k, [], [], []⟩
def wkE : WkD := ⟨1, 1, 2, [], 0, 4, [], [⟨7, 1, 1, [wkT]⟩], [7]⟩
theorem may_new1 : mayW (newW 1 1) = true := mayW_iff.2 ⟨by decide, ⟨by decide, by decide⟩, ⟨by decide, by decide⟩, by decide, by decide, ⟨by decide, by decide⟩, ⟨by decide, by decide⟩, by decide, fun i x h => by simp [newW] at h, by decide, fun i x h => by simp [newW] at h, fun i x h => by simp [newW] at h⟩
theorem may_wkP (k : Nat) (hk : k ≤ 4) : mayW (wkP k) = true := mayW_iff.2 ⟨by show mayB 1 = true; decide, ⟨by show (1 : Int) ≤ 1; decide, by show (1 : Int) ≤ 1; decide⟩, ⟨by show (1 : Int) ≤ 1; decide, by show (1 : Int) ≤ 1099511627776; decide⟩, by show 1 ≤ 64; decide, by show [wkT].all txB = true; decide, ⟨by show (0 : Int) ≤ (k : Int); omega, by show (k : Int) ≤ 1099511627776; omega⟩, ⟨by show (0 : Int) ≤ (k : Int); omega, by show (k : Int) ≤ 1099511627776; omega⟩, by show 0 ≤ 1024; decide, fun i x h => by simp [wkP] at h, by show betB 1 65536 [] = true; decide, fun i x h => by simp [wkP] at h, fun i x h => by simp [wkP] at h⟩
theorem few_wkP (k : Nat) (m : Nat) (hm : 1 ≤ m) : WFew (wkP k) m := ⟨hm, by simp [wkP], by simp [wkP], by simp [wkP], fun x hx => by simp [wkP] at hx, fun x hx => by simp [wkP] at hx⟩
theorem few_new1 (m : Nat) : WFew (newW 1 1) m := ⟨by simp [newW], by simp [newW], by simp [newW], by simp [newW], fun x hx => by simp [newW] at hx, fun x hx => by simp [newW] at hx⟩
theorem wk_new (w : World) : Calls Tryz.prog 69 #[.int .i64 1, .int .i64 1] w (Ret2 (newW 1 1) 0 w) := by
 have h := new_any 1 1 w
 rw [if_pos may_new1, if_pos may_new1] at h
 exact h
theorem wk_add (w : World) (a : WkA) (h : WIn w (newW 1 1) a) : Calls Tryz.prog 66 #[wkV (newW 1 1) a, .agg #[.int .i64 1, .int .i64 1, .string ⟨#[107]⟩, .string ⟨#[]⟩]] w (Ret2 (wkP 0) 0 w) := by
 have h := add_any (newW 1 1) a wkT w h (few_new1 _)
 have e : ifMay (newW 1 1) (addE (newW 1 1) wkT) = 0 := by rw [ifMay_yes may_new1]; decide
 rw [e] at h
 exact h
theorem wk_tick (k : Nat) (hk : k ≤ 4) (w : World) (a : WkA) (h : WIn w (wkP k) a) : Calls Tryz.prog 60 #[wkV (wkP k) a] w (Ret3 (wkP (k + 1)) [] 0 w) := by
 have h := tick_any (wkP k) a w h (few_wkP k _ (by omega))
 rw [ifMay_yes (may_wkP k hk)] at h
 have e1 : tickW (wkP k) = wkP (k + 1) := by
  unfold tickW wkP
  simp
  omega
 have e2 : tickO (wkP k) = [] := by unfold tickO; split <;> rfl
 have e3 : orW 0 (tickW (wkP k)) = wkP (k + 1) := by rw [orW, if_pos rfl, e1]
 have e4 : orO 0 (tickO (wkP k)) = [] := by rw [orO, if_pos rfl, e2]
 rw [e3, e4] at h
 exact h
theorem wk_seal (w : World) (a : WkA) (h : WIn w (wkP 4) a) : Calls Tryz.prog 52 #[wkV (wkP 4) a, .int .i64 7] w (Ret3 wkE [] 0 w) := by
 have h := sealed_any (wkP 4) a 7 w h (few_wkP 4 _ (by omega))
 rw [ifMay_yes (may_wkP 4 (by omega))] at h
 have e0 : sealE (wkP 4) 7 = 0 := by decide +kernel
 have e1 : sealW (wkP 4) 7 = wkE := by decide +kernel
 have e2 : sealO (wkP 4) 7 = [] := by decide +kernel
 rw [e0, orW, if_pos rfl, orO, if_pos rfl, e1, e2] at h
 exact h

set_option maxRecDepth 100000 in
set_option maxHeartbeats 8000000 in
theorem wakes13_any (w : World) : Calls Tryz.prog 20 #[] w (Tells w.heap.size w (.bool true)) := by
 go_enter Tryz.func20, Tryz.ntmps20
 go_upto_region 2 with (first
  | (go_at_call 69; refine (wk_new w).mono ?_; rintro e w1 ⟨a1, rfl, hn1, hb1⟩)
  | (refine wpList_store_box rfl 27 _ _ rfl w1.heap.size 0 (wkC (newW 1 1) a1) (zeroC) (wkC (newW 1 1) a1) rfl rfl (box_new w1 zeroC 27) (show 0 + 9 ≤ 9 by decide) rfl size_wk rfl ?_; intro w2 bx2 T2))
 have t2 := T2 (fun k => k = w1.heap.size) rfl
 have hn2 : WNew w.heap.size w2 (newW 1 1) a1 := (hn1.below ((Below.refl _ _).alloc (Nat.le_refl _) _)).touch t2 (fun k hk ho => by have := (hn1.core.lt ho).1; omega) (fun k hk ho => by have := (own_lt hn1.open_ ho).1; omega)
 have hb2 : Below w.heap.size w w2 := (hb1.alloc hb1.size _).trans (t2.below (fun k hk => by have := hb1.size; omega) (by have := hb1.size; simp; omega))
 obtain ⟨g, hg⟩ : ∃ g, g = w1.heap.size := ⟨_, rfl⟩
 rw [← hg] at bx2 ⊢
 have hgw : w.heap.size ≤ g := by have := hb1.size; omega
 have HAD := Lib.hid (wk_add w2 a1 hn2.in_)
 have HX2 := Lib.hid bx2
 have HB2 := Lib.hid hb2
 have hgl2 : g < w2.heap.size := bx2.1
 clear hn1 hb1 T2 t2 hn2 hb2 bx2 hg
 go_upto_region 3 with (first
  | (refine wpList_load_box rfl 27 _ rfl g rfl (wkC (newW 1 1) a1) (HX2.out) _ Tryz.underlying27 rfl size_wk ?_)
  | (go_at_call 66; refine HAD.out.mono ?_; rintro e w3 ⟨a3, rfl, hn3, hb3⟩)
  | (refine wpList_store_box rfl 27 _ _ rfl g 0 (wkC (wkP 0) a3) (wkC (newW 1 1) a1) (wkC (wkP 0) a3) rfl rfl (HX2.out.below hb3 hgl2) (show 0 + 9 ≤ 9 by decide) rfl size_wk rfl ?_; intro w4 bx4 T4))
 have t4 := T4 (fun k => k = g) rfl
 have HN4 : Hid (WNew w2.heap.size w4 (wkP 0) a3) := hn3.touch t4 (fun k hk ho => by have := (hn3.core.lt ho).2; omega) (fun k hk ho => by have := (own_lt hn3.open_ ho).2; omega)
 have HB4 : Hid (Below w.heap.size w w4) := (HB2.out.trans (hb3.mono HB2.out.size)).trans (t4.below (fun k hk => by omega) (by have := HB2.out.size; have := hb3.size; omega))
 have HX4 : Hid (Box w4 g (wkC (wkP 0) a3)) := bx4
 clear hn3 hb3 T4 t4 bx4 HAD
 go_wp2_with fail
 go_loopw [4] (fun i wr => ∃ (k B : Nat) (a : WkA), i = .int .i64 k ∧ k ≤ 4 ∧ Hid (g < B ∧ Box wr g (wkC (wkP k) a) ∧ WNew B wr (wkP k) a ∧ Below w.heap.size w wr)) (fun i _ => 4 - (intOf i).toNat)
 case atStart => exact ⟨0, _, a3, rfl, by omega, hgl2, HX4.out, HN4.out, HB4.out⟩
 case round =>
  clear HX4 HN4 HB4 HX2 HB2
  obtain ⟨k, B, a, rfl, hk, HR⟩ := hrel
  have i0 : (0 : Int) ≤ (k : Int) := by omega
  by_cases hlt : k < 4
  ·have i1 : (k : Int) < 4 := by omega
   have HTK := Lib.hid (wk_tick k (by omega) wr a HR.out.2.2.1.in_)
   have hgr := HR.out.2.1.1
   have hwr := HR.out.2.2.2.size
   go_upto_region 7 with (first
    | (refine wpList_load_box rfl 27 _ rfl g rfl (wkC (wkP k) a) (HR.out.2.1) _ Tryz.underlying27 rfl size_wk ?_)
    | (go_at_call 60; refine HTK.out.mono ?_; rintro e w5 ⟨a5, o5, ms5, rfl, hn5, -, -, -, hb5⟩)
    | (refine wpList_store_box rfl 27 _ _ rfl w5.heap.size 0 (wkC (wkP (k + 1)) a5) (zeroC) (wkC (wkP (k + 1)) a5) rfl rfl (box_new w5 zeroC 27) (show 0 + 9 ≤ 9 by decide) rfl size_wk rfl ?_; intro w6 bx6 T6))
   have t6 := T6 (fun k => k = w5.heap.size) rfl
   have hn6 : WNew wr.heap.size w6 (wkP (k + 1)) a5 := (hn5.below ((Below.refl _ _).alloc (Nat.le_refl _) _)).touch t6 (fun k hk ho => by have := (hn5.core.lt ho).1; omega) (fun k hk ho => by have := (own_lt hn5.open_ ho).1; omega)
   have hb6 : Below wr.heap.size wr w6 := (hb5.alloc hb5.size _).trans (t6.below (fun k hk => by have := hb5.size; omega) (by have := hb5.size; simp; omega))
   have HN6 := Lib.hid hn6
   have HB6 := Lib.hid hb6
   have HX6 := Lib.hid bx6
   have HX0 : Hid (Box w6 g (wkC (wkP k) a)) := HR.out.2.1.below hb6 hgr
   have hgne : g ≠ w5.heap.size := by have := hb5.size; omega
   clear hn5 hb5 T6 t6 hn6 hb6 bx6
   go_wp2_with (first
    | (go_at_call 17; refine (num13_any _ _).mono ?_; rintro e w' ⟨rfl, rfl⟩)
    | (refine wpList_load_box rfl 27 _ rfl w5.heap.size rfl (wkC (wkP (k + 1)) a5) (HX6.out) _ Tryz.underlying27 rfl size_wk ?_)
    | (refine wpList_store_box rfl 27 _ _ rfl g 0 (wkC (wkP (k + 1)) a5) (wkC (wkP k) a) (wkC (wkP (k + 1)) a5) rfl rfl (HX0.out) (show 0 + 9 ≤ 9 by decide) rfl size_wk rfl ?_; intro w7 bx7 T7))
   have t7 := T7 (fun k => k = g) rfl
   go_roundw
   case rel => exact ⟨k + 1, wr.heap.size, a5, by go_num, by omega, hgr, bx7, HN6.out.touch t7 (fun k hk ho => by have := (HN6.out.core.lt ho).2; omega) (fun k hk ho => by have := (own_lt HN6.out.open_ ho).2; omega), (HR.out.2.2.2.trans (HB6.out.mono hwr)).trans (t7.below (fun k hk => by omega) (by have := HB6.out.size; omega))⟩
   case measure => simp [intOf]; omega
  ·have i1 : ¬ ((k : Int) < 4) := by omega
   obtain rfl : k = 4 := by omega
   have HSL := Lib.hid (wk_seal wr a HR.out.2.2.1.in_)
   have hgr := HR.out.2.1.1
   have hwr := HR.out.2.2.2.size
   go_upto_region 11 with (first
    | (refine wpList_load_box rfl 27 _ rfl g rfl (wkC (wkP 4) a) (HR.out.2.1) _ Tryz.underlying27 rfl size_wk ?_)
    | (go_at_call 52; refine HSL.out.mono ?_; rintro e w5 ⟨a5, o5, ms5, rfl, hn5, ho5, he5, -, hb5⟩)
    | (refine wpList_store_box rfl 27 _ _ rfl g 0 (wkC (wkE) a5) (wkC (wkP 4) a) (wkC (wkE) a5) rfl rfl (HR.out.2.1.below hb5 hgr) (show 0 + 9 ≤ 9 by decide) rfl size_wk rfl ?_; intro w6 bx6 T6))
   have t6 := T6 (fun k => k = g) rfl
   have hn6 : WNew wr.heap.size w6 wkE a5 := hn5.touch t6 (fun k hk ho => by have := (hn5.core.lt ho).2; omega) (fun k hk ho => by have := (own_lt hn5.open_ ho).2; omega)
   have HB6 : Hid (Below w.heap.size w w6) := (HR.out.2.2.2.trans (hb5.mono hwr)).trans (t6.below (fun k hk => by omega) (by have := hb5.size; omega))
   have hl5 : o5.n = 0 := by
    have h1 := ho5.len
    have h2 : ms5.length = 0 := by rw [← List.length_map (f := Prod.fst), he5]; rfl
    omega
   obtain ⟨Ao, no, co⟩ := o5
   simp only at hl5
   subst hl5
   obtain ⟨AR, nR, cR, hoR⟩ : ∃ A n c, a5.R = ⟨A, n, c⟩ := ⟨_, _, _, rfl⟩
   have hrdy := hn6.in_.ready
   rw [hoR] at hrdy
   have hnR : nR = 1 := hrdy.len.symm
   subst hnR
   have k8 := (bx6.2 8 _ rfl).1
   rw [hoR] at k8
   obtain ⟨w7, hw7⟩ : ∃ w7, w7 = w6.alloc (.cells #[.int .i64 7] 3) := ⟨_, rfl⟩
   have hb7 : Below w6.heap.size w6 w7 := by rw [hw7]; exact (Below.refl _ _).alloc (Nat.le_refl _) _
   have HEQ := Lib.hid (eqNumbers_any AR (some ⟨w6.heap.size, 0, none⟩) cR 1 1 1 [7] [7] w7 rfl rfl (hrdy.below hb7).rd (by rw [hw7]; exact rd_new w6 [.int .i64 7] 3) (by omega) (by omega))
   have HW7 := Lib.hid hw7
   have hz67 := hb7.size
   clear hn5 hb5 ho5 he5 T6 t6 hn6 hrdy hoR hw7 bx6
   unfold Ad.v
   go_wp2_with (first
    | (go_at_call 17; refine (num13_any _ _).mono ?_; rintro e w' ⟨rfl, rfl⟩)
    | (go_at_call 70; rw [← HW7.out]; refine HEQ.out.mono ?_; rintro e w8 ⟨rfl, d8, hw8⟩; have hb8 : Below w6.heap.size w6 w8 := by { rw [hw8]; exact below_n hb7 d8 }; clear hw8))
   go_ret
   exact ⟨by simp, HB6.out.trans (hb8.mono HB6.out.size)⟩

end Go.Proofs.YteepobghdpnabaaGreat
namespace Go.Proofs.YteepobghdpnabaaGreat
open Go.RowKit

def zeroAct : List Value := [.int .i64 0, .int .i64 0, .int .i64 0, .int .i64 0, .string ⟨#[]⟩, .string ⟨#[]⟩, .int .i64 0, .int .i64 0, .int .i64 0, .int .i64 0, .int .i64 0, .int .i64 0, .slice none 0 0, .int .i64 0, .int .i64 0, .slice none 0 0, .slice none 0 0, .int .i64 0, .int .i64 0, .slice none 0 0, .slice none 0 0, .int .i64 0, .slice none 0 0, .slice none 0 0, .bool false, .slice none 0 0]
theorem ActIn.setDo {w : World} {x : ActD} (h : ActIn w x) {d : Int} (hd : I64 d) : ActIn w { x with Do := d } := ⟨hd, h.wD, h.t, h.m, h.ok, h.few, h.z, h.r, h.k, h.c⟩
theorem scr_wk {w : World} {g : Nat} {s : ScrZ} (h : Box w g (scrC s)) : w.rangeAt g 0 (wkC s.P s.a) := fun j v hv => by
 have hj : j < 9 := (List.getElem?_eq_some_iff.1 hv).1
 have e : scrC s = wkC s.P s.a ++ [.slice s.A s.n s.c] := rfl
 rw [Nat.zero_add]
 refine (h.2 j v ?_).1
 rw [e, List.getElem?_append_left (show j < (wkC s.P s.a).length from hj)]
 exact hv
end Go.Proofs.YteepobghdpnabaaGreat
namespace Go.Proofs.YteepobghdpnabaaGreat
open Go.RowKit

section
variable {g B : Nat} {w w2 : World} {P : WkD} {a : WkA} {l : List OtD} {o ho o8 : Ad} {ms : List (OtD × Ad)} {ws : List (WtD × Ad)} {L : List WtD}
theorem StAt.putR (h : StAt g B w P a l o ms) {R : List Int} (ht : Touch (fun k => a.R.v.ownBlock = some k) w w2) (ho8 : w2.ownsRow B 3 1 o8.v o8.n (i64s R)) (hl : R.length = o8.n) (hb : ∀ k, o8.v.ownBlock = some k → a.R.v.ownBlock = some k ∨ w.heap.size ≤ k) :
  StAt g B (w2.setCell ⟨g, 8, none⟩ o8.v) { P with R := R } { a with R := o8 } l o ms ∧ Touch (fun k => k = g ∨ a.R.v.ownBlock = some k) w (w2.setCell ⟨g, 8, none⟩ o8.v) := by
 have hRg : ∀ k, a.R.v.ownBlock = some k → k ≠ g := fun k hk => h.far0 k (.inl (.inr (.inr (.inl hk))))
 have hgl := h.box.1
 have Tg : Touch (fun k => k = g) w2 (w2.setCell ⟨g, 8, none⟩ o8.v) := (Touch.refl (fun j => j = g) w2).set (.inl rfl) o8.v
 have hbx := (h.box.touch ht fun hf => hRg g hf rfl).set (j := 8) (u := o8.v) (show 8 < 10 by decide)
 have hpg := h.pg.setR ht ho8 hl hb
 have hno : ∀ k, stHas { a with R := o8 } o ms k → k ≠ g := by
  rintro k ((hk | hk | hk | hk | hk) | hk | hk | hk)
  ·exact h.far0 k (.inl (.inl hk))
  ·exact h.far0 k (.inl (.inr (.inl hk)))
  ·rcases hb k hk with e | e
   ·exact hRg k e
   ·omega
  ·exact h.far0 k (.inl (.inr (.inr (.inr (.inl hk)))))
  ·exact h.far0 k (.inl (.inr (.inr (.inr (.inr hk)))))
  ·exact h.far0 k (.inr (.inl hk))
  ·exact h.far0 k (.inr (.inr (.inl hk)))
  ·exact h.far0 k (.inr (.inr (.inr hk)))
 have hout := h.out.touch ht (fun k hk hf => own_unlike h.pg.core.ready h.out.row (show 3 ≠ KM.e by decide) hf hk) (fun y hy k hk hf => own_unlike h.pg.core.ready (h.out.sub y hy).1 (show 3 ≠ KM.e2 by decide) hf hk)
 exact ⟨⟨by simpa [wkC] using hbx, hpg.touch Tg (fun k hk ho => hno k (.inl ho) hk) (fun k hk ho => hno k (.inr (.inl ho)) hk), hout.touch Tg (fun k hk hf => hno k (.inr (.inr (.inl hk))) hf) (fun y hy k hk hf => hno k (.inr (.inr (.inr ⟨y, hy, hk⟩))) hf), h.eO, hno,
  h.ap, h.gB, by have := h.le; have := ht.size; have := Tg.size; omega⟩, (ht.mono fun k hk => .inr hk).on (Tg.mono fun k hk => .inl hk)⟩
theorem StAt.putW (h : StAt g B w P a l o ms) (hb : Below w.heap.size w w2) (hr : RowOwn KW B w2 ho ws) (he : ws.map Prod.fst = L) (h0 : ∀ k, ho.v.ownBlock = some k → k ≠ g) (h1 : ∀ y ∈ ws, ∀ k, y.2.v.ownBlock = some k → k ≠ g) (h2 : ∀ x ∈ ws, ∀ k, a.R.v.ownBlock = some k → x.2.v.ownBlock ≠ some k) :
  StAt g B (w2.setCell ⟨g, 6, none⟩ ho.v) { P with W := L } { a with W := ho, ms := ws } l o ms ∧ Touch (fun k => k = g) w (w2.setCell ⟨g, 6, none⟩ ho.v) := by
 have h' := h.below hb
 have Tg : Touch (fun k => k = g) w2 (w2.setCell ⟨g, 6, none⟩ ho.v) := (Touch.refl (fun j => j = g) w2).set (.inl rfl) ho.v
 have hbx := h'.box.set (j := 6) (u := ho.v) (show 6 < 10 by decide)
 have hpg := h'.pg.setW (Touch.refl _ w2) hr he h2
 have hno : ∀ k, stHas { a with W := ho, ms := ws } o ms k → k ≠ g := by
  rintro k ((hk | hk | hk | ⟨y, hy, hk⟩ | hk) | hk | hk | hk)
  ·exact h0 k hk
  ·exact h.far0 k (.inl (.inr (.inl hk)))
  ·exact h.far0 k (.inl (.inr (.inr (.inl hk))))
  ·exact h1 y hy k hk
  ·exact h.far0 k (.inl (.inr (.inr (.inr (.inr hk)))))
  ·exact h.far0 k (.inr (.inl hk))
  ·exact h.far0 k (.inr (.inr (.inl hk)))
  ·exact h.far0 k (.inr (.inr (.inr hk)))
 exact ⟨⟨by simpa [wkC] using hbx, hpg.touch Tg (fun k hk ho => hno k (.inl ho) hk) (fun k hk ho => hno k (.inr (.inl ho)) hk), h'.out.touch Tg (fun k hk hf => hno k (.inr (.inr (.inl hk))) hf) (fun y hy k hk hf => hno k (.inr (.inr (.inr ⟨y, hy, hk⟩))) hf), h'.eO, hno,
  h.ap, h.gB, by have := h'.le; have := Tg.size; omega⟩, (Touch.of hb).on Tg⟩
end

structure KL (g B C : Nat) (P : WkD) (a : WkA) (l : List OtD) (o : Ad) (ms : List (OtD × Ad)) (w : World) (oL o8 : Ad) (k : Nat) (wr : World) : Prop where
 at_ : StAt g B wr { P with R := P.R ++ goneI P.N (a.ms.take k) P.R } { a with R := o8 } l o ms
 left : wr.ownsRow C 56 2 oL.v oL.n (cellsK KW (leftK P.N (a.ms.take k)))
 lenL : (leftK P.N (a.ms.take k)).length = oL.n
 c : C ≤ wr.heap.size
 cB : B ≤ C
 gC : g < C
 wC : ∀ j, a.W.v.ownBlock = some j → j < C
 touch : Touch (fun j => j = g ∨ a.R.v.ownBlock = some j) w wr
 own8 : ∀ j, o8.v.ownBlock = some j → a.R.v.ownBlock = some j ∨ w.heap.size ≤ j
 wsz : w.heap.size ≤ C
section
variable {g B C k : Nat} {P : WkD} {a : WkA} {l : List OtD} {o : Ad} {ms : List (OtD × Ad)} {w wr w1 w2 : World} {oL oL' o8 o8' : Ad} {x : WtD × Ad}
theorem KL.skip (h : KL g B C P a l o ms w oL o8 k wr) (hb : Below wr.heap.size wr w1) : KL g B C P a l o ms w oL o8 k w1 :=
 ⟨h.at_.below hb, ownS_below h.left hb, h.lenL, by have := h.c; have := hb.size; omega, h.cB, h.gC, h.wC, h.touch.on (Touch.of hb), h.own8, h.wsz⟩
theorem KL.keep (h : KL g B C P a l o ms w oL o8 k wr) (hx : a.ms[k]? = some x) (he : enough P.N x.1.S = false) (hg : wr.grownBy w2 oL.v.ownBlock) (ho : w2.ownsRow C 56 2 oL'.v oL'.n (cellsK KW (leftK P.N (a.ms.take k)) ++ KW.cells x.1 x.2.v)) (hn : oL'.n = oL.n + 1) :
  KL g B C P a l o ms w oL' o8 (k + 1) w2 := by
 have hT : Touch (fun j => oL.v.ownBlock = some j) wr w2 := Touch.grown hg fun j hj => hj
 have hC : ∀ j, oL.v.ownBlock = some j → C ≤ j := fun j hj => (own_lt h.left hj).2
 have hgC := h.gC
 have hcB := h.cB
 have hn' := h.at_.pg.core
 have hno : ∀ j, oL.v.ownBlock = some j → j ≠ g ∧ ¬ stHas { a with R := o8 } o ms j := fun j hf => ⟨by have := hC j hf; omega, by
  rintro ((ho | ho | ho | ⟨y, hy, ho⟩ | ⟨y, hy, ho⟩) | ho | ho | ⟨y, hy, ho⟩)
  ·have := h.wC j ho; have := hC j hf; omega
  ·exact own_unlike h.left hn'.held.row (show KW.e ≠ KH.e by decide) hf ho
  ·exact own_unlike h.left hn'.ready (show KW.e ≠ 3 by decide) hf ho
  ·exact own_unlike h.left (hn'.waits.sub y hy).1 (show KW.e ≠ KW.e2 by decide) hf ho
  ·exact own_unlike h.left (hn'.held.sub y hy).1 (show KW.e ≠ KH.e2 by decide) hf ho
  ·exact h.at_.pg.open_far (ownS_more h.left h.cB) (show KW.e ≠ 40 by decide) hf ho
  ·exact own_unlike h.left h.at_.out.row (show KW.e ≠ KM.e by decide) hf ho
  ·exact own_unlike h.left (h.at_.out.sub y hy).1 (show KW.e ≠ KM.e2 by decide) hf ho⟩
 have el : leftK P.N (a.ms.take (k + 1)) = leftK P.N (a.ms.take k) ++ [x] := by rw [leftK_next hx, if_neg (by rw [he]; decide)]
 have eg : goneI P.N (a.ms.take (k + 1)) P.R = goneI P.N (a.ms.take k) P.R := by rw [goneI_next hx, if_neg (by rw [he]; simp), List.append_nil]
 exact ⟨by rw [eg]; exact h.at_.far hT hno, by rw [el, cellsK_append, cellsK_one]; exact ho, by rw [el, List.length_append, h.lenL, hn]; rfl, by have := h.c; have := hT.size; omega, h.cB, h.gC, h.wC, h.touch.trans hT (fun j hj => .inr (by have := hC j hj; have := h.wsz; omega)), h.own8, h.wsz⟩
theorem KL.gone (h : KL g B C P a l o ms w oL o8 k wr) (hx : a.ms[k]? = some x) (he : enough P.N x.1.S = true) (hd : x.1.d ∈ P.R) : KL g B C P a l o ms w oL o8 (k + 1) wr := by
 have el : leftK P.N (a.ms.take (k + 1)) = leftK P.N (a.ms.take k) := by rw [leftK_next hx, if_pos he, List.append_nil]
 have eg : goneI P.N (a.ms.take (k + 1)) P.R = goneI P.N (a.ms.take k) P.R := by rw [goneI_next hx, if_neg (fun h => h.2 hd), List.append_nil]
 exact ⟨by rw [eg]; exact h.at_, by rw [el]; exact h.left, by rw [el]; exact h.lenL, h.c, h.cB, h.gC, h.wC, h.touch, h.own8, h.wsz⟩
theorem KL.more (h : KL g B C P a l o ms w oL o8 k wr) (hx : a.ms[k]? = some x) (he : enough P.N x.1.S = true) (hd : x.1.d ∉ P.R) (hg : wr.grownBy w2 o8.v.ownBlock) (ho : w2.ownsRow B 3 1 o8'.v o8'.n (i64s (P.R ++ goneI P.N (a.ms.take k) P.R) ++ [.int .i64 x.1.d])) (hn : o8'.n = o8.n + 1)
  (hat : o8.v.ownBlock = o8'.v.ownBlock ∨ o8'.v.ownBlock = some wr.heap.size) : KL g B C P a l o ms w oL o8' (k + 1) (w2.setCell ⟨g, 8, none⟩ o8'.v) := by
 have hT : Touch (fun j => o8.v.ownBlock = some j) wr w2 := Touch.grown hg fun j hj => hj
 have el : leftK P.N (a.ms.take (k + 1)) = leftK P.N (a.ms.take k) := by rw [leftK_next hx, if_pos he, List.append_nil]
 have eg : P.R ++ goneI P.N (a.ms.take (k + 1)) P.R = P.R ++ goneI P.N (a.ms.take k) P.R ++ [x.1.d] := by rw [goneI_next hx, if_pos ⟨he, hd⟩, List.append_assoc]
 have hblk : ∀ j, o8'.v.ownBlock = some j → o8.v.ownBlock = some j ∨ wr.heap.size ≤ j := fun j hj => by
  rcases hat with e | e
  ·exact .inl (e.trans hj)
  ·rw [e] at hj; cases hj; exact .inr (Nat.le_refl _)
 have hput := h.at_.putR (R := P.R ++ goneI P.N (a.ms.take k) P.R ++ [x.1.d]) (o8 := o8') hT (by rw [i64s_append]; exact ho) (by rw [List.length_append, hn, ← h.at_.pg.core.rL]; rfl) hblk
 have hcs := h.c
 have hgC := h.gC
 have hsz := hT.size
 have hs2 := hput.2.size
 refine ⟨by rw [eg]; exact hput.1, by rw [el]; exact own_kept h.left fun j hj hl => hput.2.block j hl (by
  rintro (hf | hf)
  ·have := (own_lt h.left hj).2; omega
  ·exact own_unlike h.at_.pg.core.ready h.left (show 3 ≠ KW.e by decide) hf hj), by rw [el]; exact h.lenL, by omega, h.cB, h.gC, h.wC, h.touch.trans hput.2 (fun j hj => by
  rcases hj with e | e
  ·exact .inl (.inl e)
  ·exact (h.own8 j e).imp .inr id), fun j hj => ?_, h.wsz⟩
 rcases hblk j hj with e | e
 ·exact h.own8 j e
 ·have := h.touch.size
  exact .inr (by omega)
theorem KL.end_ (h : KL g B C P a l o ms w oL o8 k wr) (hk : a.ms.length ≤ k) (he : a.ms.map Prod.fst = P.W) : StAt g B (wr.setCell ⟨g, 6, none⟩ oL.v) (settleW P) { a with R := o8, W := oL, ms := leftK P.N a.ms } l o ms ∧ Touch (fun j => j = g ∨ a.R.v.ownBlock = some j) w (wr.setCell ⟨g, 6, none⟩ oL.v) := by
 have ht : a.ms.take k = a.ms := List.take_of_length_le hk
 have h1 := h.at_
 have h2 := h.left
 have h3 := h.lenL
 rw [ht] at h1 h2 h3
 have hgC := h.gC
 have hmem : ∀ y ∈ leftK P.N a.ms, y ∈ a.ms := fun y hy => (List.mem_filter.1 hy).1
 have hrow : RowOwn KW B wr oL (leftK P.N a.ms) := ⟨ownS_more h2 h.cB, h3, fun y hy => h1.pg.core.waits.sub y (hmem y hy), h1.pg.core.waits.nod.filter _⟩
 have hput := h1.putW (L := (leftK P.N a.ms).map Prod.fst) (Below.refl _ _) hrow rfl (fun j hj => by have := (own_lt h2 hj).2; omega) (fun y hy j hj => h1.far0 j (.inl (.inr (.inr (.inr (.inl ⟨y, hmem y hy, hj⟩)))))) (fun y hy => h1.pg.core.apR y (hmem y hy))
 rw [settle_is he]
 exact ⟨hput.1, h.touch.on (hput.2.mono fun j hj => .inl hj)⟩
end

end Go.Proofs.YteepobghdpnabaaGreat
namespace Go.Proofs.YteepobghdpnabaaGreat
open Go.RowKit

theorem st_new {B : Nat} {w : World} {P : WkD} {a : WkA} (h : WNew B w P a) (hB : B ≤ w.heap.size) : StAt w.heap.size B (w.alloc (.cells (wkC P a ++ [noAd.v]).toArray 75)) P a [] noAd [] := by
 have hb : Below w.heap.size w (w.alloc (.cells (wkC P a ++ [noAd.v]).toArray 75)) := (Below.refl _ _).alloc (Nat.le_refl _) _
 refine ⟨box_new w (wkC P a ++ [noAd.v]) 75, h.pg.below hb, rowOwn_none _ _, rfl, ?_, fun y hy => by simp at hy, hB, by have := hb.size; omega⟩
 rintro k (hk | ⟨x, hx, hk⟩ | hk | ⟨y, hy, hk⟩)
 ·have := (h.core.lt hk).1; omega
 ·obtain ⟨cur, hc⟩ := h.pg.typ x hx
  have := lt_of_block hc
  omega
 ·simp [noAd, Ad.v, Value.ownBlock] at hk
 ·simp at hy
theorem WPg.nums {B : Nat} {w : World} {P : WkD} {a : WkA} (h : WPg B w P a) (x g c : Int) : WPg B w { P with x := x, g := g, c := c } a := ⟨⟨h.core.waits, h.core.eW, h.core.held, h.core.eH, h.core.ready, h.core.rL, h.core.apR⟩, h.open_, h.typ⟩
theorem StAt.nums {g B : Nat} {w w' : World} {P : WkD} {a : WkA} {l : List OtD} {o : Ad} {ms : List (OtD × Ad)} (h : StAt g B w P a l o ms) {x g1 c : Int} (hb : Box w' g (wkC { P with x := x, g := g1, c := c } a ++ [o.v])) (ht : Touch (fun k => k = g) w w') : StAt g B w' { P with x := x, g := g1, c := c } a l o ms :=
 ⟨hb, (h.pg.touch ht (fun k hk ho => h.far0 k (.inl ho) hk) (fun k hk ho => h.far0 k (.inr (.inl ho)) hk)).nums x g1 c, h.out.touch ht (fun k hk hf => h.far0 k (.inr (.inr (.inl hk))) hf) (fun y hy k hk hf => h.far0 k (.inr (.inr (.inr ⟨y, hy, hk⟩))) hf), h.eO, h.far0, h.ap, h.gB, by have := h.le; have := ht.size; omega⟩
end Go.Proofs.YteepobghdpnabaaGreat
namespace Go.Proofs.YteepobghdpnabaaGreat
open Go.RowKit Go.ChangeShapes Go.WideShapes Go.Deep

structure MAsked where
 m : MsgD
 a : MsgA
 N : Int
 AX : Option Addr
 cX : Nat
 X : List Int
def askC (m : MsgD) (a : MsgA) (N : Int) (AX : Option Addr) (nX cX : Nat) : List Value := [.int .i64 m.k, .int .i64 m.f, .int .i64 m.t, .int .i64 m.d, .int .i64 m.ba, .int .i64 m.bn, .slice a.AL a.nL a.cL, .int .i64 m.ha, .int .i64 m.hr, .slice a.AhB a.nhB a.chB, .slice a.AhP a.nhP a.chP, .int .i64 m.ca, .int .i64 m.cr, .slice a.AcB a.ncB a.ccB, .slice a.AcP a.ncP a.ccP, .int .i64 m.cd, .slice a.AcS a.ncS a.ccS, .slice a.AD a.nD a.cD, .int .i64 N, .slice AX nX cX]
structure MAskOk (w : World) (q : MAsked) : Prop where
 hi : MsgIn w q.m q.a
 ok : MsgOk q.m
 few : MsgFew 140737488351232 q.a
 wN : I64 q.N
 hX : q.X.length ≤ q.cX
 mX : q.cX ≤ maxLen
 rX : Rd w q.AX (u8s q.X)
 sX : Byts q.X
theorem MAskOk.below {w w' : World} {q : MAsked} (h : MAskOk w q) (hb : Below w.heap.size w w') : MAskOk w' q := ⟨h.hi.below hb, h.ok, h.few, h.wN, h.hX, h.mX, h.rX.below hb, h.sX⟩
def MAskAt (w : World) (a : Option Addr) (i : Nat) : Prop :=
 ∃ (b off : Nat) (q : MAsked), a = some ⟨b, off, none⟩ ∧ b < w.heap.size ∧ MAskOk w q ∧ w.rangeAt b (off + i * 20) (askC q.m q.a q.N q.AX q.X.length q.cX)
theorem range_below {w w' : World} {b o : Nat} {cs : List Value} (h : w.rangeAt b o cs) (hb : Below w.heap.size w w') (hlt : b < w.heap.size) : w'.rangeAt b o cs := fun j v hv => (hb.cell (p := ⟨b, o + j, none⟩) hlt).trans (h j v hv)
theorem MAskAt.all {w : World} {a : Option Addr} {i : Nat} (h : MAskAt w a i) : ∃ (b off : Nat) (q : MAsked) (nX : Nat), a = some ⟨b, off, none⟩ ∧ q.X.length = nX ∧ ∀ wX, Below w.heap.size w wX → MAskOk wX q ∧ wX.rangeAt b (off + i * 20) (askC q.m q.a q.N q.AX nX q.cX) := by
 obtain ⟨b, off, q, rfl, hlt, ok, hr⟩ := h
 exact ⟨b, off, q, _, rfl, rfl, fun wX hb => ⟨ok.below hb, range_below hr hb hlt⟩⟩

theorem mbytes_tx : Tryz.prog.bytesOf 40 = 48 := by kernel_rfl
theorem txs_fit {H : Type} {enc : TypeId × Value → H} {w : World} {base : Nat} {spare : Nat → Bool} {held : Bool} {fuel : Nat} {v : Value} {x : DataW H × List MemPlace}
  (h : DataW.trod enc Tryz.prog w base spare held fuel 22 [v] = some x) (hw : ∀ n ∈ x.1.weights Tryz.prog 22, n ≤ reachBytes) : ∀ (A : Option Addr) (c n : Nat), v = .slice A n c → n ≤ 140737488351232 := by
 intro A c n hv
 rcases open_slice Tryz.underlying22 h with ⟨h0, _⟩ | ⟨ad, len, cap, m, k, D, Pl, h0, _, _, _, _, hz, _⟩
 ·simp only [List.cons.injEq, and_true] at h0
  rw [h0] at hv
  cases hv
  omega
 ·simp only [List.cons.injEq, and_true] at h0
  rw [h0] at hv
  cases hv
  have h1 := hw (((List.range n).map D).length * 48 + ((List.range (m - n)).map fun j => D (n + j)).length * 48) (by
   rw [hz, DataW.weights, Tryz.underlying22]
   simp only [mbytes_tx]
   refine List.mem_cons.2 (.inl ?_)
   rw [Nat.add_mul])
  rw [List.length_map, List.length_range] at h1
  unfold reachBytes at h1
  omega
theorem cells_msg : Tryz.prog.cellsOf 48 = 18 := by kernel_rfl
theorem mcells_batch : Tryz.prog.cellsOf 42 = 3 := by kernel_rfl
theorem mcells_txs : Tryz.prog.cellsOf 22 = 1 := by kernel_rfl

/-! ### what is asked of package message -/
end Go.Proofs.YteepobghdpnabaaGreat
