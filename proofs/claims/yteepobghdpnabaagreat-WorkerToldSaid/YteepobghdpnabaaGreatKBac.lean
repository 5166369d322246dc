/-
 Package worker's Tick: nothing is asked.
-/
import Derived.StillTailTactics
import Derived.Test.YteepobghdpnabaaGreatKBab
namespace Go.Proofs.YteepobghdpnabaaGreat
open Go.RowKit

set_option maxRecDepth 100000 in
set_option maxHeartbeats 16000000 in
theorem tick_Q (P : WkD) (a : WkA) (w : World) (h : WIn w P a) (hf : WFew P 300000) (hmay : mayW P = true) (hr : ¬ (min (P.c + 1) 1099511627776 % 3 = 0)) : Calls Tryz.prog 60 #[wkV P a] w (Ret3 (orW (ifMay P 0) (tickW P)) (orO (ifMay P 0) (tickO P)) (ifMay P 0) w) := by
  obtain ⟨g, hg⟩ : ∃ g, g = w.heap.size := ⟨_, rfl⟩
  obtain ⟨wa0, hwa0⟩ : ∃ wa0, wa0 = w.alloc (.cells #[.int .i64 P.i, .int .i64 P.N, .int .i64 P.x, .slice a.O.A a.O.n a.O.c, .int .i64 P.g, .int .i64 P.c, .slice a.W.A a.W.n a.W.c, .slice a.H.A a.H.n a.H.c, .slice a.R.A a.R.n a.R.c] 27) := ⟨_, rfl⟩
  have hs0 : wa0.heap.size = g + 1 := by rw [hwa0]; simp; omega
  have bn0 : Box wa0 (g) (wkC P a) := by rw [hwa0, hg]; exact box_new w (wkC P a) 27
  have hb0 : Below g w wa0 := by rw [hwa0]; exact (Below.refl _ _).alloc (by omega) _
  obtain ⟨wa1, hwa1⟩ : ∃ wa1, wa1 = wa0.alloc (.cells #[.int .i64 0, .int .i64 0, .int .i64 0, .slice none 0 0, .int .i64 0, .int .i64 0, .slice none 0 0, .slice none 0 0, .slice none 0 0] 27) := ⟨_, rfl⟩
  have hs1 : wa1.heap.size = g + 2 := by rw [hwa1]; simp; omega
  have bn1 : Box wa1 (g + 1) (zeroC) := by rw [hwa1, ← hs0]; exact box_new wa0 (zeroC) 27
  have hb1 : Below g w wa1 := by rw [hwa1]; exact hb0.alloc (by omega) _
  have HX0 : Hid (Box wa1 (g) (wkC P a)) := (bn0.below (show Below wa0.heap.size wa0 wa1 by rw [hwa1]; exact (Below.refl _ _).alloc (Nat.le_refl _) _) (by omega))
  have HX1 : Hid (Box wa1 (g + 1) (zeroC)) := bn1
  obtain ⟨w0, hw0⟩ : ∃ w0, w0 = wa1 := ⟨_, rfl⟩
  rw [← hw0] at HX0
  rw [← hw0] at HX1
  have hsz0 : w0.heap.size = g + 2 := by rw [hw0]; exact hs1
  have hb0w : Below g w w0 := by rw [hw0]; exact hb1
  have HW0 : Hid ((w.alloc (.cells #[.int .i64 P.i, .int .i64 P.N, .int .i64 P.x, .slice a.O.A a.O.n a.O.c, .int .i64 P.g, .int .i64 P.c, .slice a.W.A a.W.n a.W.c, .slice a.H.A a.H.n a.H.c, .slice a.R.A a.R.n a.R.c] 27)).alloc (.cells #[.int .i64 0, .int .i64 0, .int .i64 0, .slice none 0 0, .int .i64 0, .int .i64 0, .slice none 0 0, .slice none 0 0, .slice none 0 0] 27) = w0) := by show (w.alloc (.cells #[.int .i64 P.i, .int .i64 P.N, .int .i64 P.x, .slice a.O.A a.O.n a.O.c, .int .i64 P.g, .int .i64 P.c, .slice a.W.A a.W.n a.W.c, .slice a.H.A a.H.n a.H.c, .slice a.R.A a.R.n a.R.c] 27)).alloc (.cells #[.int .i64 0, .int .i64 0, .int .i64 0, .slice none 0 0, .int .i64 0, .int .i64 0, .slice none 0 0, .slice none 0 0, .slice none 0 0] 27) = w0; rw [hw0, hwa1, hwa0]
  have HG : Hid (w.heap.size = g) := hg.symm
  have HS0 := Lib.hid hsz0
  have HB0 := Lib.hid hb0w
  have hl0 : g < w0.heap.size := by omega
  have hl1 : g + 1 < w0.heap.size := by omega
  have hgw : g ≤ w0.heap.size := by omega
  have hin0 := h.below' HB0.out HG.out
  have HIN : Hid (∀ wX, Below w0.heap.size w0 wX → WIn wX P a) := by show ∀ wX, _; exact fun wX hX => hin0.below hX
  have HF := Lib.hid hf
  have hcheck := check_is (mayW P) P a w0 rfl hin0 (hf.more (by decide))
  have hmw := mayW_iff.1 hmay
  obtain ⟨c1, hc1⟩ : ∃ c1, c1 = min (P.c + 1) 1099511627776 := ⟨_, rfl⟩
  obtain ⟨g1, hg1⟩ : ∃ g1, g1 = min (P.g + 1) 1099511627776 := ⟨_, rfl⟩
  have HC1 := Lib.hid hc1
  have HG1 := Lib.hid hg1
  have c0 := hmw.clock
  have g0 := hmw.age
  have c2 : 0 ≤ c1 ∧ c1 ≤ 1099511627776 := by omega
  rw [hmay] at hcheck
  have HCK := Lib.hid hcheck
  have HE : Hid (ifMay P 0 = 0) := ifMay_yes hmay 0
  obtain ⟨P4, hP4⟩ : ∃ P4, P4 = tickW P := ⟨_, rfl⟩
  have HP4 := Lib.hid hP4
  have e4 : P4.W = P.W ∧ P4.H = P.H ∧ P4.i = P.i ∧ P4.N = P.N ∧ P4.c = c1 := by rw [hP4, hc1]; exact ⟨rfl, rfl, rfl, rfl, rfl⟩
  have HF4 : Hid (WFew P4 300000) := by show WFew P4 300000; rw [hP4]; exact ⟨hf.o, hf.w, hf.h, hf.r, hf.s, hf.l⟩
  have HR4 : Hid (RiseI P4.hs) := by show RiseI P4.hs; rw [WkD.hs, e4.2.1]; exact hmw.hrise
  have HN16 : Hid (0 ≤ P4.N ∧ P4.N ≤ 16) := by have := may_yes hmw.may; show _ ∧ _; rw [e4.2.2.2.1]; omega
  have HO : Hid (([] : List (OtD × Ad)).map Prod.fst = tickO P) := by
    show _ = _
    rw [tickO, if_neg]
    · rfl
    · rw [← hP4, e4.2.2.2.2, hc1]; exact hr
  have jr : (c1 % 3 == 0) = false := by rw [hc1]; simpa using hr
  have jr2 : (c1 % 3 != 0) = true := by rw [hc1]; simpa using hr
  clear hg hsz0 hb0w hw0 hwa0 hs0 bn0 hb0 hwa1 hs1 bn1 hb1
  unfold wkV Ad.v
  by_cases hO : 0 < P.O.length
  · have H4 : Hid (P4 = { P with c := c1, g := g1 }) := by show _ = _; rw [hP4, tickW, if_pos hO, hc1, hg1]
    clear hcheck hin0 h hf hmw hmay hc1 hg1 hP4 e4 hr
    go_enter Tryz.func60, Tryz.ntmps60
    go_upto_region 1 with fail
    rw [HG.out, HW0.out]
    go_upto_region 5 with (first
      | (refine wpList_load_box rfl 27 _ rfl g rfl (wkC P a) (HX0.out) _ Tryz.underlying27 rfl size_wk ?_)
      | (go_at_call 18; refine HCK.out.mono ?_; rintro e w1 ⟨rfl, hb1⟩)
      | (refine wpList_load_box rfl 27 _ rfl g rfl (wkC P a) (HX0.out.below hb1 hl0) _ Tryz.underlying27 rfl size_wk ?_)
      | (go_at_call 90; refine (clone_any P a w1 (HIN.out _ hb1) (HF.out.more (by decide))).mono ?_; rintro e w4 ⟨a4, rfl, hn4, hb4⟩)
      | (refine wpList_store_box rfl 27 _ _ rfl g 0 (wkC P a4) (wkC P a) (wkC P a4) rfl rfl ((HX0.out.below hb1 hl0).below hb4 (by have := hb1.size; omega)) (show 0 + 9 ≤ 9 by decide) rfl size_wk rfl ?_; intro w5 bx5 T5))
    have k5 : w5.cell? ⟨g, 5, none⟩ = some (.int .i64 P.c) := (bx5.2 5 _ rfl).1
    have hO4 : (0 : Int) < (a4.O.n : Int) := by have := hn4.oL; omega
    go_upto_region 9 with (first
      | (refine wpList_store_cell rfl 3 _ _ rfl g 5 (.int .i64 c1) (wkC P a4) rfl (by rw [HC1.out]; rfl) rfl rfl bx5 (show 5 < 9 by decide) size_int ?_
         intro w6 bx6 T6
         have k3 : w6.cell? ⟨g, 3, none⟩ = some (.slice a4.O.A a4.O.n a4.O.c) := (bx6.2 3 _ rfl).1
         have k4 : w6.cell? ⟨g, 4, none⟩ = some (.int .i64 P.g) := (bx6.2 4 _ rfl).1
         have k5 : w6.cell? ⟨g, 5, none⟩ = some (.int .i64 c1) := (bx6.2 5 _ rfl).1)
      | (refine wpList_store_cell rfl 3 _ _ rfl g 4 (.int .i64 g1) _ rfl (by rw [HG1.out]; rfl) rfl rfl bx6 (show 4 < 9 by decide) size_int ?_
         intro w7 bx7 T7
         have k5 : w7.cell? ⟨g, 5, none⟩ = some (.int .i64 c1) := (bx7.2 5 _ rfl).1))
    have t5 := T5 (fun k => k = g) rfl
    have t6 := T6 (fun k => k = g) rfl
    have t7 := T7 (fun k => k = g) rfl
    have tz : Touch (fun k => k = g) w4 w7 := (t5.on t6).on t7
    have hATZ : WAt w1.heap.size g w7 P4 a4 := by
      refine ⟨by rw [H4.out]; exact bx7, ?_, by have := hb1.size; omega, by have := hb4.size; have := tz.size; omega⟩
      rw [H4.out]
      exact (hn4.touch tz (fun k hk ho => by have := (hn4.core.lt ho).2; have := hb1.size; omega) (fun k hk ho => by have := (own_lt hn4.open_ ho).2; have := hb1.size; omega)).nums P.x g1 c1
    have hresZ : Box w7 (g + 1) zeroC := ((HX1.out.below hb1 hl1).below hb4 (by have := hb1.size; omega)).touch tz (by omega)
    have hbelZ : Below g w w7 := ((HB0.out.trans (hb1.mono hgw)).trans (hb4.mono (by have := hb1.size; omega))).trans (tz.below (fun k hk => by omega) (by have := hb1.size; have := hb4.size; omega))
    obtain ⟨B, hB⟩ : ∃ B, B = w1.heap.size := ⟨_, rfl⟩
    rw [← hB] at hATZ
    have hgB : g + 1 < B := by have := hb1.size; have := HS0.out; omega
    obtain ⟨wZ, hwZ⟩ : ∃ wZ, wZ = w7 := ⟨_, rfl⟩
    rw [← hwZ] at hATZ hresZ hbelZ ⊢
    clear hwZ bx7 k5 t5 t6 t7 tz T5 T6 T7 bx6 hb1 hb4 hn4 hB
    go_wp2_with (first
      | (refine wpList_load_box rfl 27 _ rfl g rfl (wkC P4 a4) (hATZ.box) _ Tryz.underlying27 rfl size_wk ?_)
      | (refine wpList_store_box rfl 27 _ _ rfl (g + 1) 0 (wkC P4 a4) zeroC (wkC P4 a4) rfl rfl hresZ (show 0 + 9 ≤ 9 by decide) rfl size_wk rfl ?_; intro wE bxE TE))
    have tE := TE (fun k => k = g + 1) rfl
    have hrowZ := (rowOwn_none wZ B : RowOwn KM B wZ noAd [])
    have hrow2 := hrowZ.touch tE (fun k hk hf => by have := (own_lt hrowZ.row hk).2; omega) (fun y hy k hk hf => by have := (own_lt (hrowZ.sub y hy).1 hk).2; omega)
    have hbel : Below g w wE := hbelZ.trans (tE.below (fun k hk => by omega) (by have := hresZ.1; omega))
    obtain ⟨r0, r1, r2, r3, r4, r5, r6, r7, r8⟩ := wk_cells bxE
    refine bodyPost_ret (v := .tuple #[wkV P4 a4, .slice none 0 0, .int .i64 0]) (by simp [results, Tryz.results60, go_sem, r0, r1, r2, r3, r4, r5, r6, r7, r8, wkV, Ad.v]) rfl ⟨a4, noAd, [], by rw [HE.out, HP4.out]; rfl, ?_, hrow2.more (by rw [HG.out]; omega), by rw [HE.out]; exact HO.out, fun y hy => by simp at hy, by rw [HG.out]; exact hbel⟩
    rw [HE.out, HG.out]
    show WNew g wE (tickW P) a4
    rw [← HP4.out]
    exact (hATZ.new.touch tE (fun k hk ho => by have := (hATZ.new.core.lt ho).2; omega) (fun k hk ho => by have := (own_lt hATZ.new.open_ ho).2; omega)).more (by omega)
  · have H4 : Hid (P4 = { P with c := c1, g := P.g }) := by show _ = _; rw [hP4, tickW, if_neg hO, hc1]
    clear hcheck hin0 h hf hmw hmay hc1 hg1 hP4 e4 hr
    go_enter Tryz.func60, Tryz.ntmps60
    go_upto_region 1 with fail
    rw [HG.out, HW0.out]
    go_upto_region 5 with (first
      | (refine wpList_load_box rfl 27 _ rfl g rfl (wkC P a) (HX0.out) _ Tryz.underlying27 rfl size_wk ?_)
      | (go_at_call 18; refine HCK.out.mono ?_; rintro e w1 ⟨rfl, hb1⟩)
      | (refine wpList_load_box rfl 27 _ rfl g rfl (wkC P a) (HX0.out.below hb1 hl0) _ Tryz.underlying27 rfl size_wk ?_)
      | (go_at_call 90; refine (clone_any P a w1 (HIN.out _ hb1) (HF.out.more (by decide))).mono ?_; rintro e w4 ⟨a4, rfl, hn4, hb4⟩)
      | (refine wpList_store_box rfl 27 _ _ rfl g 0 (wkC P a4) (wkC P a) (wkC P a4) rfl rfl ((HX0.out.below hb1 hl0).below hb4 (by have := hb1.size; omega)) (show 0 + 9 ≤ 9 by decide) rfl size_wk rfl ?_; intro w5 bx5 T5))
    have k5 : w5.cell? ⟨g, 5, none⟩ = some (.int .i64 P.c) := (bx5.2 5 _ rfl).1
    have hO4 : ¬ ((0 : Int) < (a4.O.n : Int)) := by have := hn4.oL; omega
    go_upto_region 9 with (first
      | (refine wpList_store_cell rfl 3 _ _ rfl g 5 (.int .i64 c1) (wkC P a4) rfl (by rw [HC1.out]; rfl) rfl rfl bx5 (show 5 < 9 by decide) size_int ?_
         intro w6 bx6 T6
         have k3 : w6.cell? ⟨g, 3, none⟩ = some (.slice a4.O.A a4.O.n a4.O.c) := (bx6.2 3 _ rfl).1
         have k4 : w6.cell? ⟨g, 4, none⟩ = some (.int .i64 P.g) := (bx6.2 4 _ rfl).1
         have k5 : w6.cell? ⟨g, 5, none⟩ = some (.int .i64 c1) := (bx6.2 5 _ rfl).1))
    have t5 := T5 (fun k => k = g) rfl
    have t6 := T6 (fun k => k = g) rfl
    have tz : Touch (fun k => k = g) w4 w6 := t5.on t6
    have hATZ : WAt w1.heap.size g w6 P4 a4 := by
      refine ⟨by rw [H4.out]; exact bx6, ?_, by have := hb1.size; omega, by have := hb4.size; have := tz.size; omega⟩
      rw [H4.out]
      exact (hn4.touch tz (fun k hk ho => by have := (hn4.core.lt ho).2; have := hb1.size; omega) (fun k hk ho => by have := (own_lt hn4.open_ ho).2; have := hb1.size; omega)).nums P.x P.g c1
    have hresZ : Box w6 (g + 1) zeroC := ((HX1.out.below hb1 hl1).below hb4 (by have := hb1.size; omega)).touch tz (by omega)
    have hbelZ : Below g w w6 := ((HB0.out.trans (hb1.mono hgw)).trans (hb4.mono (by have := hb1.size; omega))).trans (tz.below (fun k hk => by omega) (by have := hb1.size; have := hb4.size; omega))
    obtain ⟨B, hB⟩ : ∃ B, B = w1.heap.size := ⟨_, rfl⟩
    rw [← hB] at hATZ
    have hgB : g + 1 < B := by have := hb1.size; have := HS0.out; omega
    obtain ⟨wZ, hwZ⟩ : ∃ wZ, wZ = w6 := ⟨_, rfl⟩
    rw [← hwZ] at hATZ hresZ hbelZ ⊢
    clear hwZ bx6 k5 t5 t6 tz T5 T6 hb1 hb4 hn4 hB
    go_wp2_with (first
      | (refine wpList_load_box rfl 27 _ rfl g rfl (wkC P4 a4) (hATZ.box) _ Tryz.underlying27 rfl size_wk ?_)
      | (refine wpList_store_box rfl 27 _ _ rfl (g + 1) 0 (wkC P4 a4) zeroC (wkC P4 a4) rfl rfl hresZ (show 0 + 9 ≤ 9 by decide) rfl size_wk rfl ?_; intro wE bxE TE))
    have tE := TE (fun k => k = g + 1) rfl
    have hrowZ := (rowOwn_none wZ B : RowOwn KM B wZ noAd [])
    have hrow2 := hrowZ.touch tE (fun k hk hf => by have := (own_lt hrowZ.row hk).2; omega) (fun y hy k hk hf => by have := (own_lt (hrowZ.sub y hy).1 hk).2; omega)
    have hbel : Below g w wE := hbelZ.trans (tE.below (fun k hk => by omega) (by have := hresZ.1; omega))
    obtain ⟨r0, r1, r2, r3, r4, r5, r6, r7, r8⟩ := wk_cells bxE
    refine bodyPost_ret (v := .tuple #[wkV P4 a4, .slice none 0 0, .int .i64 0]) (by simp [results, Tryz.results60, go_sem, r0, r1, r2, r3, r4, r5, r6, r7, r8, wkV, Ad.v]) rfl ⟨a4, noAd, [], by rw [HE.out, HP4.out]; rfl, ?_, hrow2.more (by rw [HG.out]; omega), by rw [HE.out]; exact HO.out, fun y hy => by simp at hy, by rw [HG.out]; exact hbel⟩
    rw [HE.out, HG.out]
    show WNew g wE (tickW P) a4
    rw [← HP4.out]
    exact (hATZ.new.touch tE (fun k hk ho => by have := (hATZ.new.core.lt ho).2; omega) (fun k hk ho => by have := (own_lt hATZ.new.open_ ho).2; omega)).more (by omega)

end Go.Proofs.YteepobghdpnabaaGreat
namespace Go.Proofs.YteepobghdpnabaaGreat
open Go.RowKit

set_option maxRecDepth 100000 in
set_option maxHeartbeats 16000000 in
theorem tick_L (P : WkD) (a : WkA) (w : World) (h : WIn w P a) (hf : WFew P 300000) (hmay : mayW P = true) (hr : min (P.c + 1) 1099511627776 % 3 = 0) : Calls Tryz.prog 60 #[wkV P a] w (Ret3 (orW (ifMay P 0) (tickW P)) (orO (ifMay P 0) (tickO P)) (ifMay P 0) w) := by
  obtain ⟨g, hg⟩ : ∃ g, g = w.heap.size := ⟨_, rfl⟩
  obtain ⟨wa0, hwa0⟩ : ∃ wa0, wa0 = w.alloc (.cells #[.int .i64 P.i, .int .i64 P.N, .int .i64 P.x, .slice a.O.A a.O.n a.O.c, .int .i64 P.g, .int .i64 P.c, .slice a.W.A a.W.n a.W.c, .slice a.H.A a.H.n a.H.c, .slice a.R.A a.R.n a.R.c] 27) := ⟨_, rfl⟩
  have hs0 : wa0.heap.size = g + 1 := by rw [hwa0]; simp; omega
  have bn0 : Box wa0 (g) (wkC P a) := by rw [hwa0, hg]; exact box_new w (wkC P a) 27
  have hb0 : Below g w wa0 := by rw [hwa0]; exact (Below.refl _ _).alloc (by omega) _
  obtain ⟨wa1, hwa1⟩ : ∃ wa1, wa1 = wa0.alloc (.cells #[.int .i64 0, .int .i64 0, .int .i64 0, .slice none 0 0, .int .i64 0, .int .i64 0, .slice none 0 0, .slice none 0 0, .slice none 0 0] 27) := ⟨_, rfl⟩
  have hs1 : wa1.heap.size = g + 2 := by rw [hwa1]; simp; omega
  have bn1 : Box wa1 (g + 1) (zeroC) := by rw [hwa1, ← hs0]; exact box_new wa0 (zeroC) 27
  have hb1 : Below g w wa1 := by rw [hwa1]; exact hb0.alloc (by omega) _
  have HX0 : Hid (Box wa1 (g) (wkC P a)) := (bn0.below (show Below wa0.heap.size wa0 wa1 by rw [hwa1]; exact (Below.refl _ _).alloc (Nat.le_refl _) _) (by omega))
  have HX1 : Hid (Box wa1 (g + 1) (zeroC)) := bn1
  obtain ⟨w0, hw0⟩ : ∃ w0, w0 = wa1 := ⟨_, rfl⟩
  rw [← hw0] at HX0
  rw [← hw0] at HX1
  have hsz0 : w0.heap.size = g + 2 := by rw [hw0]; exact hs1
  have hb0w : Below g w w0 := by rw [hw0]; exact hb1
  have HW0 : Hid ((w.alloc (.cells #[.int .i64 P.i, .int .i64 P.N, .int .i64 P.x, .slice a.O.A a.O.n a.O.c, .int .i64 P.g, .int .i64 P.c, .slice a.W.A a.W.n a.W.c, .slice a.H.A a.H.n a.H.c, .slice a.R.A a.R.n a.R.c] 27)).alloc (.cells #[.int .i64 0, .int .i64 0, .int .i64 0, .slice none 0 0, .int .i64 0, .int .i64 0, .slice none 0 0, .slice none 0 0, .slice none 0 0] 27) = w0) := by show (w.alloc (.cells #[.int .i64 P.i, .int .i64 P.N, .int .i64 P.x, .slice a.O.A a.O.n a.O.c, .int .i64 P.g, .int .i64 P.c, .slice a.W.A a.W.n a.W.c, .slice a.H.A a.H.n a.H.c, .slice a.R.A a.R.n a.R.c] 27)).alloc (.cells #[.int .i64 0, .int .i64 0, .int .i64 0, .slice none 0 0, .int .i64 0, .int .i64 0, .slice none 0 0, .slice none 0 0, .slice none 0 0] 27) = w0; rw [hw0, hwa1, hwa0]
  have HG : Hid (w.heap.size = g) := hg.symm
  have HS0 := Lib.hid hsz0
  have HB0 := Lib.hid hb0w
  have hl0 : g < w0.heap.size := by omega
  have hl1 : g + 1 < w0.heap.size := by omega
  have hgw : g ≤ w0.heap.size := by omega
  have hin0 := h.below' HB0.out HG.out
  have HIN : Hid (∀ wX, Below w0.heap.size w0 wX → WIn wX P a) := by show ∀ wX, _; exact fun wX hX => hin0.below hX
  have HF := Lib.hid hf
  have hcheck := check_is (mayW P) P a w0 rfl hin0 (hf.more (by decide))
  have hmw := mayW_iff.1 hmay
  obtain ⟨c1, hc1⟩ : ∃ c1, c1 = min (P.c + 1) 1099511627776 := ⟨_, rfl⟩
  obtain ⟨g1, hg1⟩ : ∃ g1, g1 = min (P.g + 1) 1099511627776 := ⟨_, rfl⟩
  have HC1 := Lib.hid hc1
  have HG1 := Lib.hid hg1
  have c0 := hmw.clock
  have g0 := hmw.age
  have c2 : 0 ≤ c1 ∧ c1 ≤ 1099511627776 := by omega
  rw [hmay] at hcheck
  have HCK := Lib.hid hcheck
  have HE : Hid (ifMay P 0 = 0) := ifMay_yes hmay 0
  obtain ⟨P4, hP4⟩ : ∃ P4, P4 = tickW P := ⟨_, rfl⟩
  have HP4 := Lib.hid hP4
  have e4 : P4.W = P.W ∧ P4.H = P.H ∧ P4.i = P.i ∧ P4.N = P.N ∧ P4.c = c1 := by rw [hP4, hc1]; exact ⟨rfl, rfl, rfl, rfl, rfl⟩
  have HF4 : Hid (WFew P4 300000) := by show WFew P4 300000; rw [hP4]; exact ⟨hf.o, hf.w, hf.h, hf.r, hf.s, hf.l⟩
  have HR4 : Hid (RiseI P4.hs) := by show RiseI P4.hs; rw [WkD.hs, e4.2.1]; exact hmw.hrise
  have HN16 : Hid (0 ≤ P4.N ∧ P4.N ≤ 16) := by have := may_yes hmw.may; show _ ∧ _; rw [e4.2.2.2.1]; omega
  have HOT : Hid (tickO P = retryO P4) := by
    show _ = _
    rw [tickO, if_pos, retry_like e4.1 e4.2.1 e4.2.2.1 e4.2.2.2.1]
    rw [← hP4, e4.2.2.2.2, hc1]; exact hr
  have jr : (c1 % 3 == 0) = true := by rw [hc1]; simpa using hr
  have jr2 : (c1 % 3 != 0) = false := by rw [hc1]; simpa using hr
  clear hg hsz0 hb0w hw0 hwa0 hs0 bn0 hb0 hwa1 hs1 bn1 hb1
  unfold wkV Ad.v
  by_cases hO : 0 < P.O.length
  · have H4 : Hid (P4 = { P with c := c1, g := g1 }) := by show _ = _; rw [hP4, tickW, if_pos hO, hc1, hg1]
    clear hcheck hin0 h hf hmw hmay hc1 hg1 hP4 e4 hr
    go_enter Tryz.func60, Tryz.ntmps60
    go_upto_region 1 with fail
    rw [HG.out, HW0.out]
    go_upto_region 5 with (first
      | (refine wpList_load_box rfl 27 _ rfl g rfl (wkC P a) (HX0.out) _ Tryz.underlying27 rfl size_wk ?_)
      | (go_at_call 18; refine HCK.out.mono ?_; rintro e w1 ⟨rfl, hb1⟩)
      | (refine wpList_load_box rfl 27 _ rfl g rfl (wkC P a) (HX0.out.below hb1 hl0) _ Tryz.underlying27 rfl size_wk ?_)
      | (go_at_call 90; refine (clone_any P a w1 (HIN.out _ hb1) (HF.out.more (by decide))).mono ?_; rintro e w4 ⟨a4, rfl, hn4, hb4⟩)
      | (refine wpList_store_box rfl 27 _ _ rfl g 0 (wkC P a4) (wkC P a) (wkC P a4) rfl rfl ((HX0.out.below hb1 hl0).below hb4 (by have := hb1.size; omega)) (show 0 + 9 ≤ 9 by decide) rfl size_wk rfl ?_; intro w5 bx5 T5))
    have k5 : w5.cell? ⟨g, 5, none⟩ = some (.int .i64 P.c) := (bx5.2 5 _ rfl).1
    have hO4 : (0 : Int) < (a4.O.n : Int) := by have := hn4.oL; omega
    go_upto_region 10 with (first
      | (refine wpList_store_cell rfl 3 _ _ rfl g 5 (.int .i64 c1) (wkC P a4) rfl (by rw [HC1.out]; rfl) rfl rfl bx5 (show 5 < 9 by decide) size_int ?_
         intro w6 bx6 T6
         have k3 : w6.cell? ⟨g, 3, none⟩ = some (.slice a4.O.A a4.O.n a4.O.c) := (bx6.2 3 _ rfl).1
         have k4 : w6.cell? ⟨g, 4, none⟩ = some (.int .i64 P.g) := (bx6.2 4 _ rfl).1
         have k5 : w6.cell? ⟨g, 5, none⟩ = some (.int .i64 c1) := (bx6.2 5 _ rfl).1)
      | (refine wpList_store_cell rfl 3 _ _ rfl g 4 (.int .i64 g1) _ rfl (by rw [HG1.out]; rfl) rfl rfl bx6 (show 4 < 9 by decide) size_int ?_
         intro w7 bx7 T7
         have k5 : w7.cell? ⟨g, 5, none⟩ = some (.int .i64 c1) := (bx7.2 5 _ rfl).1))
    have t5 := T5 (fun k => k = g) rfl
    have t6 := T6 (fun k => k = g) rfl
    have t7 := T7 (fun k => k = g) rfl
    have tz : Touch (fun k => k = g) w4 w7 := (t5.on t6).on t7
    have hATZ : WAt w1.heap.size g w7 P4 a4 := by
      refine ⟨by rw [H4.out]; exact bx7, ?_, by have := hb1.size; omega, by have := hb4.size; have := tz.size; omega⟩
      rw [H4.out]
      exact (hn4.touch tz (fun k hk ho => by have := (hn4.core.lt ho).2; have := hb1.size; omega) (fun k hk ho => by have := (own_lt hn4.open_ ho).2; have := hb1.size; omega)).nums P.x g1 c1
    have hresZ : Box w7 (g + 1) zeroC := ((HX1.out.below hb1 hl1).below hb4 (by have := hb1.size; omega)).touch tz (by omega)
    have hbelZ : Below g w w7 := ((HB0.out.trans (hb1.mono hgw)).trans (hb4.mono (by have := hb1.size; omega))).trans (tz.below (fun k hk => by omega) (by have := hb1.size; have := hb4.size; omega))
    obtain ⟨B, hB⟩ : ∃ B, B = w1.heap.size := ⟨_, rfl⟩
    rw [← hB] at hATZ
    have hgB : g + 1 < B := by have := hb1.size; have := HS0.out; omega
    obtain ⟨wZ, hwZ⟩ : ∃ wZ, wZ = w7 := ⟨_, rfl⟩
    rw [← hwZ] at hATZ hresZ hbelZ ⊢
    clear hwZ bx7 k5 t5 t6 t7 tz T5 T6 T7 bx6 hb1 hb4 hn4 hB
    obtain ⟨AW, nW, cW, hoW⟩ : ∃ A n c, a4.W = ⟨A, n, c⟩ := ⟨_, _, _, rfl⟩
    have HOW := Lib.hid hoW
    have hnW : a4.ms.length = nW := by have := hATZ.new.core.waits.len; rw [hoW] at this; exact this
    have k6 : wZ.cell? ⟨g, 6, none⟩ = some (.slice AW nW cW) := by have := (hATZ.box.2 6 _ rfl).1; rw [hoW] at this; exact this
    have HNW := Lib.hid hnW
    have HEW := Lib.hid hATZ.new.core.eW
    have HEH := Lib.hid hATZ.new.core.eH
    have hnW2 : nW ≤ 300000 := by
      have h1 := len_fst HEW.out
      have h2 := HF4.out.w
      omega
    have HATZ := Lib.hid hATZ
    have HRES := Lib.hid hresZ
    have HBELZ := Lib.hid hbelZ
    have HOS : Hid (Outs wZ.heap.size wZ noAd [] (retryK P4 0) wZ noAd) := outs_start (rowOwn_none wZ _)
    have HT : Hid (∀ wX, Touch (fun k => noAd.v.ownBlock = some k) wZ wX → Below wZ.heap.size wZ wX) := by show ∀ wX, _; exact fun wX hX => hX.below (fun k hk => by simp [noAd, Ad.v, Value.ownBlock] at hk) (Nat.le_refl _)
    have hgl : g < wZ.heap.size := hATZ.box.1
    clear hATZ hresZ hbelZ hoW hnW
    go_wp2_with fail
    go_loopw [6, 41] (fun v i wr => ∃ (k : Nat) (o' : Ad), i = .int .i64 k ∧ v = .slice o'.A o'.n o'.c ∧ k ≤ nW ∧ o'.n ≤ 16 * k ∧ Hid (Outs wZ.heap.size wZ noAd [] (retryK P4 k) wr o')) (fun _ i _ => nW - (intOf i).toNat)
    case atStart => exact ⟨0, noAd, rfl, rfl, Nat.zero_le _, Nat.zero_le _, HOS.out⟩
    case round =>
      clear k6
      obtain ⟨k, o', rfl, rfl, hk, hon, HO⟩ := hrel
      have hbw := HT.out _ HO.out.touch
      have HAT := Lib.hid (HATZ.out.below hbw)
      have HBW := Lib.hid hbw
      have hszw := hbw.size
      by_cases hlt2 : k < nW
      · obtain ⟨x, hx⟩ : ∃ x, a4.ms[k]? = some x := ⟨_, List.getElem?_eq_getElem (by rw [HNW.out]; exact hlt2)⟩
        obtain ⟨gr, cr, hA, hcr, hBg, hgrl, -, hcell, -⟩ := HAT.out.new.core.waits.cells hx
        rw [HOW.out] at hA
        simp only at hA
        subst hA
        have c0 : wr.cell? ⟨gr, k * 2, none⟩ = some (.int .i64 x.1.d) := hcell 0 _ rfl
        have c1' : wr.cell? ⟨gr, k * 2 + 1, none⟩ = some (.slice x.2.A x.2.n x.2.c) := hcell 1 _ rfl
        have hxm := List.mem_of_getElem? hx
        have hPx : P4.W[k]? = some x.1 := by rw [← HEW.out, List.getElem?_map, hx]; rfl
        have HNX := Lib.hid (retryK_next hPx)
        have HXM := Lib.hid hxm
        have HSX : Hid (x.1.S.length ≤ 300000) := HF4.out.s _ (mem_fst HEW.out hxm)
        clear hx hcell hcr hbw hxm hPx
        have i0' : (0 : Int) ≤ (k : Int) := by omega
        have i1 : (k : Int) < (nW : Int) := by omega
        go_upto_region 14 with fail
        obtain ⟨w2, hw2⟩ : ∃ w2, w2 = wr.alloc (.cells #[.int .i64 x.1.d, .slice x.2.A x.2.n x.2.c] 56) := ⟨_, rfl⟩
        rw [← hw2]
        have hb2 : Below wr.heap.size wr w2 := by rw [hw2]; exact (Below.refl _ _).alloc (Nat.le_refl _) _
        have bx2 : Box w2 wr.heap.size [.int .i64 x.1.d, .slice x.2.A x.2.n x.2.c] := by rw [hw2]; exact box_new wr _ _
        have hAT2 := HAT.out.below hb2
        have y0 : w2.cell? ⟨wr.heap.size, 0, none⟩ = some (.int .i64 x.1.d) := (bx2.2 0 _ rfl).1
        have hfind := findHeld_any P4 a4 x.1.d w2 hAT2.new.in_.held HEH.out (by have := HF4.out.h; omega) HR4.out
        obtain ⟨p, hpe⟩ : ∃ p, p = posI P4.hs x.1.d := ⟨_, rfl⟩
        rw [← hpe] at hfind
        clear hw2 c0 c1'
        by_cases hin : x.1.d ∈ P4.hs
        · rw [decide_eq_true hin] at hfind
          have HFD := Lib.hid hfind
          have hda := (mem_posI HR4.out).1 hin
          rw [← hpe, WkD.hs, List.getElem?_map, ← HEH.out, List.getElem?_map] at hda
          obtain ⟨y, hy⟩ : ∃ y, a4.hs[p]? = some y := by
            cases hq : a4.hs[p]? with
            | none => rw [hq] at hda; simp at hda
            | some y => exact ⟨y, rfl⟩
          have HN : Hid (retryK P4 (k + 1) = retryK P4 k ++ askW P4 x.1.d y.1.a y.1.n y.1.L x.1.S) := by
            show _ = _
            rw [HNX.out, lookH_at (x := y.1) HR4.out (by show P4.H[posI P4.hs x.1.d]? = some y.1; rw [← hpe, ← HEH.out, List.getElem?_map, hy]; rfl) hin]
          have hym := List.mem_of_getElem? hy
          have HLY : Hid (y.1.L.length ≤ 300000) := HF4.out.l _ (mem_fst HEH.out hym)
          have HY := Lib.hid hy
          have HYM := Lib.hid hym
          clear hfind hda hin hpe hym hy
          go_upto_region 16 with (first
            | (refine wpList_load_box rfl 27 _ rfl g rfl (wkC P4 a4) (hAT2.box) _ Tryz.underlying27 rfl size_wk ?_)
            | (go_at_call 89; refine HFD.out.mono ?_; rintro e w3 ⟨rfl, hb3⟩))
          have hAT3 := hAT2.below hb3
          have bx3 := bx2.below hb3 bx2.1
          have hb13 : Below wr.heap.size wr w3 := hb2.trans (hb3.mono hb2.size)
          obtain ⟨gh, ch, hAH, hcH, -, hghl, hpn, hcellH, -⟩ := hAT3.new.core.held.cells HY.out
          obtain ⟨k0, k1, k2, k3, k4, k5, k6, k7, k8⟩ := wk_cells hAT3.box
          rw [hAH, hcH] at k7
          have z0 : w3.cell? ⟨wr.heap.size, 0, none⟩ = some (.int .i64 x.1.d) := (bx3.2 0 _ rfl).1
          have z1 : w3.cell? ⟨wr.heap.size, 1, none⟩ = some (.slice x.2.A x.2.n x.2.c) := (bx3.2 1 _ rfl).1
          have m1 : w3.cell? ⟨gh, p * 4 + 1, none⟩ = some (.int .i64 y.1.a) := hcellH 1 _ rfl
          have m2 : w3.cell? ⟨gh, p * 4 + 2, none⟩ = some (.int .i64 y.1.n) := hcellH 2 _ rfl
          have m3 : w3.cell? ⟨gh, p * 4 + 3, none⟩ = some (.slice y.2.A y.2.n y.2.c) := hcellH 3 _ rfl
          have HO3 := Lib.hid (HO.out.skip hb13)
          obtain ⟨ms', hrow, hmap⟩ := HO3.out.row
          have HRW := Lib.hid hrow
          have HMAP := Lib.hid hmap
          have hln : ms'.length = o'.n := by have := hrow.len; simpa using this
          have HST : Hid (∀ wX, Touch (fun k => o'.v.ownBlock = some k) w3.drew wX → SlIn wX y.2 y.1.L.length (txs y.1.L) ∧ SlIn wX x.2 x.1.S.length (i64s x.1.S)) := by
            show ∀ wX, _
            intro wX hX
            have hfar : ∀ k, o'.v.ownBlock = some k → wZ.heap.size ≤ k := fun k hk => (own_lt hrow.row hk).2
            have o1 := (hAT3.new.core.held.sub y HYM.out)
            have o2 := (hAT3.new.core.waits.sub x HXM.out)
            have q1 := (HATZ.out.new.core.held.sub y HYM.out).1
            have q2 := (HATZ.out.new.core.waits.sub x HXM.out).1
            refine ⟨(slIn_own o1.1 o1.2).drew.touch hX (fun ad hd hf => ?_), (slIn_own o2.1 o2.2).drew.touch hX (fun ad hd hf => ?_)⟩
            · have := hfar _ hf
              have := (own_lt q1 (g := ad.block) (by rw [Ad.v, hd]; rfl)).1
              omega
            · have := hfar _ hf
              have := (own_lt q2 (g := ad.block) (by rw [Ad.v, hd]; rfl)).1
              omega
          have p0 : (0 : Int) ≤ (p : Int) := by omega
          have p1 : (p : Int) < (a4.H.n : Int) := by omega
          have hs3 := hb13.size
          clear hAT3 bx3 hcellH hrow hmap hb13 hAT2 bx2 hb2 hb3 y0 hAH
          go_still_tail 12, (by kernel_rfl)
          change wpList _ _ _ _ _ w3.drew
          go_wp2_with (first
            | (go_at_call 95
               refine (ask_any wZ.heap.size P4 { a4 with H := ⟨some ⟨gh, 0, none⟩, a4.H.n, ch⟩ } x.1.d y.1.a y.1.n y.2 y.1.L x.2 x.1.S o' ([] ++ ms') _ HN16.out (by have := HLY.out; omega) (by have := HSX.out; omega) HST.out (HRW.out.below ((Below.refl _ _).drew)) (by rw [List.nil_append]; omega) (by show wZ.heap.size ≤ w3.heap.size; omega)).mono ?_
               rintro e w4' ⟨⟨A2, n2, c2'⟩, rfl, hO4'⟩
               dsimp only [Ad.v]))
          have hcomp := HO3.out.comp HMAP.out (hO4'.base ((Below.refl _ _).drew))
          rw [← HN.out] at hcomp
          have hn2 : n2 ≤ 16 * (k + 1) := by
            obtain ⟨m2', r1, r2⟩ := hO4'.row
            have e1 := r1.len
            have e2 := congrArg List.length r2
            have e3 := askW_len (d := x.1.d) (a := y.1.a) (n := y.1.n) (L := y.1.L) (S := x.1.S) (show P4.N ≤ 16 from HN16.out.2)
            simp only [List.length_append, List.length_map, List.nil_append] at e1 e2
            omega
          have HCOMP := Lib.hid hcomp
          clear hcomp hO4' k0 k1 k2 k3 k4 k5 k6 k7 k8 z0 z1 m1 m2 m3
          go_roundw
          case rel => exact ⟨k + 1, ⟨A2, n2, c2'⟩, by go_num, rfl, by omega, hn2, HCOMP.out⟩
          case measure => simp [intOf]; omega
        · rw [decide_eq_false hin] at hfind
          have HFD := Lib.hid hfind
          have HN : Hid (retryK P4 (k + 1) = retryK P4 k) := by show _ = _; rw [HNX.out, lookH_no hin, List.append_nil]
          clear hfind hin hpe
          go_wp2_with (first
            | (refine wpList_load_box rfl 27 _ rfl g rfl (wkC P4 a4) (hAT2.box) _ Tryz.underlying27 rfl size_wk ?_)
            | (go_at_call 89; refine HFD.out.mono ?_; rintro e w3 ⟨rfl, hb3⟩))
          go_roundw
          case rel => exact ⟨k + 1, o', by go_num, rfl, by omega, by omega, by show Outs _ _ _ _ _ _ _; rw [HN.out]; exact HO.out.skip (hb2.trans (hb3.mono hb2.size))⟩
          case measure => simp [intOf]; omega
      · have i1 : ¬ ((k : Int) < (nW : Int)) := by omega
        have hresW : Box wr (g + 1) zeroC := HRES.out.below hbw HRES.out.1
        obtain ⟨ms', hrow, hmap⟩ := HO.out.row
        rw [List.nil_append] at hrow
        have hms : ms'.map Prod.fst = tickO P := by
          rw [HOT.out, hmap]
          refine retryK_all ?_
          have h1 := len_fst HEW.out
          have h2 := HNW.out
          omega
        have hATW := HAT.out
        have hbelW : Below g w wr := HBELZ.out.trans (hbw.mono (by omega))
        have hCB : B ≤ wZ.heap.size := HATZ.out.le
        have hfarO : ∀ y ∈ ms', ∀ k, y.2.v.ownBlock = some k → a4.O.v.ownBlock ≠ some k ∧ ∀ z ∈ a4.hs, z.2.v.ownBlock ≠ some k := fun y hy k hk => ⟨fun ho => by
          have := (own_lt HATZ.out.new.open_ ho).1
          have := (own_lt (hrow.sub y hy).1 hk).2
          omega, fun z hz ho => by
          have := (own_lt (HATZ.out.new.core.held.sub z hz).1 ho).1
          have := (own_lt (hrow.sub y hy).1 hk).2
          omega⟩
        clear hbw
        go_wp2_with (first
          | (refine wpList_load_box rfl 27 _ rfl g rfl (wkC P4 a4) (hATW.box) _ Tryz.underlying27 rfl size_wk ?_)
          | (refine wpList_store_box rfl 27 _ _ rfl (g + 1) 0 (wkC P4 a4) zeroC (wkC P4 a4) rfl rfl hresW (show 0 + 9 ≤ 9 by decide) rfl size_wk rfl ?_; intro wE bxE TE))
        have tE := TE (fun k => k = g + 1) rfl
        have hrowZ := hrow
        have hrow2 := hrowZ.touch tE (fun k hk hf => by have := (own_lt hrowZ.row hk).2; omega) (fun y hy k hk hf => by have := (own_lt (hrowZ.sub y hy).1 hk).2; omega)
        have hbel : Below g w wE := hbelW.trans (tE.below (fun k hk => by omega) (by have := hresW.1; omega))
        obtain ⟨r0, r1, r2, r3, r4, r5, r6, r7, r8⟩ := wk_cells bxE
        refine bodyPost_ret (v := .tuple #[wkV P4 a4, .slice o'.A o'.n o'.c, .int .i64 0]) (by simp [results, Tryz.results60, go_sem, r0, r1, r2, r3, r4, r5, r6, r7, r8, wkV, Ad.v]) rfl ⟨a4, o', ms', by rw [HE.out, HP4.out]; rfl, ?_, hrow2.more (by rw [HG.out]; omega), by rw [HE.out]; exact hms, hfarO, by rw [HG.out]; exact hbel⟩
        rw [HE.out, HG.out]
        show WNew g wE (tickW P) a4
        rw [← HP4.out]
        exact (hATW.new.touch tE (fun k hk ho => by have := (hATW.new.core.lt ho).2; omega) (fun k hk ho => by have := (own_lt hATW.new.open_ ho).2; omega)).more (by omega)
  · have H4 : Hid (P4 = { P with c := c1, g := P.g }) := by show _ = _; rw [hP4, tickW, if_neg hO, hc1]
    clear hcheck hin0 h hf hmw hmay hc1 hg1 hP4 e4 hr
    go_enter Tryz.func60, Tryz.ntmps60
    go_upto_region 1 with fail
    rw [HG.out, HW0.out]
    go_upto_region 5 with (first
      | (refine wpList_load_box rfl 27 _ rfl g rfl (wkC P a) (HX0.out) _ Tryz.underlying27 rfl size_wk ?_)
      | (go_at_call 18; refine HCK.out.mono ?_; rintro e w1 ⟨rfl, hb1⟩)
      | (refine wpList_load_box rfl 27 _ rfl g rfl (wkC P a) (HX0.out.below hb1 hl0) _ Tryz.underlying27 rfl size_wk ?_)
      | (go_at_call 90; refine (clone_any P a w1 (HIN.out _ hb1) (HF.out.more (by decide))).mono ?_; rintro e w4 ⟨a4, rfl, hn4, hb4⟩)
      | (refine wpList_store_box rfl 27 _ _ rfl g 0 (wkC P a4) (wkC P a) (wkC P a4) rfl rfl ((HX0.out.below hb1 hl0).below hb4 (by have := hb1.size; omega)) (show 0 + 9 ≤ 9 by decide) rfl size_wk rfl ?_; intro w5 bx5 T5))
    have k5 : w5.cell? ⟨g, 5, none⟩ = some (.int .i64 P.c) := (bx5.2 5 _ rfl).1
    have hO4 : ¬ ((0 : Int) < (a4.O.n : Int)) := by have := hn4.oL; omega
    go_upto_region 10 with (first
      | (refine wpList_store_cell rfl 3 _ _ rfl g 5 (.int .i64 c1) (wkC P a4) rfl (by rw [HC1.out]; rfl) rfl rfl bx5 (show 5 < 9 by decide) size_int ?_
         intro w6 bx6 T6
         have k3 : w6.cell? ⟨g, 3, none⟩ = some (.slice a4.O.A a4.O.n a4.O.c) := (bx6.2 3 _ rfl).1
         have k4 : w6.cell? ⟨g, 4, none⟩ = some (.int .i64 P.g) := (bx6.2 4 _ rfl).1
         have k5 : w6.cell? ⟨g, 5, none⟩ = some (.int .i64 c1) := (bx6.2 5 _ rfl).1))
    have t5 := T5 (fun k => k = g) rfl
    have t6 := T6 (fun k => k = g) rfl
    have tz : Touch (fun k => k = g) w4 w6 := t5.on t6
    have hATZ : WAt w1.heap.size g w6 P4 a4 := by
      refine ⟨by rw [H4.out]; exact bx6, ?_, by have := hb1.size; omega, by have := hb4.size; have := tz.size; omega⟩
      rw [H4.out]
      exact (hn4.touch tz (fun k hk ho => by have := (hn4.core.lt ho).2; have := hb1.size; omega) (fun k hk ho => by have := (own_lt hn4.open_ ho).2; have := hb1.size; omega)).nums P.x P.g c1
    have hresZ : Box w6 (g + 1) zeroC := ((HX1.out.below hb1 hl1).below hb4 (by have := hb1.size; omega)).touch tz (by omega)
    have hbelZ : Below g w w6 := ((HB0.out.trans (hb1.mono hgw)).trans (hb4.mono (by have := hb1.size; omega))).trans (tz.below (fun k hk => by omega) (by have := hb1.size; have := hb4.size; omega))
    obtain ⟨B, hB⟩ : ∃ B, B = w1.heap.size := ⟨_, rfl⟩
    rw [← hB] at hATZ
    have hgB : g + 1 < B := by have := hb1.size; have := HS0.out; omega
    obtain ⟨wZ, hwZ⟩ : ∃ wZ, wZ = w6 := ⟨_, rfl⟩
    rw [← hwZ] at hATZ hresZ hbelZ ⊢
    clear hwZ bx6 k5 t5 t6 tz T5 T6 hb1 hb4 hn4 hB
    obtain ⟨AW, nW, cW, hoW⟩ : ∃ A n c, a4.W = ⟨A, n, c⟩ := ⟨_, _, _, rfl⟩
    have HOW := Lib.hid hoW
    have hnW : a4.ms.length = nW := by have := hATZ.new.core.waits.len; rw [hoW] at this; exact this
    have k6 : wZ.cell? ⟨g, 6, none⟩ = some (.slice AW nW cW) := by have := (hATZ.box.2 6 _ rfl).1; rw [hoW] at this; exact this
    have HNW := Lib.hid hnW
    have HEW := Lib.hid hATZ.new.core.eW
    have HEH := Lib.hid hATZ.new.core.eH
    have hnW2 : nW ≤ 300000 := by
      have h1 := len_fst HEW.out
      have h2 := HF4.out.w
      omega
    have HATZ := Lib.hid hATZ
    have HRES := Lib.hid hresZ
    have HBELZ := Lib.hid hbelZ
    have HOS : Hid (Outs wZ.heap.size wZ noAd [] (retryK P4 0) wZ noAd) := outs_start (rowOwn_none wZ _)
    have HT : Hid (∀ wX, Touch (fun k => noAd.v.ownBlock = some k) wZ wX → Below wZ.heap.size wZ wX) := by show ∀ wX, _; exact fun wX hX => hX.below (fun k hk => by simp [noAd, Ad.v, Value.ownBlock] at hk) (Nat.le_refl _)
    have hgl : g < wZ.heap.size := hATZ.box.1
    clear hATZ hresZ hbelZ hoW hnW
    go_wp2_with fail
    go_loopw [6, 41] (fun v i wr => ∃ (k : Nat) (o' : Ad), i = .int .i64 k ∧ v = .slice o'.A o'.n o'.c ∧ k ≤ nW ∧ o'.n ≤ 16 * k ∧ Hid (Outs wZ.heap.size wZ noAd [] (retryK P4 k) wr o')) (fun _ i _ => nW - (intOf i).toNat)
    case atStart => exact ⟨0, noAd, rfl, rfl, Nat.zero_le _, Nat.zero_le _, HOS.out⟩
    case round =>
      clear k6
      obtain ⟨k, o', rfl, rfl, hk, hon, HO⟩ := hrel
      have hbw := HT.out _ HO.out.touch
      have HAT := Lib.hid (HATZ.out.below hbw)
      have HBW := Lib.hid hbw
      have hszw := hbw.size
      by_cases hlt2 : k < nW
      · obtain ⟨x, hx⟩ : ∃ x, a4.ms[k]? = some x := ⟨_, List.getElem?_eq_getElem (by rw [HNW.out]; exact hlt2)⟩
        obtain ⟨gr, cr, hA, hcr, hBg, hgrl, -, hcell, -⟩ := HAT.out.new.core.waits.cells hx
        rw [HOW.out] at hA
        simp only at hA
        subst hA
        have c0 : wr.cell? ⟨gr, k * 2, none⟩ = some (.int .i64 x.1.d) := hcell 0 _ rfl
        have c1' : wr.cell? ⟨gr, k * 2 + 1, none⟩ = some (.slice x.2.A x.2.n x.2.c) := hcell 1 _ rfl
        have hxm := List.mem_of_getElem? hx
        have hPx : P4.W[k]? = some x.1 := by rw [← HEW.out, List.getElem?_map, hx]; rfl
        have HNX := Lib.hid (retryK_next hPx)
        have HXM := Lib.hid hxm
        have HSX : Hid (x.1.S.length ≤ 300000) := HF4.out.s _ (mem_fst HEW.out hxm)
        clear hx hcell hcr hbw hxm hPx
        have i0' : (0 : Int) ≤ (k : Int) := by omega
        have i1 : (k : Int) < (nW : Int) := by omega
        go_upto_region 14 with fail
        obtain ⟨w2, hw2⟩ : ∃ w2, w2 = wr.alloc (.cells #[.int .i64 x.1.d, .slice x.2.A x.2.n x.2.c] 56) := ⟨_, rfl⟩
        rw [← hw2]
        have hb2 : Below wr.heap.size wr w2 := by rw [hw2]; exact (Below.refl _ _).alloc (Nat.le_refl _) _
        have bx2 : Box w2 wr.heap.size [.int .i64 x.1.d, .slice x.2.A x.2.n x.2.c] := by rw [hw2]; exact box_new wr _ _
        have hAT2 := HAT.out.below hb2
        have y0 : w2.cell? ⟨wr.heap.size, 0, none⟩ = some (.int .i64 x.1.d) := (bx2.2 0 _ rfl).1
        have hfind := findHeld_any P4 a4 x.1.d w2 hAT2.new.in_.held HEH.out (by have := HF4.out.h; omega) HR4.out
        obtain ⟨p, hpe⟩ : ∃ p, p = posI P4.hs x.1.d := ⟨_, rfl⟩
        rw [← hpe] at hfind
        clear hw2 c0 c1'
        by_cases hin : x.1.d ∈ P4.hs
        · rw [decide_eq_true hin] at hfind
          have HFD := Lib.hid hfind
          have hda := (mem_posI HR4.out).1 hin
          rw [← hpe, WkD.hs, List.getElem?_map, ← HEH.out, List.getElem?_map] at hda
          obtain ⟨y, hy⟩ : ∃ y, a4.hs[p]? = some y := by
            cases hq : a4.hs[p]? with
            | none => rw [hq] at hda; simp at hda
            | some y => exact ⟨y, rfl⟩
          have HN : Hid (retryK P4 (k + 1) = retryK P4 k ++ askW P4 x.1.d y.1.a y.1.n y.1.L x.1.S) := by
            show _ = _
            rw [HNX.out, lookH_at (x := y.1) HR4.out (by show P4.H[posI P4.hs x.1.d]? = some y.1; rw [← hpe, ← HEH.out, List.getElem?_map, hy]; rfl) hin]
          have hym := List.mem_of_getElem? hy
          have HLY : Hid (y.1.L.length ≤ 300000) := HF4.out.l _ (mem_fst HEH.out hym)
          have HY := Lib.hid hy
          have HYM := Lib.hid hym
          clear hfind hda hin hpe hym hy
          go_upto_region 16 with (first
            | (refine wpList_load_box rfl 27 _ rfl g rfl (wkC P4 a4) (hAT2.box) _ Tryz.underlying27 rfl size_wk ?_)
            | (go_at_call 89; refine HFD.out.mono ?_; rintro e w3 ⟨rfl, hb3⟩))
          have hAT3 := hAT2.below hb3
          have bx3 := bx2.below hb3 bx2.1
          have hb13 : Below wr.heap.size wr w3 := hb2.trans (hb3.mono hb2.size)
          obtain ⟨gh, ch, hAH, hcH, -, hghl, hpn, hcellH, -⟩ := hAT3.new.core.held.cells HY.out
          obtain ⟨k0, k1, k2, k3, k4, k5, k6, k7, k8⟩ := wk_cells hAT3.box
          rw [hAH, hcH] at k7
          have z0 : w3.cell? ⟨wr.heap.size, 0, none⟩ = some (.int .i64 x.1.d) := (bx3.2 0 _ rfl).1
          have z1 : w3.cell? ⟨wr.heap.size, 1, none⟩ = some (.slice x.2.A x.2.n x.2.c) := (bx3.2 1 _ rfl).1
          have m1 : w3.cell? ⟨gh, p * 4 + 1, none⟩ = some (.int .i64 y.1.a) := hcellH 1 _ rfl
          have m2 : w3.cell? ⟨gh, p * 4 + 2, none⟩ = some (.int .i64 y.1.n) := hcellH 2 _ rfl
          have m3 : w3.cell? ⟨gh, p * 4 + 3, none⟩ = some (.slice y.2.A y.2.n y.2.c) := hcellH 3 _ rfl
          have HO3 := Lib.hid (HO.out.skip hb13)
          obtain ⟨ms', hrow, hmap⟩ := HO3.out.row
          have HRW := Lib.hid hrow
          have HMAP := Lib.hid hmap
          have hln : ms'.length = o'.n := by have := hrow.len; simpa using this
          have HST : Hid (∀ wX, Touch (fun k => o'.v.ownBlock = some k) w3.drew wX → SlIn wX y.2 y.1.L.length (txs y.1.L) ∧ SlIn wX x.2 x.1.S.length (i64s x.1.S)) := by
            show ∀ wX, _
            intro wX hX
            have hfar : ∀ k, o'.v.ownBlock = some k → wZ.heap.size ≤ k := fun k hk => (own_lt hrow.row hk).2
            have o1 := (hAT3.new.core.held.sub y HYM.out)
            have o2 := (hAT3.new.core.waits.sub x HXM.out)
            have q1 := (HATZ.out.new.core.held.sub y HYM.out).1
            have q2 := (HATZ.out.new.core.waits.sub x HXM.out).1
            refine ⟨(slIn_own o1.1 o1.2).drew.touch hX (fun ad hd hf => ?_), (slIn_own o2.1 o2.2).drew.touch hX (fun ad hd hf => ?_)⟩
            · have := hfar _ hf
              have := (own_lt q1 (g := ad.block) (by rw [Ad.v, hd]; rfl)).1
              omega
            · have := hfar _ hf
              have := (own_lt q2 (g := ad.block) (by rw [Ad.v, hd]; rfl)).1
              omega
          have p0 : (0 : Int) ≤ (p : Int) := by omega
          have p1 : (p : Int) < (a4.H.n : Int) := by omega
          have hs3 := hb13.size
          clear hAT3 bx3 hcellH hrow hmap hb13 hAT2 bx2 hb2 hb3 y0 hAH
          go_still_tail 12, (by kernel_rfl)
          change wpList _ _ _ _ _ w3.drew
          go_wp2_with (first
            | (go_at_call 95
               refine (ask_any wZ.heap.size P4 { a4 with H := ⟨some ⟨gh, 0, none⟩, a4.H.n, ch⟩ } x.1.d y.1.a y.1.n y.2 y.1.L x.2 x.1.S o' ([] ++ ms') _ HN16.out (by have := HLY.out; omega) (by have := HSX.out; omega) HST.out (HRW.out.below ((Below.refl _ _).drew)) (by rw [List.nil_append]; omega) (by show wZ.heap.size ≤ w3.heap.size; omega)).mono ?_
               rintro e w4' ⟨⟨A2, n2, c2'⟩, rfl, hO4'⟩
               dsimp only [Ad.v]))
          have hcomp := HO3.out.comp HMAP.out (hO4'.base ((Below.refl _ _).drew))
          rw [← HN.out] at hcomp
          have hn2 : n2 ≤ 16 * (k + 1) := by
            obtain ⟨m2', r1, r2⟩ := hO4'.row
            have e1 := r1.len
            have e2 := congrArg List.length r2
            have e3 := askW_len (d := x.1.d) (a := y.1.a) (n := y.1.n) (L := y.1.L) (S := x.1.S) (show P4.N ≤ 16 from HN16.out.2)
            simp only [List.length_append, List.length_map, List.nil_append] at e1 e2
            omega
          have HCOMP := Lib.hid hcomp
          clear hcomp hO4' k0 k1 k2 k3 k4 k5 k6 k7 k8 z0 z1 m1 m2 m3
          go_roundw
          case rel => exact ⟨k + 1, ⟨A2, n2, c2'⟩, by go_num, rfl, by omega, hn2, HCOMP.out⟩
          case measure => simp [intOf]; omega
        · rw [decide_eq_false hin] at hfind
          have HFD := Lib.hid hfind
          have HN : Hid (retryK P4 (k + 1) = retryK P4 k) := by show _ = _; rw [HNX.out, lookH_no hin, List.append_nil]
          clear hfind hin hpe
          go_wp2_with (first
            | (refine wpList_load_box rfl 27 _ rfl g rfl (wkC P4 a4) (hAT2.box) _ Tryz.underlying27 rfl size_wk ?_)
            | (go_at_call 89; refine HFD.out.mono ?_; rintro e w3 ⟨rfl, hb3⟩))
          go_roundw
          case rel => exact ⟨k + 1, o', by go_num, rfl, by omega, by omega, by show Outs _ _ _ _ _ _ _; rw [HN.out]; exact HO.out.skip (hb2.trans (hb3.mono hb2.size))⟩
          case measure => simp [intOf]; omega
      · have i1 : ¬ ((k : Int) < (nW : Int)) := by omega
        have hresW : Box wr (g + 1) zeroC := HRES.out.below hbw HRES.out.1
        obtain ⟨ms', hrow, hmap⟩ := HO.out.row
        rw [List.nil_append] at hrow
        have hms : ms'.map Prod.fst = tickO P := by
          rw [HOT.out, hmap]
          refine retryK_all ?_
          have h1 := len_fst HEW.out
          have h2 := HNW.out
          omega
        have hATW := HAT.out
        have hbelW : Below g w wr := HBELZ.out.trans (hbw.mono (by omega))
        have hCB : B ≤ wZ.heap.size := HATZ.out.le
        have hfarO : ∀ y ∈ ms', ∀ k, y.2.v.ownBlock = some k → a4.O.v.ownBlock ≠ some k ∧ ∀ z ∈ a4.hs, z.2.v.ownBlock ≠ some k := fun y hy k hk => ⟨fun ho => by
          have := (own_lt HATZ.out.new.open_ ho).1
          have := (own_lt (hrow.sub y hy).1 hk).2
          omega, fun z hz ho => by
          have := (own_lt (HATZ.out.new.core.held.sub z hz).1 ho).1
          have := (own_lt (hrow.sub y hy).1 hk).2
          omega⟩
        clear hbw
        go_wp2_with (first
          | (refine wpList_load_box rfl 27 _ rfl g rfl (wkC P4 a4) (hATW.box) _ Tryz.underlying27 rfl size_wk ?_)
          | (refine wpList_store_box rfl 27 _ _ rfl (g + 1) 0 (wkC P4 a4) zeroC (wkC P4 a4) rfl rfl hresW (show 0 + 9 ≤ 9 by decide) rfl size_wk rfl ?_; intro wE bxE TE))
        have tE := TE (fun k => k = g + 1) rfl
        have hrowZ := hrow
        have hrow2 := hrowZ.touch tE (fun k hk hf => by have := (own_lt hrowZ.row hk).2; omega) (fun y hy k hk hf => by have := (own_lt (hrowZ.sub y hy).1 hk).2; omega)
        have hbel : Below g w wE := hbelW.trans (tE.below (fun k hk => by omega) (by have := hresW.1; omega))
        obtain ⟨r0, r1, r2, r3, r4, r5, r6, r7, r8⟩ := wk_cells bxE
        refine bodyPost_ret (v := .tuple #[wkV P4 a4, .slice o'.A o'.n o'.c, .int .i64 0]) (by simp [results, Tryz.results60, go_sem, r0, r1, r2, r3, r4, r5, r6, r7, r8, wkV, Ad.v]) rfl ⟨a4, o', ms', by rw [HE.out, HP4.out]; rfl, ?_, hrow2.more (by rw [HG.out]; omega), by rw [HE.out]; exact hms, hfarO, by rw [HG.out]; exact hbel⟩
        rw [HE.out, HG.out]
        show WNew g wE (tickW P) a4
        rw [← HP4.out]
        exact (hATW.new.touch tE (fun k hk ho => by have := (hATW.new.core.lt ho).2; omega) (fun k hk ho => by have := (own_lt hATW.new.open_ ho).2; omega)).more (by omega)

end Go.Proofs.YteepobghdpnabaaGreat
