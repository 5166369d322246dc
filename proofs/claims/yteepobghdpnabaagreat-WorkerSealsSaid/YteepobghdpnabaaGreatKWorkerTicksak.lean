/-
  Package worker's Tick: what is refused; what is asked again, one wait after another.
-/
import Derived.Lib.MinMax
import Derived.StillTailTactics
import Derived.Test.YteepobghdpnabaaGreatKWorkerTicksaj
namespace Go.Proofs.YteepobghdpnabaaGreat
open Go.RowKit

set_option maxRecDepth 100000 in
set_option maxHeartbeats 16000000 in
theorem tick_no (P : WkD) (a : WkA) (w : World) (h : WIn w P a) (hf : WFew P 300000) (hmay : mayW P = false) : Calls Tryz.prog 60 #[wkV P a] w (Ret3 (orW (ifMay P 0) (tickW P)) (orO (ifMay P 0) (tickO P)) (ifMay P 0) w) := by
  obtain ⟨g, hg⟩ : ∃ g, g = w.heap.size := ⟨_, rfl⟩
  obtain ⟨wa0, hwa0⟩ : ∃ wa0, wa0 = w.alloc (.cells #[.int .i64 P.i, .int .i64 P.N, .int .i64 P.x, .slice a.O.A a.O.n a.O.c, .int .i64 P.g, .int .i64 P.c, .slice a.W.A a.W.n a.W.c, .slice a.H.A a.H.n a.H.c, .slice a.R.A a.R.n a.R.c] 27) := ⟨_, rfl⟩
  have hs0 : wa0.heap.size = g + 1 := by rw [hwa0]; simp; omega
  have bn0 : Box wa0 (g) (wkC P a) := by rw [hwa0, hg]; exact box_new w (wkC P a) 27
  have hb0 : Below g w wa0 := by rw [hwa0]; exact (Below.refl _ _).alloc (by omega) _
  obtain ⟨wa1, hwa1⟩ : ∃ wa1, wa1 = wa0.alloc (.cells #[.int .i64 0, .int .i64 0, .int .i64 0, .slice none 0 0, .int .i64 0, .int .i64 0, .slice none 0 0, .slice none 0 0, .slice none 0 0] 27) := ⟨_, rfl⟩
  have hs1 : wa1.heap.size = g + 2 := by rw [hwa1]; simp; omega
  have bn1 : Box wa1 (g + 1) (zeroC) := by rw [hwa1, ← hs0]; exact box_new wa0 (zeroC) 27
  have hb1 : Below g w wa1 := by rw [hwa1]; exact hb0.alloc (by omega) _
  have HX0 : Hid (Box wa1 (g) (wkC P a)) := (bn0.below (show Below wa0.heap.size wa0 wa1 by rw [hwa1]; exact (Below.refl _ _).alloc (Nat.le_refl _) _) (by omega))
  have HX1 : Hid (Box wa1 (g + 1) (zeroC)) := bn1
  obtain ⟨w0, hw0⟩ : ∃ w0, w0 = wa1 := ⟨_, rfl⟩
  rw [← hw0] at HX0
  rw [← hw0] at HX1
  have hsz0 : w0.heap.size = g + 2 := by rw [hw0]; exact hs1
  have hb0w : Below g w w0 := by rw [hw0]; exact hb1
  have HW0 : Hid ((w.alloc (.cells #[.int .i64 P.i, .int .i64 P.N, .int .i64 P.x, .slice a.O.A a.O.n a.O.c, .int .i64 P.g, .int .i64 P.c, .slice a.W.A a.W.n a.W.c, .slice a.H.A a.H.n a.H.c, .slice a.R.A a.R.n a.R.c] 27)).alloc (.cells #[.int .i64 0, .int .i64 0, .int .i64 0, .slice none 0 0, .int .i64 0, .int .i64 0, .slice none 0 0, .slice none 0 0, .slice none 0 0] 27) = w0) := by show (w.alloc (.cells #[.int .i64 P.i, .int .i64 P.N, .int .i64 P.x, .slice a.O.A a.O.n a.O.c, .int .i64 P.g, .int .i64 P.c, .slice a.W.A a.W.n a.W.c, .slice a.H.A a.H.n a.H.c, .slice a.R.A a.R.n a.R.c] 27)).alloc (.cells #[.int .i64 0, .int .i64 0, .int .i64 0, .slice none 0 0, .int .i64 0, .int .i64 0, .slice none 0 0, .slice none 0 0, .slice none 0 0] 27) = w0; rw [hw0, hwa1, hwa0]
  have HG : Hid (w.heap.size = g) := hg.symm
  have HS0 := Lib.hid hsz0
  have HB0 := Lib.hid hb0w
  have hl0 : g < w0.heap.size := by omega
  have hl1 : g + 1 < w0.heap.size := by omega
  have hgw : g ≤ w0.heap.size := by omega
  have hin0 := h.below' HB0.out HG.out
  have HIN : Hid (∀ wX, Below w0.heap.size w0 wX → WIn wX P a) := by show ∀ wX, _; exact fun wX hX => hin0.below hX
  have HF := Lib.hid hf
  have hcheck := check_is (mayW P) P a w0 rfl hin0 (hf.more (by decide))
  rw [hmay] at hcheck
  have HCK := Lib.hid hcheck
  have HE : Hid (ifMay P 0 = 1) := ifMay_no hmay 0
  clear hg hsz0 hb0w hw0 hwa0 hs0 bn0 hb0 hwa1 hs1 bn1 hb1
  clear hcheck hin0 h hf
  unfold wkV Ad.v
  go_enter Tryz.func60, Tryz.ntmps60
  go_upto_region 1 with fail
  rw [HG.out, HW0.out]
  go_wp2_with (first
    | (refine wpList_load_box rfl 27 _ rfl g rfl (wkC P a) (HX0.out) _ Tryz.underlying27 rfl size_wk ?_)
    | (go_at_call 18; refine HCK.out.mono ?_; rintro e w1 ⟨rfl, hb1⟩)
    | (refine wpList_store_box rfl 27 _ _ rfl (g + 1) 0 zeroC zeroC zeroC rfl rfl (HX1.out.below hb1 hl1) (show 0 + 9 ≤ 9 by decide) rfl size_wk rfl ?_; intro w9 bx9 T9))
  obtain ⟨r0, r1, r2, r3, r4, r5, r6, r7, r8⟩ := zero_cells bx9
  have t9 := T9 (fun k => k = g + 1) rfl
  refine bodyPost_ret (v := .tuple #[wkV zeroW zeroWA, .slice none 0 0, .int .i64 1]) (by simp [results, Tryz.results60, go_sem, r0, r1, r2, r3, r4, r5, r6, r7, r8, wkV, Ad.v, zeroW, zeroWA, noAd, okV]) rfl ⟨zeroWA, noAd, [], by rw [HE.out]; rfl, by rw [HE.out]; exact wNew_zero _ _, rowOwn_none _ _, by rw [HE.out]; rfl, fun y hy => by simp at hy, ?_⟩
  have hz9 := hb1.size
  rw [HG.out]
  exact (HB0.out.trans (hb1.mono hgw)).trans (t9.below (fun k hk => by omega) (by omega))

/-- what is asked again for the first waits -/
def retryK (P : WkD) (k : Nat) : List OtD := (P.W.take k).flatMap fun x => match lookH P.H x.d with
  | some y => askW P x.d y.a y.n y.L x.S
  | none => []
theorem retryK_next {P : WkD} {k : Nat} {x : WtD} (h : P.W[k]? = some x) : retryK P (k + 1) = retryK P k ++ (match lookH P.H x.d with
    | some y => askW P x.d y.a y.n y.L x.S
    | none => []) := by
  unfold retryK
  rw [take_nxt h, List.flatMap_append]
  simp
theorem retryK_all {P : WkD} {k : Nat} (h : P.W.length ≤ k) : retryK P k = retryO P := by unfold retryK retryO; rw [List.take_of_length_le h]; rfl
theorem askW_len {P : WkD} {d a n : Int} {L : List TxD} {S : List Int} (h : P.N ≤ 16) : (askW P d a n L S).length ≤ 16 := by
  unfold askW toW
  rw [List.length_map]
  refine Nat.le_trans (List.length_filter_le _ _) ?_
  rw [List.length_map, List.length_range]
  omega
theorem retry_like {P Q : WkD} (h1 : Q.W = P.W) (h2 : Q.H = P.H) (h3 : Q.i = P.i) (h4 : Q.N = P.N) : retryO Q = retryO P := by
  unfold retryO
  rw [h1, h2]
  congr 1
  funext x
  cases lookH P.H x.d with
  | none => rfl
  | some y => exact askW_like h3 h4
/-- what is put out in two goes -/
theorem Outs.comp {B : Nat} {w w1 w2 : World} {o o1 o2 : Ad} {ms : List (OtD × Ad)} {l l2 : List OtD} {ms' : List (OtD × Ad)} (h : Outs B w o ms l w1 o1) (hm : ms'.map Prod.fst = l) (h2 : Outs B w1 o1 (ms ++ ms') l2 w2 o2) : Outs B w o ms (l ++ l2) w2 o2 := by
  obtain ⟨m2, r1, r2⟩ := h2.row
  refine ⟨⟨ms' ++ m2, by rw [← List.append_assoc]; exact r1, by rw [List.map_append, hm, r2]⟩, h.touch.trans h2.touch (fun k hk => h.own k hk), fun k hk => ?_⟩
  rcases h2.own k hk with e | e
  · exact h.own k e
  · have := h.touch.size; exact .inr (by omega)

end Go.Proofs.YteepobghdpnabaaGreat
namespace Go.Proofs.YteepobghdpnabaaGreat
open Go.RowKit

set_option maxRecDepth 100000 in
set_option maxHeartbeats 16000000 in
theorem tick_Q (P : WkD) (a : WkA) (w : World) (h : WIn w P a) (hf : WFew P 300000) (hmay : mayW P = true) (hr : ¬ (min (P.c + 1) 1099511627776 % 3 = 0)) : Calls Tryz.prog 60 #[wkV P a] w (Ret3 (orW (ifMay P 0) (tickW P)) (orO (ifMay P 0) (tickO P)) (ifMay P 0) w) := by
  obtain ⟨g, hg⟩ : ∃ g, g = w.heap.size := ⟨_, rfl⟩
  obtain ⟨wa0, hwa0⟩ : ∃ wa0, wa0 = w.alloc (.cells #[.int .i64 P.i, .int .i64 P.N, .int .i64 P.x, .slice a.O.A a.O.n a.O.c, .int .i64 P.g, .int .i64 P.c, .slice a.W.A a.W.n a.W.c, .slice a.H.A a.H.n a.H.c, .slice a.R.A a.R.n a.R.c] 27) := ⟨_, rfl⟩
  have hs0 : wa0.heap.size = g + 1 := by rw [hwa0]; simp; omega
  have bn0 : Box wa0 (g) (wkC P a) := by rw [hwa0, hg]; exact box_new w (wkC P a) 27
  have hb0 : Below g w wa0 := by rw [hwa0]; exact (Below.refl _ _).alloc (by omega) _
  obtain ⟨wa1, hwa1⟩ : ∃ wa1, wa1 = wa0.alloc (.cells #[.int .i64 0, .int .i64 0, .int .i64 0, .slice none 0 0, .int .i64 0, .int .i64 0, .slice none 0 0, .slice none 0 0, .slice none 0 0] 27) := ⟨_, rfl⟩
  have hs1 : wa1.heap.size = g + 2 := by rw [hwa1]; simp; omega
  have bn1 : Box wa1 (g + 1) (zeroC) := by rw [hwa1, ← hs0]; exact box_new wa0 (zeroC) 27
  have hb1 : Below g w wa1 := by rw [hwa1]; exact hb0.alloc (by omega) _
  have HX0 : Hid (Box wa1 (g) (wkC P a)) := (bn0.below (show Below wa0.heap.size wa0 wa1 by rw [hwa1]; exact (Below.refl _ _).alloc (Nat.le_refl _) _) (by omega))
  have HX1 : Hid (Box wa1 (g + 1) (zeroC)) := bn1
  obtain ⟨w0, hw0⟩ : ∃ w0, w0 = wa1 := ⟨_, rfl⟩
  rw [← hw0] at HX0
  rw [← hw0] at HX1
  have hsz0 : w0.heap.size = g + 2 := by rw [hw0]; exact hs1
  have hb0w : Below g w w0 := by rw [hw0]; exact hb1
  have HW0 : Hid ((w.alloc (.cells #[.int .i64 P.i, .int .i64 P.N, .int .i64 P.x, .slice a.O.A a.O.n a.O.c, .int .i64 P.g, .int .i64 P.c, .slice a.W.A a.W.n a.W.c, .slice a.H.A a.H.n a.H.c, .slice a.R.A a.R.n a.R.c] 27)).alloc (.cells #[.int .i64 0, .int .i64 0, .int .i64 0, .slice none 0 0, .int .i64 0, .int .i64 0, .slice none 0 0, .slice none 0 0, .slice none 0 0] 27) = w0) := by show (w.alloc (.cells #[.int .i64 P.i, .int .i64 P.N, .int .i64 P.x, .slice a.O.A a.O.n a.O.c, .int .i64 P.g, .int .i64 P.c, .slice a.W.A a.W.n a.W.c, .slice a.H.A a.H.n a.H.c, .slice a.R.A a.R.n a.R.c] 27)).alloc (.cells #[.int .i64 0, .int .i64 0, .int .i64 0, .slice none 0 0, .int .i64 0, .int .i64 0, .slice none 0 0, .slice none 0 0, .slice none 0 0] 27) = w0; rw [hw0, hwa1, hwa0]
  have HG : Hid (w.heap.size = g) := hg.symm
  have HS0 := Lib.hid hsz0
  have HB0 := Lib.hid hb0w
  have hl0 : g < w0.heap.size := by omega
  have hl1 : g + 1 < w0.heap.size := by omega
  have hgw : g ≤ w0.heap.size := by omega
  have hin0 := h.below' HB0.out HG.out
  have HIN : Hid (∀ wX, Below w0.heap.size w0 wX → WIn wX P a) := by show ∀ wX, _; exact fun wX hX => hin0.below hX
  have HF := Lib.hid hf
  have hcheck := check_is (mayW P) P a w0 rfl hin0 (hf.more (by decide))
  have hmw := mayW_iff.1 hmay
  obtain ⟨c1, hc1⟩ : ∃ c1, c1 = min (P.c + 1) 1099511627776 := ⟨_, rfl⟩
  obtain ⟨g1, hg1⟩ : ∃ g1, g1 = min (P.g + 1) 1099511627776 := ⟨_, rfl⟩
  have HC1 := Lib.hid hc1
  have HG1 := Lib.hid hg1
  have c0 := hmw.clock
  have g0 := hmw.age
  have c2 : 0 ≤ c1 ∧ c1 ≤ 1099511627776 := by omega
  rw [hmay] at hcheck
  have HCK := Lib.hid hcheck
  have HE : Hid (ifMay P 0 = 0) := ifMay_yes hmay 0
  obtain ⟨P4, hP4⟩ : ∃ P4, P4 = tickW P := ⟨_, rfl⟩
  have HP4 := Lib.hid hP4
  have e4 : P4.W = P.W ∧ P4.H = P.H ∧ P4.i = P.i ∧ P4.N = P.N ∧ P4.c = c1 := by rw [hP4, hc1]; exact ⟨rfl, rfl, rfl, rfl, rfl⟩
  have HF4 : Hid (WFew P4 300000) := by show WFew P4 300000; rw [hP4]; exact ⟨hf.o, hf.w, hf.h, hf.r, hf.s, hf.l⟩
  have HR4 : Hid (RiseI P4.hs) := by show RiseI P4.hs; rw [WkD.hs, e4.2.1]; exact hmw.hrise
  have HN16 : Hid (0 ≤ P4.N ∧ P4.N ≤ 16) := by have := may_yes hmw.may; show _ ∧ _; rw [e4.2.2.2.1]; omega
  have HO : Hid (([] : List (OtD × Ad)).map Prod.fst = tickO P) := by
    show _ = _
    rw [tickO, if_neg]
    · rfl
    · rw [← hP4, e4.2.2.2.2, hc1]; exact hr
  have jr : (c1 % 3 == 0) = false := by rw [hc1]; simpa using hr
  have jr2 : (c1 % 3 != 0) = true := by rw [hc1]; simpa using hr
  clear hg hsz0 hb0w hw0 hwa0 hs0 bn0 hb0 hwa1 hs1 bn1 hb1
  unfold wkV Ad.v
  by_cases hO : 0 < P.O.length
  · have H4 : Hid (P4 = { P with c := c1, g := g1 }) := by show _ = _; rw [hP4, tickW, if_pos hO, hc1, hg1]
    clear hcheck hin0 h hf hmw hmay hc1 hg1 hP4 e4 hr
    go_enter Tryz.func60, Tryz.ntmps60
    go_upto_region 1 with fail
    rw [HG.out, HW0.out]
    go_upto_region 5 with (first
      | (refine wpList_load_box rfl 27 _ rfl g rfl (wkC P a) (HX0.out) _ Tryz.underlying27 rfl size_wk ?_)
      | (go_at_call 18; refine HCK.out.mono ?_; rintro e w1 ⟨rfl, hb1⟩)
      | (refine wpList_load_box rfl 27 _ rfl g rfl (wkC P a) (HX0.out.below hb1 hl0) _ Tryz.underlying27 rfl size_wk ?_)
      | (go_at_call 90; refine (clone_any P a w1 (HIN.out _ hb1) (HF.out.more (by decide))).mono ?_; rintro e w4 ⟨a4, rfl, hn4, hb4⟩)
      | (refine wpList_store_box rfl 27 _ _ rfl g 0 (wkC P a4) (wkC P a) (wkC P a4) rfl rfl ((HX0.out.below hb1 hl0).below hb4 (by have := hb1.size; omega)) (show 0 + 9 ≤ 9 by decide) rfl size_wk rfl ?_; intro w5 bx5 T5))
    have k5 : w5.cell? ⟨g, 5, none⟩ = some (.int .i64 P.c) := (bx5.2 5 _ rfl).1
    have hO4 : (0 : Int) < (a4.O.n : Int) := by have := hn4.oL; omega
    go_upto_region 9 with (first
      | (refine wpList_store_cell rfl 3 _ _ rfl g 5 (.int .i64 c1) (wkC P a4) rfl (by rw [HC1.out]; rfl) rfl rfl bx5 (show 5 < 9 by decide) size_int ?_
         intro w6 bx6 T6
         have k3 : w6.cell? ⟨g, 3, none⟩ = some (.slice a4.O.A a4.O.n a4.O.c) := (bx6.2 3 _ rfl).1
         have k4 : w6.cell? ⟨g, 4, none⟩ = some (.int .i64 P.g) := (bx6.2 4 _ rfl).1
         have k5 : w6.cell? ⟨g, 5, none⟩ = some (.int .i64 c1) := (bx6.2 5 _ rfl).1)
      | (refine wpList_store_cell rfl 3 _ _ rfl g 4 (.int .i64 g1) _ rfl (by rw [HG1.out]; rfl) rfl rfl bx6 (show 4 < 9 by decide) size_int ?_
         intro w7 bx7 T7
         have k5 : w7.cell? ⟨g, 5, none⟩ = some (.int .i64 c1) := (bx7.2 5 _ rfl).1))
    have t5 := T5 (fun k => k = g) rfl
    have t6 := T6 (fun k => k = g) rfl
    have t7 := T7 (fun k => k = g) rfl
    have tz : Touch (fun k => k = g) w4 w7 := (t5.on t6).on t7
    have hATZ : WAt w1.heap.size g w7 P4 a4 := by
      refine ⟨by rw [H4.out]; exact bx7, ?_, by have := hb1.size; omega, by have := hb4.size; have := tz.size; omega⟩
      rw [H4.out]
      exact (hn4.touch tz (fun k hk ho => by have := (hn4.core.lt ho).2; have := hb1.size; omega) (fun k hk ho => by have := (own_lt hn4.open_ ho).2; have := hb1.size; omega)).nums P.x g1 c1
    have hresZ : Box w7 (g + 1) zeroC := ((HX1.out.below hb1 hl1).below hb4 (by have := hb1.size; omega)).touch tz (by omega)
    have hbelZ : Below g w w7 := ((HB0.out.trans (hb1.mono hgw)).trans (hb4.mono (by have := hb1.size; omega))).trans (tz.below (fun k hk => by omega) (by have := hb1.size; have := hb4.size; omega))
    obtain ⟨B, hB⟩ : ∃ B, B = w1.heap.size := ⟨_, rfl⟩
    rw [← hB] at hATZ
    have hgB : g + 1 < B := by have := hb1.size; have := HS0.out; omega
    obtain ⟨wZ, hwZ⟩ : ∃ wZ, wZ = w7 := ⟨_, rfl⟩
    rw [← hwZ] at hATZ hresZ hbelZ ⊢
    clear hwZ bx7 k5 t5 t6 t7 tz T5 T6 T7 bx6 hb1 hb4 hn4 hB
    go_wp2_with (first
      | (refine wpList_load_box rfl 27 _ rfl g rfl (wkC P4 a4) (hATZ.box) _ Tryz.underlying27 rfl size_wk ?_)
      | (refine wpList_store_box rfl 27 _ _ rfl (g + 1) 0 (wkC P4 a4) zeroC (wkC P4 a4) rfl rfl hresZ (show 0 + 9 ≤ 9 by decide) rfl size_wk rfl ?_; intro wE bxE TE))
    have tE := TE (fun k => k = g + 1) rfl
    have hrowZ := (rowOwn_none wZ B : RowOwn KM B wZ noAd [])
    have hrow2 := hrowZ.touch tE (fun k hk hf => by have := (own_lt hrowZ.row hk).2; omega) (fun y hy k hk hf => by have := (own_lt (hrowZ.sub y hy).1 hk).2; omega)
    have hbel : Below g w wE := hbelZ.trans (tE.below (fun k hk => by omega) (by have := hresZ.1; omega))
    obtain ⟨r0, r1, r2, r3, r4, r5, r6, r7, r8⟩ := wk_cells bxE
    refine bodyPost_ret (v := .tuple #[wkV P4 a4, .slice none 0 0, .int .i64 0]) (by simp [results, Tryz.results60, go_sem, r0, r1, r2, r3, r4, r5, r6, r7, r8, wkV, Ad.v]) rfl ⟨a4, noAd, [], by rw [HE.out, HP4.out]; rfl, ?_, hrow2.more (by rw [HG.out]; omega), by rw [HE.out]; exact HO.out, fun y hy => by simp at hy, by rw [HG.out]; exact hbel⟩
    rw [HE.out, HG.out]
    show WNew g wE (tickW P) a4
    rw [← HP4.out]
    exact (hATZ.new.touch tE (fun k hk ho => by have := (hATZ.new.core.lt ho).2; omega) (fun k hk ho => by have := (own_lt hATZ.new.open_ ho).2; omega)).more (by omega)
  · have H4 : Hid (P4 = { P with c := c1, g := P.g }) := by show _ = _; rw [hP4, tickW, if_neg hO, hc1]
    clear hcheck hin0 h hf hmw hmay hc1 hg1 hP4 e4 hr
    go_enter Tryz.func60, Tryz.ntmps60
    go_upto_region 1 with fail
    rw [HG.out, HW0.out]
    go_upto_region 5 with (first
      | (refine wpList_load_box rfl 27 _ rfl g rfl (wkC P a) (HX0.out) _ Tryz.underlying27 rfl size_wk ?_)
      | (go_at_call 18; refine HCK.out.mono ?_; rintro e w1 ⟨rfl, hb1⟩)
      | (refine wpList_load_box rfl 27 _ rfl g rfl (wkC P a) (HX0.out.below hb1 hl0) _ Tryz.underlying27 rfl size_wk ?_)
      | (go_at_call 90; refine (clone_any P a w1 (HIN.out _ hb1) (HF.out.more (by decide))).mono ?_; rintro e w4 ⟨a4, rfl, hn4, hb4⟩)
      | (refine wpList_store_box rfl 27 _ _ rfl g 0 (wkC P a4) (wkC P a) (wkC P a4) rfl rfl ((HX0.out.below hb1 hl0).below hb4 (by have := hb1.size; omega)) (show 0 + 9 ≤ 9 by decide) rfl size_wk rfl ?_; intro w5 bx5 T5))
    have k5 : w5.cell? ⟨g, 5, none⟩ = some (.int .i64 P.c) := (bx5.2 5 _ rfl).1
    have hO4 : ¬ ((0 : Int) < (a4.O.n : Int)) := by have := hn4.oL; omega
    go_upto_region 9 with (first
      | (refine wpList_store_cell rfl 3 _ _ rfl g 5 (.int .i64 c1) (wkC P a4) rfl (by rw [HC1.out]; rfl) rfl rfl bx5 (show 5 < 9 by decide) size_int ?_
         intro w6 bx6 T6
         have k3 : w6.cell? ⟨g, 3, none⟩ = some (.slice a4.O.A a4.O.n a4.O.c) := (bx6.2 3 _ rfl).1
         have k4 : w6.cell? ⟨g, 4, none⟩ = some (.int .i64 P.g) := (bx6.2 4 _ rfl).1
         have k5 : w6.cell? ⟨g, 5, none⟩ = some (.int .i64 c1) := (bx6.2 5 _ rfl).1))
    have t5 := T5 (fun k => k = g) rfl
    have t6 := T6 (fun k => k = g) rfl
    have tz : Touch (fun k => k = g) w4 w6 := t5.on t6
    have hATZ : WAt w1.heap.size g w6 P4 a4 := by
      refine ⟨by rw [H4.out]; exact bx6, ?_, by have := hb1.size; omega, by have := hb4.size; have := tz.size; omega⟩
      rw [H4.out]
      exact (hn4.touch tz (fun k hk ho => by have := (hn4.core.lt ho).2; have := hb1.size; omega) (fun k hk ho => by have := (own_lt hn4.open_ ho).2; have := hb1.size; omega)).nums P.x P.g c1
    have hresZ : Box w6 (g + 1) zeroC := ((HX1.out.below hb1 hl1).below hb4 (by have := hb1.size; omega)).touch tz (by omega)
    have hbelZ : Below g w w6 := ((HB0.out.trans (hb1.mono hgw)).trans (hb4.mono (by have := hb1.size; omega))).trans (tz.below (fun k hk => by omega) (by have := hb1.size; have := hb4.size; omega))
    obtain ⟨B, hB⟩ : ∃ B, B = w1.heap.size := ⟨_, rfl⟩
    rw [← hB] at hATZ
    have hgB : g + 1 < B := by have := hb1.size; have := HS0.out; omega
    obtain ⟨wZ, hwZ⟩ : ∃ wZ, wZ = w6 := ⟨_, rfl⟩
    rw [← hwZ] at hATZ hresZ hbelZ ⊢
    clear hwZ bx6 k5 t5 t6 tz T5 T6 hb1 hb4 hn4 hB
    go_wp2_with (first
      | (refine wpList_load_box rfl 27 _ rfl g rfl (wkC P4 a4) (hATZ.box) _ Tryz.underlying27 rfl size_wk ?_)
      | (refine wpList_store_box rfl 27 _ _ rfl (g + 1) 0 (wkC P4 a4) zeroC (wkC P4 a4) rfl rfl hresZ (show 0 + 9 ≤ 9 by decide) rfl size_wk rfl ?_; intro wE bxE TE))
    have tE := TE (fun k => k = g + 1) rfl
    have hrowZ := (rowOwn_none wZ B : RowOwn KM B wZ noAd [])
    have hrow2 := hrowZ.touch tE (fun k hk hf => by have := (own_lt hrowZ.row hk).2; omega) (fun y hy k hk hf => by have := (own_lt (hrowZ.sub y hy).1 hk).2; omega)
    have hbel : Below g w wE := hbelZ.trans (tE.below (fun k hk => by omega) (by have := hresZ.1; omega))
    obtain ⟨r0, r1, r2, r3, r4, r5, r6, r7, r8⟩ := wk_cells bxE
    refine bodyPost_ret (v := .tuple #[wkV P4 a4, .slice none 0 0, .int .i64 0]) (by simp [results, Tryz.results60, go_sem, r0, r1, r2, r3, r4, r5, r6, r7, r8, wkV, Ad.v]) rfl ⟨a4, noAd, [], by rw [HE.out, HP4.out]; rfl, ?_, hrow2.more (by rw [HG.out]; omega), by rw [HE.out]; exact HO.out, fun y hy => by simp at hy, by rw [HG.out]; exact hbel⟩
    rw [HE.out, HG.out]
    show WNew g wE (tickW P) a4
    rw [← HP4.out]
    exact (hATZ.new.touch tE (fun k hk ho => by have := (hATZ.new.core.lt ho).2; omega) (fun k hk ho => by have := (own_lt hATZ.new.open_ ho).2; omega)).more (by omega)

end Go.Proofs.YteepobghdpnabaaGreat
