/-
  Package worker's Add.
-/
import Derived.Test.YteepobghdpnabaaGreatKWorkerTicksy
namespace Go.Proofs.YteepobghdpnabaaGreat
open Go.RowKit

theorem size_tx : (Tryz.prog.info? 40).map (·.size) = some 4 := by kernel_rfl
theorem WIn.below' {w w0 : World} {g : Nat} {P : WkD} {a : WkA} (h : WIn w P a) (hb : Below g w w0) (hg : w.heap.size = g) : WIn w0 P a := h.below (by rw [hg]; exact hb)

set_option maxRecDepth 100000 in
set_option maxHeartbeats 16000000 in
theorem add_any (P : WkD) (a : WkA) (t : TxD) (w : World) (h : WIn w P a) (hf : WFew P 1000000) : Calls Tryz.prog 66 #[wkV P a, t.val] w (Ret2 (orW (ifMay P (addE P t)) (addW P t)) (ifMay P (addE P t)) w) := by
  obtain ⟨g, hg⟩ : ∃ g, g = w.heap.size := ⟨_, rfl⟩
  obtain ⟨wa0, hwa0⟩ : ∃ wa0, wa0 = w.alloc (.cells #[.int .i64 P.i, .int .i64 P.N, .int .i64 P.x, .slice a.O.A a.O.n a.O.c, .int .i64 P.g, .int .i64 P.c, .slice a.W.A a.W.n a.W.c, .slice a.H.A a.H.n a.H.c, .slice a.R.A a.R.n a.R.c] 27) := ⟨_, rfl⟩
  have hs0 : wa0.heap.size = g + 1 := by rw [hwa0]; simp; omega
  have bn0 : Box wa0 (g) (wkC P a) := by rw [hwa0, hg]; exact box_new w (wkC P a) 27
  have hb0 : Below g w wa0 := by rw [hwa0]; exact (Below.refl _ _).alloc (by omega) _
  obtain ⟨wa1, hwa1⟩ : ∃ wa1, wa1 = wa0.alloc (.cells #[.int .i64 t.s, .int .i64 t.q, .string t.k, .string t.v] 40) := ⟨_, rfl⟩
  have hs1 : wa1.heap.size = g + 2 := by rw [hwa1]; simp; omega
  have bn1 : Box wa1 (g + 1) (t.cells) := by rw [hwa1, ← hs0]; exact box_new wa0 (t.cells) 40
  have hb1 : Below g w wa1 := by rw [hwa1]; exact hb0.alloc (by omega) _
  obtain ⟨wa2, hwa2⟩ : ∃ wa2, wa2 = wa1.alloc (.cells #[.int .i64 0, .int .i64 0, .int .i64 0, .slice none 0 0, .int .i64 0, .int .i64 0, .slice none 0 0, .slice none 0 0, .slice none 0 0] 27) := ⟨_, rfl⟩
  have hs2 : wa2.heap.size = g + 3 := by rw [hwa2]; simp; omega
  have bn2 : Box wa2 (g + 2) (zeroC) := by rw [hwa2, ← hs1]; exact box_new wa1 (zeroC) 27
  have hb2 : Below g w wa2 := by rw [hwa2]; exact hb1.alloc (by omega) _
  have HX0 : Hid (Box wa2 (g) (wkC P a)) := ((bn0.below (show Below wa0.heap.size wa0 wa1 by rw [hwa1]; exact (Below.refl _ _).alloc (Nat.le_refl _) _) (by omega)).below (show Below wa1.heap.size wa1 wa2 by rw [hwa2]; exact (Below.refl _ _).alloc (Nat.le_refl _) _) (by omega))
  have HX1 : Hid (Box wa2 (g + 1) (t.cells)) := (bn1.below (show Below wa1.heap.size wa1 wa2 by rw [hwa2]; exact (Below.refl _ _).alloc (Nat.le_refl _) _) (by omega))
  have HX2 : Hid (Box wa2 (g + 2) (zeroC)) := bn2
  obtain ⟨w0, hw0⟩ : ∃ w0, w0 = wa2 := ⟨_, rfl⟩
  rw [← hw0] at HX0
  rw [← hw0] at HX1
  rw [← hw0] at HX2
  have hsz0 : w0.heap.size = g + 3 := by rw [hw0]; exact hs2
  have hb0w : Below g w w0 := by rw [hw0]; exact hb2
  have HW0 : Hid (((w.alloc (.cells #[.int .i64 P.i, .int .i64 P.N, .int .i64 P.x, .slice a.O.A a.O.n a.O.c, .int .i64 P.g, .int .i64 P.c, .slice a.W.A a.W.n a.W.c, .slice a.H.A a.H.n a.H.c, .slice a.R.A a.R.n a.R.c] 27)).alloc (.cells #[.int .i64 t.s, .int .i64 t.q, .string t.k, .string t.v] 40)).alloc (.cells #[.int .i64 0, .int .i64 0, .int .i64 0, .slice none 0 0, .int .i64 0, .int .i64 0, .slice none 0 0, .slice none 0 0, .slice none 0 0] 27) = w0) := by show ((w.alloc (.cells #[.int .i64 P.i, .int .i64 P.N, .int .i64 P.x, .slice a.O.A a.O.n a.O.c, .int .i64 P.g, .int .i64 P.c, .slice a.W.A a.W.n a.W.c, .slice a.H.A a.H.n a.H.c, .slice a.R.A a.R.n a.R.c] 27)).alloc (.cells #[.int .i64 t.s, .int .i64 t.q, .string t.k, .string t.v] 40)).alloc (.cells #[.int .i64 0, .int .i64 0, .int .i64 0, .slice none 0 0, .int .i64 0, .int .i64 0, .slice none 0 0, .slice none 0 0, .slice none 0 0] 27) = w0; rw [hw0, hwa2, hwa1, hwa0]
  have HG : Hid (w.heap.size = g) := hg.symm
  have HS0 := Lib.hid hsz0
  have HB0 := Lib.hid hb0w
  have hl0 : g < w0.heap.size := by omega
  have hl1 : g + 1 < w0.heap.size := by omega
  have hl2 : g + 2 < w0.heap.size := by omega
  have hgw : g ≤ w0.heap.size := by omega
  have hcheck := check_is (mayW P) P a w0 rfl (h.below' HB0.out HG.out) hf
  obtain ⟨b, hb⟩ : ∃ b, b = mayW P := ⟨_, rfl⟩
  rw [← hb] at hcheck
  have HCK := Lib.hid hcheck
  have HBM := Lib.hid hb
  obtain ⟨E, hE⟩ : ∃ E, E = ifMay P (addE P t) := ⟨_, rfl⟩
  obtain ⟨Q, hQ⟩ : ∃ Q, Q = orW E (addW P t) := ⟨_, rfl⟩
  rw [← hE, ← hQ]
  have hlen : P.O.length = a.O.n := h.open_.len
  have HIN : Hid (∀ wX, Below w0.heap.size w0 wX → WIn wX P a) := by show ∀ wX, _; exact fun wX hX => (h.below' HB0.out HG.out).below hX
  have HF := Lib.hid hf
  clear h hf hb hcheck
  clear hg hsz0 hb0w hw0 hwa0 hs0 bn0 hb0 hwa1 hs1 bn1 hb1 hwa2 hs2 bn2 hb2
  unfold wkV Ad.v TxD.val
  cases b with
  | false =>
    have HE : Hid (E = 1) := by show E = 1; rw [hE, ifMay_no HBM.out.symm]
    have HQ : Hid (Q = zeroW) := by show Q = zeroW; rw [hQ, orW_no (by rw [HE.out]; decide)]
    clear hE hQ
    go_enter Tryz.func66, Tryz.ntmps66
    go_upto_region 1 with fail
    rw [HG.out, HW0.out]
    go_wp2_with (first
      | (refine wpList_load_box rfl 27 _ rfl g rfl (wkC P a) (HX0.out) _ Tryz.underlying27 rfl size_wk ?_)
      | (go_at_call 18; refine HCK.out.mono ?_; rintro e w1 ⟨rfl, hb1⟩)
      | (refine wpList_store_box rfl 27 _ _ rfl (g + 2) 0 zeroC zeroC zeroC rfl rfl (HX2.out.below hb1 hl2) (show 0 + 9 ≤ 9 by decide) rfl size_wk rfl ?_; intro w9 bx9 T9))
    have hz1 := hb1.size
    obtain ⟨r0, r1, r2, r3, r4, r5, r6, r7, r8⟩ := zero_cells bx9
    have t9 := T9 (fun k => k = g + 2) rfl
    refine bodyPost_ret (v := .tuple #[wkV zeroW zeroWA, .int .i64 1]) (by simp [results, Tryz.results66, go_sem, r0, r1, r2, r3, r4, r5, r6, r7, r8, wkV, Ad.v, zeroW, zeroWA, noAd, okV]) rfl ⟨zeroWA, by rw [HQ.out, HE.out], by rw [HQ.out]; exact wNew_zero _ _, ?_⟩
    rw [HG.out]
    exact (HB0.out.trans (hb1.mono hgw)).trans (t9.below (fun k hk => by omega) (by omega))
  | true =>
    have hE1 : E = addE P t := by rw [hE, ifMay_yes HBM.out.symm]
    have hmw : MayW P := mayW_iff.1 HBM.out.symm
    have hfew := hmw.few
    clear hE hmw
    cases htx : txB t with
    | false =>
      have HE : Hid (E = 1) := by show E = 1; rw [hE1, addE, if_neg (by rw [htx]; decide)]
      have HQ : Hid (Q = zeroW) := by show Q = zeroW; rw [hQ, orW_no (by rw [HE.out]; decide)]
      have HTX := Lib.hid htx
      clear hE1 hQ htx
      go_enter Tryz.func66, Tryz.ntmps66
      go_upto_region 1 with fail
      rw [HG.out, HW0.out]
      go_wp2_with (first
        | (refine wpList_load_box rfl 27 _ rfl g rfl (wkC P a) (HX0.out) _ Tryz.underlying27 rfl size_wk ?_)
        | (go_at_call 18; refine HCK.out.mono ?_; rintro e w1 ⟨rfl, hb1⟩)
        | (refine wpList_load_box rfl 40 _ rfl (g + 1) rfl t.cells (HX1.out.below hb1 hl1) _ Tryz.underlying40 rfl size_tx ?_)
        | (go_at_call 40; refine (btx_no t _ HTX.out).mono ?_; rintro e w2 ⟨rfl, hb2⟩; have hb02 : Below w0.heap.size w0 w2 := hb1.trans (hb2.mono hb1.size); obtain ⟨k0, k1, k2, k3, k4, k5, k6, k7, k8⟩ := wk_cells (HX0.out.below hb02 hl0))
        | (refine wpList_store_box rfl 27 _ _ rfl (g + 2) 0 zeroC zeroC zeroC rfl rfl (HX2.out.below hb02 hl2) (show 0 + 9 ≤ 9 by decide) rfl size_wk rfl ?_; intro w9 bx9 T9))
      have hz1 := hb02.size
      obtain ⟨r0, r1, r2, r3, r4, r5, r6, r7, r8⟩ := zero_cells bx9
      have t9 := T9 (fun k => k = g + 2) rfl
      refine bodyPost_ret (v := .tuple #[wkV zeroW zeroWA, .int .i64 1]) (by simp [results, Tryz.results66, go_sem, r0, r1, r2, r3, r4, r5, r6, r7, r8, wkV, Ad.v, zeroW, zeroWA, noAd, okV]) rfl ⟨zeroWA, by rw [HQ.out, HE.out], by rw [HQ.out]; exact wNew_zero _ _, ?_⟩
      rw [HG.out]
      exact (HB0.out.trans (hb02.mono hgw)).trans (t9.below (fun k hk => by omega) (by omega))
    | true =>
      have HTX := Lib.hid htx
      by_cases hfull : (a.O.n : Int) = 64
      · have HE : Hid (E = 8) := by show E = 8; rw [hE1, addE, if_pos htx, if_neg (by omega)]
        have HQ : Hid (Q = zeroW) := by show Q = zeroW; rw [hQ, orW_no (by rw [HE.out]; decide)]
        have j1 : ((a.O.n : Int) == 64) = true := by simp [hfull]
        clear hE1 hQ htx hfull
        go_enter Tryz.func66, Tryz.ntmps66
        go_upto_region 1 with fail
        rw [HG.out, HW0.out]
        go_wp2_with (first
          | (refine wpList_load_box rfl 27 _ rfl g rfl (wkC P a) (HX0.out) _ Tryz.underlying27 rfl size_wk ?_)
          | (go_at_call 18; refine HCK.out.mono ?_; rintro e w1 ⟨rfl, hb1⟩)
          | (refine wpList_load_box rfl 40 _ rfl (g + 1) rfl t.cells (HX1.out.below hb1 hl1) _ Tryz.underlying40 rfl size_tx ?_)
          | (go_at_call 40; refine (btx_yes t _ HTX.out).mono ?_; rintro e w2 ⟨rfl, hb2⟩; have hb02 : Below w0.heap.size w0 w2 := hb1.trans (hb2.mono hb1.size); obtain ⟨k0, k1, k2, k3, k4, k5, k6, k7, k8⟩ := wk_cells (HX0.out.below hb02 hl0))
          | (refine wpList_store_box rfl 27 _ _ rfl (g + 2) 0 zeroC zeroC zeroC rfl rfl (HX2.out.below hb02 hl2) (show 0 + 9 ≤ 9 by decide) rfl size_wk rfl ?_; intro w9 bx9 T9))
        have hz1 := hb02.size
        obtain ⟨r0, r1, r2, r3, r4, r5, r6, r7, r8⟩ := zero_cells bx9
        have t9 := T9 (fun k => k = g + 2) rfl
        refine bodyPost_ret (v := .tuple #[wkV zeroW zeroWA, .int .i64 8]) (by simp [results, Tryz.results66, go_sem, r0, r1, r2, r3, r4, r5, r6, r7, r8, wkV, Ad.v, zeroW, zeroWA, noAd, okV]) rfl ⟨zeroWA, by rw [HQ.out, HE.out], by rw [HQ.out]; exact wNew_zero _ _, ?_⟩
        rw [HG.out]
        exact (HB0.out.trans (hb02.mono hgw)).trans (t9.below (fun k hk => by omega) (by omega))
      · have HE : Hid (E = 0) := by show E = 0; rw [hE1, addE, if_pos htx, if_pos (by omega)]
        have HQ : Hid (Q = addW P t) := by show Q = addW P t; rw [hQ, orW, if_pos HE.out]
        have j1 : ((a.O.n : Int) == 64) = false := by simp [hfull]
        have hn64 : a.O.n < 64 := by omega
        clear hE1 hQ htx hfull
        go_enter Tryz.func66, Tryz.ntmps66
        go_upto_region 1 with fail
        rw [HG.out, HW0.out]
        go_upto_region 9 with (first
          | (refine wpList_load_box rfl 27 _ rfl g rfl (wkC P a) (HX0.out) _ Tryz.underlying27 rfl size_wk ?_)
          | (go_at_call 18; refine HCK.out.mono ?_; rintro e w1 ⟨rfl, hb1⟩)
          | (refine wpList_load_box rfl 40 _ rfl (g + 1) rfl t.cells (HX1.out.below hb1 hl1) _ Tryz.underlying40 rfl size_tx ?_)
          | (go_at_call 40; refine (btx_yes t _ HTX.out).mono ?_; rintro e w2 ⟨rfl, hb2⟩; have hb02 : Below w0.heap.size w0 w2 := hb1.trans (hb2.mono hb1.size); obtain ⟨k0, k1, k2, k3, k4, k5, k6, k7, k8⟩ := wk_cells (HX0.out.below hb02 hl0)))
        have HX02 := Lib.hid (HX0.out.below hb02 hl0)
        have hcl := clone_any P a w2 (HIN.out _ hb02) HF.out
        have HCL := Lib.hid hcl
        have hz2 := hb02.size
        have HB02 := Lib.hid hb02
        clear hcl k0 k1 k2 k3 k4 k5 k6 k7 k8 hb2 hb1 hb02
        go_wp2_with (first
          | (refine wpList_load_box rfl 27 _ rfl g rfl (wkC P a) (HX02.out) _ Tryz.underlying27 rfl size_wk ?_)
          | (go_at_call 90; refine HCL.out.mono ?_; rintro e w3 ⟨a3, rfl, hn3, hb3⟩)
          | (refine wpList_store_box rfl 27 _ _ rfl g 0 (wkC P a3) (wkC P a) (wkC P a3) rfl rfl (HX02.out.below hb3 (by omega)) (show 0 + 9 ≤ 9 by decide) rfl size_wk rfl ?_; intro w4 bx4 T4; obtain ⟨k0, k1, k2, k3, k4, k5, k6, k7, k8⟩ := wk_cells bx4)
          | (refine wpList_load_box rfl 40 _ rfl (g + 1) rfl [.int .i64 t.s, .int .i64 t.q, .string t.k, .string t.v] (((HX1.out.below HB02.out hl1).below hb3 (by omega)).touch (T4 (fun k => k = g) rfl) (by omega)) _ Tryz.underlying40 rfl size_tx ?_)
          | (at_builtin
             have t4 := T4 (fun k => k = g) rfl
             have hs3 := hb3.size
             have hs4 := t4.size
             have hn4 := hn3.touch t4 (fun k hk ho => by have := (hn3.core.lt ho).2; omega) (fun k hk ho => by have := (own_lt hn3.open_ ho).2; omega)
             have HN4 := Lib.hid hn4
             have hO4 := hn4.oL
             obtain ⟨i0, hi0, hz0, hz1, hz2'⟩ := info_parts info_tx
             refine wpList_append_lies _ rfl _ _ 22 rfl w2.heap.size 40 i0 _ 4 48 Tryz.underlying22 hi0 hz0 hz1 hz2' rfl (by decide) (.slice a3.O.A a3.O.n a3.O.c) a3.O.n (txs P.O) rfl (ownS_below hn4.open_ ((Below.refl _ _).alloc (Nat.le_refl _) _)) ⟨w4.heap.size, 0, none⟩ 1 1 t.cells rfl rfl (fun j y hj => by rw [Addr.add_lit, Nat.zero_add]; exact cells_new w4 t.cells 40 j y hj) (cells_one t) (by decide) (by unfold maxLen; omega) (by omega) (by simp; omega) _ rfl ?_
             intro g' c' w5 q1 q2 q3 q4
             have T45 : Touch (fun k => a3.O.v.ownBlock = some k) w4 w5 := ((Touch.refl (fun k => a3.O.v.ownBlock = some k) w4).alloc _).on (Touch.grown q2 fun k hk => hk)
             have hOb : ∀ k, a3.O.v.ownBlock = some k → w2.heap.size ≤ k := fun k hk => (own_lt hn4.open_ hk).2
             have bx5 : Box w5 g (wkC P a3) := bx4.touch T45 fun hf => by have := hOb g hf; omega)
          | (refine wpList_store_cell rfl 22 _ _ rfl g 3 (.slice (some ⟨g', 0, none⟩) (a3.O.n + 1) c') (wkC P a3) rfl rfl rfl rfl bx5 (show 3 < 9 by decide) size_sTx ?_; intro w6 bx6 T6)
          | (refine wpList_load_box rfl 27 _ rfl g rfl (wkC (addW P t) { a3 with O := ⟨some ⟨g', 0, none⟩, a3.O.n + 1, c'⟩ }) bx6 _ Tryz.underlying27 rfl size_wk ?_)
          | (refine wpList_store_box rfl 27 _ _ rfl (g + 2) 0 (wkC (addW P t) { a3 with O := ⟨some ⟨g', 0, none⟩, a3.O.n + 1, c'⟩ }) zeroC (wkC (addW P t) { a3 with O := ⟨some ⟨g', 0, none⟩, a3.O.n + 1, c'⟩ }) rfl rfl (((((HX2.out.below HB02.out hl2).below hb3 (by omega)).touch t4 (by omega)).touch T45 (fun hf => by have := hOb _ hf; omega)).touch (T6 (fun k => k = g) rfl) (by omega)) (show 0 + 9 ≤ 9 by decide) rfl size_wk rfl ?_; intro w7 bx7 T7))
        have hnew5 := HN4.out.setO (L := P.O ++ [t]) (o := ⟨some ⟨g', 0, none⟩, a3.O.n + 1, c'⟩) T45 (by rw [txs_append, txs_single]; exact q1) (by rw [List.length_append, hO4]; rfl) (fun k hk => by
          rcases q3 with e | e
          · exact .inl (e.trans hk)
          · have : g' = k := by simpa [Ad.v, Value.ownBlock] using hk
            subst this
            exact .inr (by rw [e]; simp))
        have t6 := T6 (fun k => k = g) rfl
        have t7 := T7 (fun k => k = g + 2) rfl
        have hs5 := T45.size
        have hs6 := t6.size
        have hs7 := t7.size
        have hnew7 := (hnew5.touch t6 (fun k hk ho => by have := (hnew5.core.lt ho).2; omega) (fun k hk ho => by have := (own_lt hnew5.open_ ho).2; omega)).touch t7 (fun k hk ho => by have := (hnew5.core.lt ho).2; omega) (fun k hk ho => by have := (own_lt hnew5.open_ ho).2; omega)
        have hbel : Below g w w7 := ((((HB0.out.trans (HB02.out.mono hgw)).trans (hb3.mono (by omega))).trans (t4.below (fun k hk => by omega) (by omega))).trans (T45.below (fun k hk => by have := hOb k hk; omega) (by omega))).trans ((t6.below (fun k hk => by omega) (by omega)).trans (t7.below (fun k hk => by omega) (by omega)))
        obtain ⟨r0, r1, r2, r3, r4, r5, r6, r7, r8⟩ := wk_cells bx7
        refine bodyPost_ret (v := .tuple #[wkV (addW P t) { a3 with O := ⟨some ⟨g', 0, none⟩, a3.O.n + 1, c'⟩ }, .int .i64 0]) (by simp [results, Tryz.results66, go_sem, r0, r1, r2, r3, r4, r5, r6, r7, r8, wkV, Ad.v]) rfl ⟨_, by rw [HQ.out, HE.out], ?_, ?_⟩
        · rw [HQ.out, HG.out]; exact hnew7.more (by omega)
        · rw [HG.out]; exact hbel

end Go.Proofs.YteepobghdpnabaaGreat
