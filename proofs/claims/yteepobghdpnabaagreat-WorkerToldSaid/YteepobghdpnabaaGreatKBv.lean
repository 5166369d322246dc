/-
 Package worker's Add.
-/
import Derived.Test.YteepobghdpnabaaGreatKBs
import Derived.Test.YteepobghdpnabaaGreatKBj
namespace Go.Proofs.YteepobghdpnabaaGreat
open Go.RowKit

theorem size_tx : (Tryz.prog.info? 40).map (·.size) = some 4 := by kernel_rfl
theorem WIn.below' {w w0 : World} {g : Nat} {P : WkD} {a : WkA} (h : WIn w P a) (hb : Below g w w0) (hg : w.heap.size = g) : WIn w0 P a := h.below (by rw [hg]; exact hb)

set_option maxRecDepth 100000 in
set_option maxHeartbeats 16000000 in
theorem add_any (P : WkD) (a : WkA) (t : TxD) (w : World) (h : WIn w P a) (hf : WFew P 1000000) : Calls Tryz.prog 66 #[wkV P a, t.val] w (Ret2 (orW (ifMay P (addE P t)) (addW P t)) (ifMay P (addE P t)) w) := by
  obtain ⟨g, hg⟩ : ∃ g, g = w.heap.size := ⟨_, rfl⟩
  obtain ⟨wa0, hwa0⟩ : ∃ wa0, wa0 = w.alloc (.cells #[.int .i64 P.i, .int .i64 P.N, .int .i64 P.x, .slice a.O.A a.O.n a.O.c, .int .i64 P.g, .int .i64 P.c, .slice a.W.A a.W.n a.W.c, .slice a.H.A a.H.n a.H.c, .slice a.R.A a.R.n a.R.c] 27) := ⟨_, rfl⟩
  have hs0 : wa0.heap.size = g + 1 := by rw [hwa0]; simp; omega
  have bn0 : Box wa0 (g) (wkC P a) := by rw [hwa0, hg]; exact box_new w (wkC P a) 27
  have hb0 : Below g w wa0 := by rw [hwa0]; exact (Below.refl _ _).alloc (by omega) _
  obtain ⟨wa1, hwa1⟩ : ∃ wa1, wa1 = wa0.alloc (.cells #[.int .i64 t.s, .int .i64 t.q, .string t.k, .string t.v] 40) := ⟨_, rfl⟩
  have hs1 : wa1.heap.size = g + 2 := by rw [hwa1]; simp; omega
  have bn1 : Box wa1 (g + 1) (t.cells) := by rw [hwa1, ← hs0]; exact box_new wa0 (t.cells) 40
  have hb1 : Below g w wa1 := by rw [hwa1]; exact hb0.alloc (by omega) _
  obtain ⟨wa2, hwa2⟩ : ∃ wa2, wa2 = wa1.alloc (.cells #[.int .i64 0, .int .i64 0, .int .i64 0, .slice none 0 0, .int .i64 0, .int .i64 0, .slice none 0 0, .slice none 0 0, .slice none 0 0] 27) := ⟨_, rfl⟩
  have hs2 : wa2.heap.size = g + 3 := by rw [hwa2]; simp; omega
  have bn2 : Box wa2 (g + 2) (zeroC) := by rw [hwa2, ← hs1]; exact box_new wa1 (zeroC) 27
  have hb2 : Below g w wa2 := by rw [hwa2]; exact hb1.alloc (by omega) _
  have HX0 : Hid (Box wa2 (g) (wkC P a)) := ((bn0.below (show Below wa0.heap.size wa0 wa1 by rw [hwa1]; exact (Below.refl _ _).alloc (Nat.le_refl _) _) (by omega)).below (show Below wa1.heap.size wa1 wa2 by rw [hwa2]; exact (Below.refl _ _).alloc (Nat.le_refl _) _) (by omega))
  have HX1 : Hid (Box wa2 (g + 1) (t.cells)) := (bn1.below (show Below wa1.heap.size wa1 wa2 by rw [hwa2]; exact (Below.refl _ _).alloc (Nat.le_refl _) _) (by omega))
  have HX2 : Hid (Box wa2 (g + 2) (zeroC)) := bn2
  obtain ⟨w0, hw0⟩ : ∃ w0, w0 = wa2 := ⟨_, rfl⟩
  rw [← hw0] at HX0
  rw [← hw0] at HX1
  rw [← hw0] at HX2
  have hsz0 : w0.heap.size = g + 3 := by rw [hw0]; exact hs2
  have hb0w : Below g w w0 := by rw [hw0]; exact hb2
  have HW0 : Hid (((w.alloc (.cells #[.int .i64 P.i, .int .i64 P.N, .int .i64 P.x, .slice a.O.A a.O.n a.O.c, .int .i64 P.g, .int .i64 P.c, .slice a.W.A a.W.n a.W.c, .slice a.H.A a.H.n a.H.c, .slice a.R.A a.R.n a.R.c] 27)).alloc (.cells #[.int .i64 t.s, .int .i64 t.q, .string t.k, .string t.v] 40)).alloc (.cells #[.int .i64 0, .int .i64 0, .int .i64 0, .slice none 0 0, .int .i64 0, .int .i64 0, .slice none 0 0, .slice none 0 0, .slice none 0 0] 27) = w0) := by show ((w.alloc (.cells #[.int .i64 P.i, .int .i64 P.N, .int .i64 P.x, .slice a.O.A a.O.n a.O.c, .int .i64 P.g, .int .i64 P.c, .slice a.W.A a.W.n a.W.c, .slice a.H.A a.H.n a.H.c, .slice a.R.A a.R.n a.R.c] 27)).alloc (.cells #[.int .i64 t.s, .int .i64 t.q, .string t.k, .string t.v] 40)).alloc (.cells #[.int .i64 0, .int .i64 0, .int .i64 0, .slice none 0 0, .int .i64 0, .int .i64 0, .slice none 0 0, .slice none 0 0, .slice none 0 0] 27) = w0; rw [hw0, hwa2, hwa1, hwa0]
  have HG : Hid (w.heap.size = g) := hg.symm
  have HS0 := Lib.hid hsz0
  have HB0 := Lib.hid hb0w
  have hl0 : g < w0.heap.size := by omega
  have hl1 : g + 1 < w0.heap.size := by omega
  have hl2 : g + 2 < w0.heap.size := by omega
  have hgw : g ≤ w0.heap.size := by omega
  have hcheck := check_is (mayW P) P a w0 rfl (h.below' HB0.out HG.out) hf
  obtain ⟨b, hb⟩ : ∃ b, b = mayW P := ⟨_, rfl⟩
  rw [← hb] at hcheck
  have HCK := Lib.hid hcheck
  have HBM := Lib.hid hb
  obtain ⟨E, hE⟩ : ∃ E, E = ifMay P (addE P t) := ⟨_, rfl⟩
  obtain ⟨Q, hQ⟩ : ∃ Q, Q = orW E (addW P t) := ⟨_, rfl⟩
  rw [← hE, ← hQ]
  have hlen : P.O.length = a.O.n := h.open_.len
  have HIN : Hid (∀ wX, Below w0.heap.size w0 wX → WIn wX P a) := by show ∀ wX, _; exact fun wX hX => (h.below' HB0.out HG.out).below hX
  have HF := Lib.hid hf
  clear h hf hb hcheck
  clear hg hsz0 hb0w hw0 hwa0 hs0 bn0 hb0 hwa1 hs1 bn1 hb1 hwa2 hs2 bn2 hb2
  unfold wkV Ad.v TxD.val
  cases b with
  | false =>
    have HE : Hid (E = 1) := by show E = 1; rw [hE, ifMay_no HBM.out.symm]
    have HQ : Hid (Q = zeroW) := by show Q = zeroW; rw [hQ, orW_no (by rw [HE.out]; decide)]
    clear hE hQ
    go_enter Tryz.func66, Tryz.ntmps66
    go_upto_region 1 with fail
    rw [HG.out, HW0.out]
    go_wp2_with (first
      | (refine wpList_load_box rfl 27 _ rfl g rfl (wkC P a) (HX0.out) _ Tryz.underlying27 rfl size_wk ?_)
      | (go_at_call 18; refine HCK.out.mono ?_; rintro e w1 ⟨rfl, hb1⟩)
      | (refine wpList_store_box rfl 27 _ _ rfl (g + 2) 0 zeroC zeroC zeroC rfl rfl (HX2.out.below hb1 hl2) (show 0 + 9 ≤ 9 by decide) rfl size_wk rfl ?_; intro w9 bx9 T9))
    have hz1 := hb1.size
    obtain ⟨r0, r1, r2, r3, r4, r5, r6, r7, r8⟩ := zero_cells bx9
    have t9 := T9 (fun k => k = g + 2) rfl
    refine bodyPost_ret (v := .tuple #[wkV zeroW zeroWA, .int .i64 1]) (by simp [results, Tryz.results66, go_sem, r0, r1, r2, r3, r4, r5, r6, r7, r8, wkV, Ad.v, zeroW, zeroWA, noAd, okV]) rfl ⟨zeroWA, by rw [HQ.out, HE.out], by rw [HQ.out]; exact wNew_zero _ _, ?_⟩
    rw [HG.out]
    exact (HB0.out.trans (hb1.mono hgw)).trans (t9.below (fun k hk => by omega) (by omega))
  | true =>
    have hE1 : E = addE P t := by rw [hE, ifMay_yes HBM.out.symm]
    have hmw : MayW P := mayW_iff.1 HBM.out.symm
    have hfew := hmw.few
    clear hE hmw
    cases htx : txB t with
    | false =>
      have HE : Hid (E = 1) := by show E = 1; rw [hE1, addE, if_neg (by rw [htx]; decide)]
      have HQ : Hid (Q = zeroW) := by show Q = zeroW; rw [hQ, orW_no (by rw [HE.out]; decide)]
      have HTX := Lib.hid htx
      clear hE1 hQ htx
      go_enter Tryz.func66, Tryz.ntmps66
      go_upto_region 1 with fail
      rw [HG.out, HW0.out]
      go_wp2_with (first
        | (refine wpList_load_box rfl 27 _ rfl g rfl (wkC P a) (HX0.out) _ Tryz.underlying27 rfl size_wk ?_)
        | (go_at_call 18; refine HCK.out.mono ?_; rintro e w1 ⟨rfl, hb1⟩)
        | (refine wpList_load_box rfl 40 _ rfl (g + 1) rfl t.cells (HX1.out.below hb1 hl1) _ Tryz.underlying40 rfl size_tx ?_)
        | (go_at_call 40; refine (btx_no t _ HTX.out).mono ?_; rintro e w2 ⟨rfl, hb2⟩; have hb02 : Below w0.heap.size w0 w2 := hb1.trans (hb2.mono hb1.size); obtain ⟨k0, k1, k2, k3, k4, k5, k6, k7, k8⟩ := wk_cells (HX0.out.below hb02 hl0))
        | (refine wpList_store_box rfl 27 _ _ rfl (g + 2) 0 zeroC zeroC zeroC rfl rfl (HX2.out.below hb02 hl2) (show 0 + 9 ≤ 9 by decide) rfl size_wk rfl ?_; intro w9 bx9 T9))
      have hz1 := hb02.size
      obtain ⟨r0, r1, r2, r3, r4, r5, r6, r7, r8⟩ := zero_cells bx9
      have t9 := T9 (fun k => k = g + 2) rfl
      refine bodyPost_ret (v := .tuple #[wkV zeroW zeroWA, .int .i64 1]) (by simp [results, Tryz.results66, go_sem, r0, r1, r2, r3, r4, r5, r6, r7, r8, wkV, Ad.v, zeroW, zeroWA, noAd, okV]) rfl ⟨zeroWA, by rw [HQ.out, HE.out], by rw [HQ.out]; exact wNew_zero _ _, ?_⟩
      rw [HG.out]
      exact (HB0.out.trans (hb02.mono hgw)).trans (t9.below (fun k hk => by omega) (by omega))
    | true =>
      have HTX := Lib.hid htx
      by_cases hfull : (a.O.n : Int) = 64
      · have HE : Hid (E = 8) := by show E = 8; rw [hE1, addE, if_pos htx, if_neg (by omega)]
        have HQ : Hid (Q = zeroW) := by show Q = zeroW; rw [hQ, orW_no (by rw [HE.out]; decide)]
        have j1 : ((a.O.n : Int) == 64) = true := by simp [hfull]
        clear hE1 hQ htx hfull
        go_enter Tryz.func66, Tryz.ntmps66
        go_upto_region 1 with fail
        rw [HG.out, HW0.out]
        go_wp2_with (first
          | (refine wpList_load_box rfl 27 _ rfl g rfl (wkC P a) (HX0.out) _ Tryz.underlying27 rfl size_wk ?_)
          | (go_at_call 18; refine HCK.out.mono ?_; rintro e w1 ⟨rfl, hb1⟩)
          | (refine wpList_load_box rfl 40 _ rfl (g + 1) rfl t.cells (HX1.out.below hb1 hl1) _ Tryz.underlying40 rfl size_tx ?_)
          | (go_at_call 40; refine (btx_yes t _ HTX.out).mono ?_; rintro e w2 ⟨rfl, hb2⟩; have hb02 : Below w0.heap.size w0 w2 := hb1.trans (hb2.mono hb1.size); obtain ⟨k0, k1, k2, k3, k4, k5, k6, k7, k8⟩ := wk_cells (HX0.out.below hb02 hl0))
          | (refine wpList_store_box rfl 27 _ _ rfl (g + 2) 0 zeroC zeroC zeroC rfl rfl (HX2.out.below hb02 hl2) (show 0 + 9 ≤ 9 by decide) rfl size_wk rfl ?_; intro w9 bx9 T9))
        have hz1 := hb02.size
        obtain ⟨r0, r1, r2, r3, r4, r5, r6, r7, r8⟩ := zero_cells bx9
        have t9 := T9 (fun k => k = g + 2) rfl
        refine bodyPost_ret (v := .tuple #[wkV zeroW zeroWA, .int .i64 8]) (by simp [results, Tryz.results66, go_sem, r0, r1, r2, r3, r4, r5, r6, r7, r8, wkV, Ad.v, zeroW, zeroWA, noAd, okV]) rfl ⟨zeroWA, by rw [HQ.out, HE.out], by rw [HQ.out]; exact wNew_zero _ _, ?_⟩
        rw [HG.out]
        exact (HB0.out.trans (hb02.mono hgw)).trans (t9.below (fun k hk => by omega) (by omega))
      · have HE : Hid (E = 0) := by show E = 0; rw [hE1, addE, if_pos htx, if_pos (by omega)]
        have HQ : Hid (Q = addW P t) := by show Q = addW P t; rw [hQ, orW, if_pos HE.out]
        have j1 : ((a.O.n : Int) == 64) = false := by simp [hfull]
        have hn64 : a.O.n < 64 := by omega
        clear hE1 hQ htx hfull
        go_enter Tryz.func66, Tryz.ntmps66
        go_upto_region 1 with fail
        rw [HG.out, HW0.out]
        go_upto_region 9 with (first
          | (refine wpList_load_box rfl 27 _ rfl g rfl (wkC P a) (HX0.out) _ Tryz.underlying27 rfl size_wk ?_)
          | (go_at_call 18; refine HCK.out.mono ?_; rintro e w1 ⟨rfl, hb1⟩)
          | (refine wpList_load_box rfl 40 _ rfl (g + 1) rfl t.cells (HX1.out.below hb1 hl1) _ Tryz.underlying40 rfl size_tx ?_)
          | (go_at_call 40; refine (btx_yes t _ HTX.out).mono ?_; rintro e w2 ⟨rfl, hb2⟩; have hb02 : Below w0.heap.size w0 w2 := hb1.trans (hb2.mono hb1.size); obtain ⟨k0, k1, k2, k3, k4, k5, k6, k7, k8⟩ := wk_cells (HX0.out.below hb02 hl0)))
        have HX02 := Lib.hid (HX0.out.below hb02 hl0)
        have hcl := clone_any P a w2 (HIN.out _ hb02) HF.out
        have HCL := Lib.hid hcl
        have hz2 := hb02.size
        have HB02 := Lib.hid hb02
        clear hcl k0 k1 k2 k3 k4 k5 k6 k7 k8 hb2 hb1 hb02
        go_wp2_with (first
          | (refine wpList_load_box rfl 27 _ rfl g rfl (wkC P a) (HX02.out) _ Tryz.underlying27 rfl size_wk ?_)
          | (go_at_call 90; refine HCL.out.mono ?_; rintro e w3 ⟨a3, rfl, hn3, hb3⟩)
          | (refine wpList_store_box rfl 27 _ _ rfl g 0 (wkC P a3) (wkC P a) (wkC P a3) rfl rfl (HX02.out.below hb3 (by omega)) (show 0 + 9 ≤ 9 by decide) rfl size_wk rfl ?_; intro w4 bx4 T4; obtain ⟨k0, k1, k2, k3, k4, k5, k6, k7, k8⟩ := wk_cells bx4)
          | (refine wpList_load_box rfl 40 _ rfl (g + 1) rfl [.int .i64 t.s, .int .i64 t.q, .string t.k, .string t.v] (((HX1.out.below HB02.out hl1).below hb3 (by omega)).touch (T4 (fun k => k = g) rfl) (by omega)) _ Tryz.underlying40 rfl size_tx ?_)
          | (at_builtin
             have t4 := T4 (fun k => k = g) rfl
             have hs3 := hb3.size
             have hs4 := t4.size
             have hn4 := hn3.touch t4 (fun k hk ho => by have := (hn3.core.lt ho).2; omega) (fun k hk ho => by have := (own_lt hn3.open_ ho).2; omega)
             have HN4 := Lib.hid hn4
             have hO4 := hn4.oL
             obtain ⟨i0, hi0, hz0, hz1, hz2'⟩ := info_parts info_tx
             refine wpList_append_lies _ rfl _ _ 22 rfl w2.heap.size 40 i0 _ 4 48 Tryz.underlying22 hi0 hz0 hz1 hz2' rfl (by decide) (.slice a3.O.A a3.O.n a3.O.c) a3.O.n (txs P.O) rfl (ownS_below hn4.open_ ((Below.refl _ _).alloc (Nat.le_refl _) _)) ⟨w4.heap.size, 0, none⟩ 1 1 t.cells rfl rfl (fun j y hj => by rw [Addr.add_lit, Nat.zero_add]; exact cells_new w4 t.cells 40 j y hj) (cells_one t) (by decide) (by unfold maxLen; omega) (by omega) (by simp; omega) _ rfl ?_
             intro g' c' w5 q1 q2 q3 q4
             have T45 : Touch (fun k => a3.O.v.ownBlock = some k) w4 w5 := ((Touch.refl (fun k => a3.O.v.ownBlock = some k) w4).alloc _).on (Touch.grown q2 fun k hk => hk)
             have hOb : ∀ k, a3.O.v.ownBlock = some k → w2.heap.size ≤ k := fun k hk => (own_lt hn4.open_ hk).2
             have bx5 : Box w5 g (wkC P a3) := bx4.touch T45 fun hf => by have := hOb g hf; omega)
          | (refine wpList_store_cell rfl 22 _ _ rfl g 3 (.slice (some ⟨g', 0, none⟩) (a3.O.n + 1) c') (wkC P a3) rfl rfl rfl rfl bx5 (show 3 < 9 by decide) size_sTx ?_; intro w6 bx6 T6)
          | (refine wpList_load_box rfl 27 _ rfl g rfl (wkC (addW P t) { a3 with O := ⟨some ⟨g', 0, none⟩, a3.O.n + 1, c'⟩ }) bx6 _ Tryz.underlying27 rfl size_wk ?_)
          | (refine wpList_store_box rfl 27 _ _ rfl (g + 2) 0 (wkC (addW P t) { a3 with O := ⟨some ⟨g', 0, none⟩, a3.O.n + 1, c'⟩ }) zeroC (wkC (addW P t) { a3 with O := ⟨some ⟨g', 0, none⟩, a3.O.n + 1, c'⟩ }) rfl rfl (((((HX2.out.below HB02.out hl2).below hb3 (by omega)).touch t4 (by omega)).touch T45 (fun hf => by have := hOb _ hf; omega)).touch (T6 (fun k => k = g) rfl) (by omega)) (show 0 + 9 ≤ 9 by decide) rfl size_wk rfl ?_; intro w7 bx7 T7))
        have hnew5 := HN4.out.setO (L := P.O ++ [t]) (o := ⟨some ⟨g', 0, none⟩, a3.O.n + 1, c'⟩) T45 (by rw [txs_append, txs_single]; exact q1) (by rw [List.length_append, hO4]; rfl) (fun k hk => by
          rcases q3 with e | e
          · exact .inl (e.trans hk)
          · have : g' = k := by simpa [Ad.v, Value.ownBlock] using hk
            subst this
            exact .inr (by rw [e]; simp))
        have t6 := T6 (fun k => k = g) rfl
        have t7 := T7 (fun k => k = g + 2) rfl
        have hs5 := T45.size
        have hs6 := t6.size
        have hs7 := t7.size
        have hnew7 := (hnew5.touch t6 (fun k hk ho => by have := (hnew5.core.lt ho).2; omega) (fun k hk ho => by have := (own_lt hnew5.open_ ho).2; omega)).touch t7 (fun k hk ho => by have := (hnew5.core.lt ho).2; omega) (fun k hk ho => by have := (own_lt hnew5.open_ ho).2; omega)
        have hbel : Below g w w7 := ((((HB0.out.trans (HB02.out.mono hgw)).trans (hb3.mono (by omega))).trans (t4.below (fun k hk => by omega) (by omega))).trans (T45.below (fun k hk => by have := hOb k hk; omega) (by omega))).trans ((t6.below (fun k hk => by omega) (by omega)).trans (t7.below (fun k hk => by omega) (by omega)))
        obtain ⟨r0, r1, r2, r3, r4, r5, r6, r7, r8⟩ := wk_cells bx7
        refine bodyPost_ret (v := .tuple #[wkV (addW P t) { a3 with O := ⟨some ⟨g', 0, none⟩, a3.O.n + 1, c'⟩ }, .int .i64 0]) (by simp [results, Tryz.results66, go_sem, r0, r1, r2, r3, r4, r5, r6, r7, r8, wkV, Ad.v]) rfl ⟨_, by rw [HQ.out, HE.out], ?_, ?_⟩
        · rw [HQ.out, HG.out]; exact hnew7.more (by omega)
        · rw [HG.out]; exact hbel

end Go.Proofs.YteepobghdpnabaaGreat
namespace Go.Proofs.YteepobghdpnabaaGreat
open Go.RowKit

structure CW (g q : Nat) (P : WkD) (a : WkA) (o1 o2 o3 o4 : Ad) (w wr : World) : Prop where
 src : Box wr g (wkC P a)
 res : Box wr (g + 1) zeroC
 cpy : Box wr q (cC P o1 o2 o3 o4)
 bel : Below g w wr
 gq : g + 1 < q
section
variable {g q : Nat} {P : WkD} {a : WkA} {o1 o2 o3 o4 o1' o2' o3' o4' : Ad} {w wr w1 : World}
theorem CW.call (h : CW g q P a o1 o2 o3 o4 w wr) (hb : Below wr.heap.size wr w1) : CW g q P a o1 o2 o3 o4 w w1 :=
 ⟨h.src.below hb h.src.1, h.res.below hb h.res.1, h.cpy.below hb h.cpy.1, h.bel.trans (hb.mono (by have := h.src.1; omega)), h.gq⟩
theorem CW.put (h : CW g q P a o1 o2 o3 o4 w wr) (hb : Box w1 q (cC P o1' o2' o3' o4')) (ht : Touch (fun k => k = q) wr w1) : CW g q P a o1' o2' o3' o4' w w1 :=
 ⟨h.src.touch ht (by have := h.gq; omega), h.res.touch ht (by have := h.gq; omega), hb, h.bel.trans (ht.below (fun k hk => by have := h.gq; omega) (by have := h.src.1; omega)), h.gq⟩
end
theorem own_put {w w1 : World} {B e s n q : Nat} {v : Value} {xs : List Value} (h : w.ownsRow B e s v n xs) (ht : Touch (fun k => k = q) w w1) (hq : q < B) : w1.ownsRow B e s v n xs :=
 own_kept h fun k hk hl => ht.block k hl (by have := (own_lt h hk).2; omega)
theorem RowOwn.put1 {α : Type} {K : Kd α} {w w1 : World} {B q : Nat} {a : Ad} {ms : List (α × Ad)} (h : RowOwn K B w a ms) (ht : Touch (fun k => k = q) w w1) (hq : q < B) : RowOwn K B w1 a ms :=
 h.touch ht (fun k hk hf => by have := (own_lt h.row hk).2; omega) (fun y hy k hk hf => by have := (own_lt (h.sub y hy).1 hk).2; omega)

set_option maxRecDepth 100000 in
set_option maxHeartbeats 16000000 in
theorem rcopyWk_any (P : WkD) (a : WkA) (w : World) (h : WIn w P a) (hf : WFew P 1000000) : Calls Tryz.prog 15 #[wkV P a] w (Cloned9 P w) := by
  obtain ⟨g, hg⟩ : ∃ g, g = w.heap.size := ⟨_, rfl⟩
  obtain ⟨wa0, hwa0⟩ : ∃ wa0, wa0 = w.alloc (.cells #[.int .i64 P.i, .int .i64 P.N, .int .i64 P.x, .slice a.O.A a.O.n a.O.c, .int .i64 P.g, .int .i64 P.c, .slice a.W.A a.W.n a.W.c, .slice a.H.A a.H.n a.H.c, .slice a.R.A a.R.n a.R.c] 27) := ⟨_, rfl⟩
  have hs0 : wa0.heap.size = g + 1 := by rw [hwa0]; simp; omega
  have bn0 : Box wa0 (g) (wkC P a) := by rw [hwa0, hg]; exact box_new w (wkC P a) 27
  have hb0 : Below g w wa0 := by rw [hwa0]; exact (Below.refl _ _).alloc (by omega) _
  obtain ⟨wa1, hwa1⟩ : ∃ wa1, wa1 = wa0.alloc (.cells #[.int .i64 0, .int .i64 0, .int .i64 0, .slice none 0 0, .int .i64 0, .int .i64 0, .slice none 0 0, .slice none 0 0, .slice none 0 0] 27) := ⟨_, rfl⟩
  have hs1 : wa1.heap.size = g + 2 := by rw [hwa1]; simp; omega
  have bn1 : Box wa1 (g + 1) (zeroC) := by rw [hwa1, ← hs0]; exact box_new wa0 (zeroC) 27
  have hb1 : Below g w wa1 := by rw [hwa1]; exact hb0.alloc (by omega) _
  have HX0 : Hid (Box wa1 (g) (wkC P a)) := (bn0.below (show Below wa0.heap.size wa0 wa1 by rw [hwa1]; exact (Below.refl _ _).alloc (Nat.le_refl _) _) (by omega))
  have HX1 : Hid (Box wa1 (g + 1) (zeroC)) := bn1
  obtain ⟨w0, hw0⟩ : ∃ w0, w0 = wa1 := ⟨_, rfl⟩
  rw [← hw0] at HX0
  rw [← hw0] at HX1
  have hsz0 : w0.heap.size = g + 2 := by rw [hw0]; exact hs1
  have hb0w : Below g w w0 := by rw [hw0]; exact hb1
  have HW0 : Hid ((w.alloc (.cells #[.int .i64 P.i, .int .i64 P.N, .int .i64 P.x, .slice a.O.A a.O.n a.O.c, .int .i64 P.g, .int .i64 P.c, .slice a.W.A a.W.n a.W.c, .slice a.H.A a.H.n a.H.c, .slice a.R.A a.R.n a.R.c] 27)).alloc (.cells #[.int .i64 0, .int .i64 0, .int .i64 0, .slice none 0 0, .int .i64 0, .int .i64 0, .slice none 0 0, .slice none 0 0, .slice none 0 0] 27) = w0) := by show (w.alloc (.cells #[.int .i64 P.i, .int .i64 P.N, .int .i64 P.x, .slice a.O.A a.O.n a.O.c, .int .i64 P.g, .int .i64 P.c, .slice a.W.A a.W.n a.W.c, .slice a.H.A a.H.n a.H.c, .slice a.R.A a.R.n a.R.c] 27)).alloc (.cells #[.int .i64 0, .int .i64 0, .int .i64 0, .slice none 0 0, .int .i64 0, .int .i64 0, .slice none 0 0, .slice none 0 0, .slice none 0 0] 27) = w0; rw [hw0, hwa1, hwa0]
  have HG : Hid (w.heap.size = g) := hg.symm
  have HS0 := Lib.hid hsz0
  have HB0 := Lib.hid hb0w
  have hl0 : g < w0.heap.size := by omega
  have hl1 : g + 1 < w0.heap.size := by omega
  have hgw : g ≤ w0.heap.size := by omega
  have hin0 := h.below' HB0.out HG.out
  have HIN : Hid (∀ wX, Below w0.heap.size w0 wX → WIn wX P a) := by show ∀ wX, _; exact fun wX hX => hin0.below hX
  have hmsl := len_fst h.eW
  have hhsl := len_fst h.eH
  have hmsS : ∀ x ∈ a.ms, KW.len x.1 ≤ 1000000 := fun x hx => hf.s _ (mem_fst h.eW hx)
  have hhsS : ∀ x ∈ a.hs, KH.len x.1 ≤ 1000000 := fun x hx => hf.l _ (mem_fst h.eH hx)
  have hmsn : a.ms.length ≤ 1000000 := by have := hf.w; omega
  have hhsn : a.hs.length ≤ 1000000 := by have := hf.h; omega
  have HMS := Lib.hid hmsS
  have HHS := Lib.hid hhsS
  have HF := Lib.hid hf
  have HEW := Lib.hid h.eW
  have HEH := Lib.hid h.eH
  have bz := box_new w0 zeroC 27
  have HBZ := Lib.hid bz
  obtain ⟨q, hq⟩ : ∃ q, q = w0.heap.size := ⟨_, rfl⟩
  rw [← hq] at HBZ
  have HQ := Lib.hid hq
  clear hg hsz0 hb0w hw0 hwa0 hs0 bn0 hb0 hwa1 hs1 bn1 hb1
  clear hin0 h hf hmsl hhsl hmsS hhsS bz hq
  unfold wkV Ad.v
  go_enter Tryz.func15, Tryz.ntmps15
  go_upto_region 1 with fail
  rw [HG.out, HW0.out]
  go_wp2_with (first
    | (refine wpList_load_box rfl 27 _ rfl g rfl (wkC P a) HX0.out _ Tryz.underlying27 rfl size_wk ?_)
    | (refine wpList_store_box rfl 27 _ _ rfl q 0 (wkC P a) zeroC (wkC P a) (by rw [HQ.out]; rfl) rfl HBZ.out (show 0 + 9 ≤ 9 by decide) rfl size_wk rfl ?_)
    | (refine wpList_run_to rfl 27 rfl (.pointer (some ⟨q, 0, none⟩)) (w0.alloc (.cells #[.int .i64 0, .int .i64 0, .int .i64 0, .slice none 0 0, .int .i64 0, .int .i64 0, .slice none 0 0, .slice none 0 0, .slice none 0 0] 27)) (by rw [HQ.out]; unfold execOp; go_simp; done) ?_))
  intro w3 bx3 T3
  have t3 := T3 (fun k => k = q) rfl
  have hb3 : Below w0.heap.size w0 (w0.alloc (.cells #[.int .i64 0, .int .i64 0, .int .i64 0, .slice none 0 0, .int .i64 0, .int .i64 0, .slice none 0 0, .slice none 0 0, .slice none 0 0] 27)) := (Below.refl _ _).alloc (Nat.le_refl _) _
  have hb03 : Below w0.heap.size w0 w3 := hb3.trans (t3.below (fun k hk => by have := HQ.out; omega) hb3.size)
  have HC3 : Hid (CW g q P a a.O a.W a.H a.R w w3) := ⟨(HX0.out.below hb3 hl0).touch t3 (by have := HQ.out; have := HS0.out; omega), (HX1.out.below hb3 hl1).touch t3 (by have := HQ.out; have := HS0.out; omega), bx3, HB0.out.trans (hb03.mono hgw), by have := HQ.out; have := HS0.out; omega⟩
  have HB03 := Lib.hid hb03
  have hq3 : q < w3.heap.size := bx3.1
  clear T3 t3 hb3 hb03 bx3
  have k3 : w3.cell? ⟨g, 3, none⟩ = some (.slice a.O.A a.O.n a.O.c) := (HC3.out.src.2 3 _ rfl).1
  go_wp2_with (first
    | (go_at_call 26; refine (copyTxs_any a.O.A a.O.c a.O.n P.O _ (HIN.out _ HB03.out).open_.len.symm.symm (HIN.out _ HB03.out).open_.rd (HIN.out _ HB03.out).open_.cap (by have := (HIN.out _ HB03.out).open_.len; have := HF.out.o; omega)).mono ?_
       rintro e v0 ⟨vO, rfl, hoO, hbv⟩
       obtain ⟨AO, cO, rfl, _, _, _, _, _⟩ := ownS_slice hoO
       have hCv0 := HC3.out.call hbv)
    | (refine wpList_store_cell rfl 22 _ _ rfl q 3 (.slice AO a.O.n cO) (cC P a.O a.W a.H a.R) rfl rfl rfl rfl hCv0.cpy (show 3 < 9 by decide) size_sTx ?_))
  intro u0 bx T
  have tt := T (fun k => k = q) rfl
  have HCu0 := Lib.hid (CW.put (o1' := ⟨AO, a.O.n, cO⟩) (o2' := a.W) (o3' := a.H) (o4' := a.R) hCv0 bx tt)
  have hcc : Below w3.heap.size w3 v0 := hbv
  have HBu0 : Hid (Below w0.heap.size w0 u0) := (HB03.out.trans (hcc.mono HB03.out.size)).trans (tt.below (fun k hk => by have := HQ.out; omega) (by have := HB03.out.size; have := hcc.size; omega))
  have HO0 : Hid (u0.ownsRow (q + 1) 40 4 (.slice AO a.O.n cO) a.O.n (txs P.O)) := own_put (ownS_more hoO (show q + 1 ≤ w3.heap.size by omega)) tt (by omega)
  clear T bx tt hbv hcc hCv0 k3 hoO
  have k6 : u0.cell? ⟨g, 6, none⟩ = some (.slice a.W.A a.W.n a.W.c) := (HCu0.out.src.2 6 _ rfl).1
  go_wp2_with (first
    | (go_at_call 27; refine (rcopyWaits_any a.W a.ms _ (HIN.out _ HBu0.out).waits hmsn HMS.out).mono ?_
       rintro e v1 ⟨⟨AW, nW, cW⟩, msW, rfl, hrW, hmW, hbv⟩
       dsimp only [Ad.v]
       have hCv1 := HCu0.out.call hbv)
    | (refine wpList_store_cell rfl 23 _ _ rfl q 6 (.slice AW nW cW) (cC P ⟨AO, a.O.n, cO⟩ a.W a.H a.R) rfl rfl rfl rfl hCv1.cpy (show 6 < 9 by decide) size_sWait ?_))
  intro u1 bx T
  have tt := T (fun k => k = q) rfl
  have HCu1 := Lib.hid (CW.put (o1' := ⟨AO, a.O.n, cO⟩) (o2' := ⟨AW, nW, cW⟩) (o3' := a.H) (o4' := a.R) hCv1 bx tt)
  have hcc : Below u0.heap.size u0 v1 := hbv
  have HBu1 : Hid (Below w0.heap.size w0 u1) := (HBu0.out.trans (hcc.mono HBu0.out.size)).trans (tt.below (fun k hk => by have := HQ.out; omega) (by have := HBu0.out.size; have := hcc.size; omega))
  have HO1 : Hid (u1.ownsRow (q + 1) 40 4 (.slice AO a.O.n cO) a.O.n (txs P.O)) := own_put (ownS_below HO0.out hcc) tt (by omega)
  have HW1 : Hid (RowOwn KW (q + 1) u1 ⟨AW, nW, cW⟩ msW) := (hrW.more (show q + 1 ≤ u0.heap.size by have := HCu0.out.cpy.1; omega)).put1 tt (by omega)
  clear T bx tt hbv hcc hCv1 k6 hrW
  have k7 : u1.cell? ⟨g, 7, none⟩ = some (.slice a.H.A a.H.n a.H.c) := (HCu1.out.src.2 7 _ rfl).1
  go_wp2_with (first
    | (go_at_call 28; refine (rcopyHelds_any a.H a.hs _ (HIN.out _ HBu1.out).held hhsn HHS.out).mono ?_
       rintro e v2 ⟨⟨AH, nH, cH⟩, msH, rfl, hrH, hmH, hbv⟩
       dsimp only [Ad.v]
       have hCv2 := HCu1.out.call hbv)
    | (refine wpList_store_cell rfl 24 _ _ rfl q 7 (.slice AH nH cH) (cC P ⟨AO, a.O.n, cO⟩ ⟨AW, nW, cW⟩ a.H a.R) rfl rfl rfl rfl hCv2.cpy (show 7 < 9 by decide) size_sHeld ?_))
  intro u2 bx T
  have tt := T (fun k => k = q) rfl
  have HCu2 := Lib.hid (CW.put (o1' := ⟨AO, a.O.n, cO⟩) (o2' := ⟨AW, nW, cW⟩) (o3' := ⟨AH, nH, cH⟩) (o4' := a.R) hCv2 bx tt)
  have hcc : Below u1.heap.size u1 v2 := hbv
  have HBu2 : Hid (Below w0.heap.size w0 u2) := (HBu1.out.trans (hcc.mono HBu1.out.size)).trans (tt.below (fun k hk => by have := HQ.out; omega) (by have := HBu1.out.size; have := hcc.size; omega))
  have HO2 : Hid (u2.ownsRow (q + 1) 40 4 (.slice AO a.O.n cO) a.O.n (txs P.O)) := own_put (ownS_below HO1.out hcc) tt (by omega)
  have HW2 : Hid (RowOwn KW (q + 1) u2 ⟨AW, nW, cW⟩ msW) := (HW1.out.below hcc).put1 tt (by omega)
  have HH2 : Hid (RowOwn KH (q + 1) u2 ⟨AH, nH, cH⟩ msH) := (hrH.more (show q + 1 ≤ u1.heap.size by have := HCu1.out.cpy.1; omega)).put1 tt (by omega)
  have HAP : Hid (∀ x ∈ msH, ∀ k, (Value.slice AO a.O.n cO).ownBlock = some k → x.2.v.ownBlock ≠ some k) := by
    show ∀ x ∈ msH, _
    intro x hx k h1 h2
    have := (own_lt HO1.out h1).1
    have := (own_lt (hrH.sub x hx).1 h2).2
    omega
  clear T bx tt hbv hcc hCv2 k7 hrH
  have k8 : u2.cell? ⟨g, 8, none⟩ = some (.slice a.R.A a.R.n a.R.c) := (HCu2.out.src.2 8 _ rfl).1
  go_wp2_with (first
    | (go_at_call 29; refine (copyNumbers_any a.R.A a.R.c a.R.n P.R _ (HIN.out _ HBu2.out).ready.len (HIN.out _ HBu2.out).ready.rd (HIN.out _ HBu2.out).ready.cap (by have := (HIN.out _ HBu2.out).ready.len; have := HF.out.r; omega)).mono ?_
       rintro e v3 ⟨vR, rfl, hoR, hbv⟩
       have hoR := own_cast hoR (i64s_length _)
       obtain ⟨AR, cR, rfl, _, _, _, _, _⟩ := own_val hoR
       have hCv3 := HCu2.out.call hbv)
    | (refine wpList_store_cell rfl 25 _ _ rfl q 8 (.slice AR P.R.length cR) (cC P ⟨AO, a.O.n, cO⟩ ⟨AW, nW, cW⟩ ⟨AH, nH, cH⟩ a.R) rfl rfl rfl rfl hCv3.cpy (show 8 < 9 by decide) size_sInt ?_))
  intro u3 bx T
  have tt := T (fun k => k = q) rfl
  have HCu3 := Lib.hid (CW.put (o1' := ⟨AO, a.O.n, cO⟩) (o2' := ⟨AW, nW, cW⟩) (o3' := ⟨AH, nH, cH⟩) (o4' := ⟨AR, P.R.length, cR⟩) hCv3 bx tt)
  have hcc : Below u2.heap.size u2 v3 := hbv
  have HBu3 : Hid (Below w0.heap.size w0 u3) := (HBu2.out.trans (hcc.mono HBu2.out.size)).trans (tt.below (fun k hk => by have := HQ.out; omega) (by have := HBu2.out.size; have := hcc.size; omega))
  have HO3 : Hid (u3.ownsRow (q + 1) 40 4 (.slice AO a.O.n cO) a.O.n (txs P.O)) := own_put (ownS_below HO2.out hcc) tt (by omega)
  have HW3 : Hid (RowOwn KW (q + 1) u3 ⟨AW, nW, cW⟩ msW) := (HW2.out.below hcc).put1 tt (by omega)
  have HH3 : Hid (RowOwn KH (q + 1) u3 ⟨AH, nH, cH⟩ msH) := (HH2.out.below hcc).put1 tt (by omega)
  have HR3 : Hid (u3.ownsRow (q + 1) 3 1 (.slice AR P.R.length cR) P.R.length (i64s P.R)) := own_put (ownS_more hoR (show q + 1 ≤ u2.heap.size by have := HCu2.out.cpy.1; omega)) tt (by omega)
  have HAR : Hid (∀ x ∈ msW, ∀ k, (Value.slice AR P.R.length cR).ownBlock = some k → x.2.v.ownBlock ≠ some k) := by
    show ∀ x ∈ msW, _
    intro x hx k h1 h2
    have := (own_lt hoR h1).2
    have := (own_lt (HW2.out.sub x hx).1 h2).1
    omega
  clear T bx tt hbv hcc hCv3 k8 hoR
  have hnew : WNew (q + 1) u3 P ⟨⟨AO, a.O.n, cO⟩, ⟨AW, nW, cW⟩, ⟨AH, nH, cH⟩, ⟨AR, P.R.length, cR⟩, msW, msH⟩ := ⟨⟨HW3.out, hmW.trans HEW.out, HH3.out, hmH.trans HEH.out, HR3.out, rfl, HAR.out⟩, HO3.out, (HIN.out _ HB03.out).open_.len, HAP.out⟩
  have HN3 := Lib.hid hnew
  clear hnew hmW hmH
  go_wp2_with (first
    | (refine wpList_load_box rfl 27 _ rfl q rfl (wkC P ⟨⟨AO, a.O.n, cO⟩, ⟨AW, nW, cW⟩, ⟨AH, nH, cH⟩, ⟨AR, P.R.length, cR⟩, msW, msH⟩) HCu3.out.cpy _ Tryz.underlying27 rfl size_wk ?_)
    | (refine wpList_store_box rfl 27 _ _ rfl (g + 1) 0 (wkC P ⟨⟨AO, a.O.n, cO⟩, ⟨AW, nW, cW⟩, ⟨AH, nH, cH⟩, ⟨AR, P.R.length, cR⟩, msW, msH⟩) zeroC (wkC P ⟨⟨AO, a.O.n, cO⟩, ⟨AW, nW, cW⟩, ⟨AH, nH, cH⟩, ⟨AR, P.R.length, cR⟩, msW, msH⟩) rfl rfl HCu3.out.res (show 0 + 9 ≤ 9 by decide) rfl size_wk rfl ?_; intro wE bxE TE))
  have tE := TE (fun k => k = g + 1) rfl
  have hgq := HCu3.out.gq
  obtain ⟨r0, r1, r2, r3, r4, r5, r6, r7, r8⟩ := wk_cells bxE
  refine bodyPost_ret (v := wkV P ⟨⟨AO, a.O.n, cO⟩, ⟨AW, nW, cW⟩, ⟨AH, nH, cH⟩, ⟨AR, P.R.length, cR⟩, msW, msH⟩) (by simp [results, Tryz.results15, go_sem, r0, r1, r2, r3, r4, r5, r6, r7, r8, wkV, Ad.v]) rfl ⟨⟨⟨AO, a.O.n, cO⟩, ⟨AW, nW, cW⟩, ⟨AH, nH, cH⟩, ⟨AR, P.R.length, cR⟩, msW, msH⟩, rfl, ?_, ?_⟩
  · rw [HG.out]
    exact (HN3.out.touch tE (fun k hk ho => by have := (HN3.out.core.lt ho).2; omega) (fun k hk ho => by have := (own_lt HN3.out.open_ ho).2; omega)).more (by omega)
  · rw [HG.out]
    exact HCu3.out.bel.trans (tE.below (fun k hk => by omega) (by have := HCu3.out.src.1; omega))

end Go.Proofs.YteepobghdpnabaaGreat
