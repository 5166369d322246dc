/-
  The page's Trim.
-/
import Derived.Test.YtfldfillcmamcaaYTrim
import Derived.Deep.RegionLaw
namespace Go.Proofs.Ytfldfillcmamcaa
open Go.RowKit

/-- append of an element of several cells, at a step of a statement whose order is open -/
theorem step_app_elemY (w : World) {ops : Array Oper} {o : Oper} {a : Act} {K : Act → World → Prop} {Q : Exit → Act → World → Prop} {E : Prop} (hgd : o.guard = none) (s x : Operand)
    (ho : o.op = .call { callee := .builtin .append, args := #[s, x], argTypes := #[22, 22] })
    (B : Nat) (v : Value) (n : Nat) (xs : List Value) (hs : a.eval s = v) (hown : w.ownsRow B 45 6 v n xs)
    (g : Nat) (y : CrtD) (ay : CrtA) (hx : a.eval x = .slice (some ⟨g, 0, none⟩) 1 1) (hc : ∀ i u, (crtC y ay)[i]? = some u → w.cell? ⟨g, i, none⟩ = some u)
    (hn : n ≤ 1000000) (hB : B ≤ w.heap.size)
    (h : ∀ g' c' w', w'.ownsRow B 45 6 (.slice (some ⟨g', 0, none⟩) (n + 1) c') (n + 1) (xs ++ crtC y ay) → w.grownBy w' v.ownBlock → K (a.put o.dst (.slice (some ⟨g', 0, none⟩) (n + 1) c')) w') : if Region.wanted o (yielded ops a.tmps) = true then Oper.wp Try.prog o a w K Q else E := by
  obtain ⟨i, hi, hz, hsize, hbytes⟩ := info_parts info_zcert
  refine step_append_lies (P := Try.prog) w hgd s x 22 ho B 45 i zcert 6 96 Try.underlying22 hi hz hsize hbytes rfl (by decide) v n xs hs hown ⟨g, 0, none⟩ 1 1 (crtC y ay) hx rfl ?_ (fun u hu => List.all_eq_true.1 (show (crtC y ay).all (·.oneCell') = true from rfl) u hu) (by decide) (by unfold maxLen; omega) (by omega) hB _ rfl ?_
  · intro j u hj
    rw [Addr.add_lit, Nat.zero_add]
    exact hc j u hj
  · intro g' cap w' hown' hg _ _
    exact h g' cap w' hown' hg
theorem copyY_wp {w : World} {o : Oper} {a : Act} {K : Act → World → Prop} {Q : Exit → Act → World → Prop} {s : Nat} {t : TypeId} {v : Value} (ho : o.op = .call { callee := .value (.func 23), args := #[.tmp s], argTypes := #[t] }) (hs : a.tmps[s]? = some v) {R : Ending → World → Prop} (hc : Calls Try.prog 23 #[v] w R)
    (h : ∀ e w', R e w' → ∃ u, e = .returned u ∧ K (a.put o.dst u) w') : o.wp Try.prog a w K Q := by
  have he : a.eval (.tmp s) = v := by simp [Act.eval, hs]
  unfold Oper.wp execOp
  simp only [ho]
  go_simp
  refine hc.mono fun e w' hr => ?_
  obtain ⟨u, rfl, hk⟩ := h e w' hr
  exact hk
theorem step_copyY {w : World} {ops : Array Oper} {o : Oper} {a : Act} {K : Act → World → Prop} {Q : Exit → Act → World → Prop} {E : Prop} {s : Nat} {t : TypeId} {v : Value} (hgd : o.guard = none)
    (ho : o.op = .call { callee := .value (.func 23), args := #[.tmp s], argTypes := #[t] }) (hs : a.tmps[s]? = some v) {R : Ending → World → Prop} (hc : Calls Try.prog 23 #[v] w R)
    (h : ∀ e w', R e w' → ∃ u, e = .returned u ∧ K (a.put o.dst u) w') : if Region.wanted o (yielded ops a.tmps) = true then Oper.wp Try.prog o a w K Q else E := by
  have hw : Region.wanted o (yielded ops a.tmps) = true := by simp [Region.wanted, hgd]
  rw [if_pos hw]
  exact copyY_wp ho hs hc h

def rTrimOk (N low : Int) (l : List CrtD) (w : World) (en : Ending) (w' : World) : Prop := ∃ o' ms', en = .returned (dagV N low o') ∧ OwnY w.heap.size w' o' ms' ∧ ms'.map Prod.fst = aboveR l low ∧ Below w.heap.size w w'
set_option maxRecDepth 100000 in
set_option maxHeartbeats 8000000 in
theorem rTrim_is (N L low : Int) (o : Ad) (l : List CrtD) (w : World) (h : GIn w o l) :
    Calls Try.prog 38 #[dagV N L o, .int .i64 low] w (rTrimOk N low l w) := by
  obtain ⟨g, hg⟩ : ∃ g, g = w.heap.size := ⟨_, rfl⟩
  obtain ⟨w1, hw1⟩ : ∃ w1, w1 = ((w.alloc (.cells (dagC N L o).toArray 24)).alloc (.cells (dagC 0 0 noAd).toArray 24)).alloc (.cells (dagC N low noAd).toArray 24) := ⟨_, rfl⟩
  obtain ⟨hb1, hsz, hx0, hx1, hx2⟩ := boxes3 w _ _ _ _ _ _ hw1
  rw [← hg] at hb1 hsz hx0 hx1 hx2
  have HG : Hid (w.heap.size = g) := hg.symm
  have HW : Hid (((w.alloc (.cells #[.int .i64 N, .int .i64 L, .slice o.A o.n o.c] 24)).alloc (.cells #[.int .i64 0, .int .i64 0, .slice none 0 0] 24)).alloc (.cells #[.int .i64 N, .int .i64 low, .slice none 0 0] 24) = w1) := hw1.symm
  have HB := Lib.hid hb1
  have HX0 := Lib.hid hx0
  have HX1 := Lib.hid hx1
  have HX2 := Lib.hid hx2
  have hn1 := h.few
  have HLEN : Hid (l.length = o.n) := h.len
  have HGET : Hid (∀ (i : Nat) (x : CrtD), l[i]? = some x → ∃ (b off : Nat) (a : CrtA), o.A = some ⟨b, off, none⟩ ∧ CrtFit x ∧ ∀ wX, Below g w wX → CrtAt wX b off i x a) := fun i x hx => by
    obtain ⟨b, off, a, h1, -, h3, h4⟩ := h.get hx
    exact ⟨b, off, a, h1, h3, fun wX hb => h4 wX (by rw [← hg]; exact hb)⟩
  have HS1 : Hid (w1.heap.size = g + 3) := hsz
  obtain ⟨f, hf⟩ : ∃ f : CrtD → Bool, f = fun y => decide (low < y.r) := ⟨_, rfl⟩
  have HF : Hid (∀ y, f y = decide (low < y.r)) := fun y => by rw [hf]
  have HN : Hid (aboveR l low = l.filter f) := by show _ = _; rw [hf]; rfl
  obtain ⟨d0, d1, d2⟩ := dag_cells hx0
  obtain ⟨wz, hwz⟩ : ∃ wz, wz = (w.alloc (.cells (dagC N L o).toArray 24)).alloc (.cells (dagC 0 0 noAd).toArray 24) := ⟨_, rfl⟩
  obtain ⟨-, hzs, hz0, -⟩ := boxes2 w _ _ _ _ hwz
  rw [← hg] at hzs hz0
  have HWZ : Hid ((w.alloc (.cells #[.int .i64 N, .int .i64 L, .slice o.A o.n o.c] 24)).alloc (.cells #[.int .i64 0, .int .i64 0, .slice none 0 0] 24) = wz) := hwz.symm
  have HW2 : Hid (wz.alloc (.cells #[.int .i64 N, .int .i64 low, .slice none 0 0] 24) = w1) := by show _ = _; rw [hwz, hw1]; rfl
  have HZS : Hid (wz.heap.size = g + 1 + 1) := hzs
  obtain ⟨y0, y1, y2⟩ := dag_cells hz0
  clear hg hw1 hb1 hsz hx0 hx1 hx2 h hf hwz hzs hz0
  unfold dagV
  go_enter Try.func38, Try.ntmps38
  go_upto_region 1 with fail
  rw [HG.out, HWZ.out]
  go_upto_region 2 with fail
  rw [HZS.out, HW2.out]
  clear y0 y1 y2
  go_wp2_with fail
  go_loopw [6] (fun i wr => ∃ (k : Nat) (o' : Ad) (ms' : List (CrtD × CrtA)), i = .int .i64 k ∧ k ≤ o.n ∧ Hid (o'.n ≤ k) ∧ Hid (ms'.map Prod.fst = (l.take k).filter f) ∧ Hid (OwnY (g + 3) wr o' ms') ∧ Hid (Box wr g (dagC N L o)) ∧ Hid (Box wr (g + 1) (dagC 0 0 noAd)) ∧ Hid (Box wr (g + 2) (dagC N low o')) ∧ Hid (Below g w wr)) (fun i _ => o.n - (intOf i).toNat)
  case atStart => exact ⟨0, noAd, [], rfl, Nat.zero_le _, Nat.le_refl _, rfl, ownY_none _ _, HX0.out, HX1.out, HX2.out, HB.out⟩
  case round =>
    clear d0 d1 d2
    obtain ⟨k, o', ms', rfl, hk, HOK, HM, HO, HY0, HY1, HY2, HBR⟩ := hrel
    obtain ⟨d0, d1, d2⟩ := dag_cells HY0.out
    obtain ⟨x0, x1, x2⟩ := dag_cells HY2.out
    have i0' : (0 : Int) ≤ (k : Int) := by omega
    by_cases hlt : k < o.n
    · have i1 : (k : Int) < (o.n : Int) := by omega
      obtain ⟨x, hx⟩ : ∃ x, l[k]? = some x := ⟨_, List.getElem?_eq_getElem (by rw [HLEN.out]; exact hlt)⟩
      obtain ⟨b, off, a, hA, hfit, hce⟩ := HGET.out k x hx
      obtain ⟨k0, k1, k2, k3, k4, k5, hcin⟩ := hce wr HBR.out
      have HTF := Lib.hid (take_filterY (f := f) hx)
      rw [hA] at d2
      by_cases hr : low < x.r
      · have hfx : f x = true := by rw [HF.out]; simpa using hr
        have HCN := Lib.hid (copyCN_is x a wr.drew hcin.drew hfit)
        have HP1 : Hid ((l.take (k + 1)).filter f = ms'.map Prod.fst ++ [x]) := by show _ = _; rw [HTF.out, HM.out, hfx]; rfl
        have hon : o'.n ≤ 1000000 := by have := HOK.out; omega
        have hgw : g + 2 < wr.heap.size := HY2.out.1
        have xz : wr.frozen? ⟨g + 1 + 1, 2, none⟩ = false := (HY2.out.2 2 _ rfl).2
        have HB2 : Hid (∀ k, o'.v.ownBlock = some k → g + 3 ≤ k) := fun k hk => (own_lt HO.out.row hk).2
        unfold crtV at HCN
        clear hx hce hcin hfit hfx HTF hA
        go_upto_region 6 with fail
        go_region_law (first
          | (refine step_copyY (by rfl) (by rfl) (by rfl) HCN.out ?_
             rintro e w4 ⟨a4, rfl, hn4, hb4'⟩
             have hb4 : Below wr.heap.size wr w4 := ((Below.refl _ _).drew).trans hb4'
             refine ⟨_, rfl, ?_⟩
             dsimp only [crtV]
             have x4 : w4.cell? ⟨g + 1 + 1, 2, none⟩ = some (.slice o'.A o'.n o'.c) := (hb4.cell (p := ⟨g + 1 + 1, 2, none⟩) hgw).trans x2
             have x4a : ∀ ob, (w4.alloc ob).cell? ⟨g + 1 + 1, 2, none⟩ = some (.slice o'.A o'.n o'.c) := fun ob => ((hb4.alloc hb4.size ob).cell (p := ⟨g + 1 + 1, 2, none⟩) hgw).trans x2)
          | (refine step_app_elemY _ (by rfl) _ _ (by rfl) (g + 3) _ o'.n (cellsY ms') (by rfl) (ownS_below HO.out.row (hb4.alloc hb4.size _)) w4.heap.size x a4 (by rfl) (fun i u hu => ((box_new w4 (crtC x a4) 45).2 i u hu).1) hon (by have := hb4.size; simp; omega) ?_
             intro g' c' w7 ho7 hg7
             have ht7 : Touch (fun k => o'.v.ownBlock = some k) wr w7 := ((Touch.of hb4).alloc _).on (Touch.grown hg7 fun k hk => hk)
             have x7 : w7.cell? ⟨g + 1 + 1, 2, none⟩ = some (.slice o'.A o'.n o'.c) := (ht7.cell (b := g + 1 + 1) hgw (fun hf => by have := HB2.out _ hf; omega)).trans x2
             have z7 : w7.frozen? ⟨g + 1 + 1, 2, none⟩ = false := (ht7.frozen (b := g + 1 + 1) hgw (fun hf => by have := HB2.out _ hf; omega)).trans xz))
        all_goals
          obtain ⟨w8, hw8⟩ : ∃ w8, w8 = w7.setCell ⟨g + 1 + 1, 2, none⟩ (.slice (some ⟨g', 0, none⟩) (o'.n + 1) c') := ⟨_, rfl⟩
          rw [← hw8]
          have hfar : ∀ j, j < g + 3 → ¬ o'.v.ownBlock = some j := fun j hj hf => by have := HB2.out _ hf; omega
          have hpush := HO.out.push (x := x) (a := a4) (o' := ⟨some ⟨g', 0, none⟩, o'.n + 1, c'⟩) hb4 hn4 (by omega) hg7 ho7 rfl
          have t8 : Touch (fun k => k = g + 2) w7 w8 := by rw [hw8]; exact Touch.set (F := fun k => k = g + 2) (Touch.refl _ _) (.inl rfl) _
          have HPU : Hid (OwnY (g + 3) w8 ⟨some ⟨g', 0, none⟩, o'.n + 1, c'⟩ (ms' ++ [(x, a4)])) := hpush.touch t8 (fun k hk => by have e : k = g + 2 := hk; omega)
          have HZ0 : Hid (Box w8 g (dagC N L o)) := (HY0.out.touch ht7 (hfar _ (by omega))).touch t8 (fun hk => by have e : g = g + 2 := hk; omega)
          have HZ1 : Hid (Box w8 (g + 1) (dagC 0 0 noAd)) := (HY1.out.touch ht7 (hfar _ (by omega))).touch t8 (fun hk => by have e : g + 1 = g + 2 := hk; omega)
          have HZ2 : Hid (Box w8 (g + 2) (dagC N low ⟨some ⟨g', 0, none⟩, o'.n + 1, c'⟩)) := by show Box _ _ _; rw [hw8]; exact (HY2.out.touch ht7 (hfar _ (by omega))).set (j := 2) (show 2 < 3 by decide)
          have HB8 : Hid (Below g w w8) := (HBR.out.trans (ht7.below (fun k hk => by have := HB2.out k hk; omega) (by omega))).trans (t8.below (fun k hk => by have e : k = g + 2 := hk; omega) (by have := ht7.size; omega))
          clear hw8 hfar hpush t8 ho7 hg7 ht7 x7 z7 hn4 hb4' hb4 x4 x4a
          go_wp2_with fail
          go_roundw
          case rel => exact ⟨k + 1, ⟨some ⟨g', 0, none⟩, o'.n + 1, c'⟩, ms' ++ [(x, a4)], by go_num, by omega, by show o'.n + 1 ≤ _; have := HOK.out; omega, by show _ = _; rw [HP1.out, List.map_append]; rfl, HPU.out, HZ0.out, HZ1.out, HZ2.out, HB8.out⟩
          case measure => simp [intOf]; omega
      · have hfx : f x = false := by rw [HF.out]; simpa using hr
        have HP1 : Hid (ms'.map Prod.fst = (l.take (k + 1)).filter f) := by show _ = _; rw [HTF.out, HM.out, hfx]; simp
        clear hx hce hcin hfit hfx HTF hA
        go_wp2_with fail
        go_roundw
        case rel => exact ⟨k + 1, o', ms', by go_num, by omega, by show o'.n ≤ _; have := HOK.out; omega, HP1.out, HO.out, HY0.out, HY1.out, HY2.out, HBR.out⟩
        case measure => simp [intOf]; omega
    · have i1 : ¬ ((k : Int) < (o.n : Int)) := by omega
      have HM2 : Hid (ms'.map Prod.fst = aboveR l low) := by
        show _ = _
        rw [HN.out, HM.out, List.take_of_length_le (by rw [HLEN.out]; omega)]
      have hx6 : Box wr (g + 1 + 1) (dagC N low o') := HY2.out
      have hz6 := HY1.out
      go_upto_region 7 with fail
      clear d0 d1 d2 x0 x1 x2
      go_wp2_with (first
        | (refine wpList_load_box rfl 24 _ rfl (g + 1 + 1) rfl (dagC N low o') hx6 _ Try.underlying24 rfl size_dag ?_)
        | (refine wpList_store_box rfl 24 _ _ rfl (g + 1) 0 (dagC N low o') (dagC 0 0 noAd) (dagC N low o') rfl rfl hz6 (show 0 + 3 ≤ 3 by decide) rfl size_dag rfl ?_))
      intro w9 by9 T9
      have t9 := T9 (fun k => k = g + 1) rfl
      obtain ⟨r0, r1, r2⟩ := dag_cells by9
      have ho9 := HO.out.touch t9 (fun k hk => by have e : k = g + 1 := hk; omega)
      have hb9 : Below g w w9 := HBR.out.trans (t9.below (fun k hk => by have e : k = g + 1 := hk; omega) (by have := HY2.out.1; omega))
      go_wp2_with fail
      refine bodyPost_ret (v := dagV N low o') (by simp [results, Try.results38, go_sem, r0, r1, r2, dagV]) rfl ⟨o', ms', rfl, ho9.more (by rw [HG.out]; omega), HM2.out, ?_⟩
      rw [HG.out]
      exact hb9

end Go.Proofs.Ytfldfillcmamcaa
