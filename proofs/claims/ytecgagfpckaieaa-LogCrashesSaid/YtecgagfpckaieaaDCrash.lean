/-
  Package disk: Crash.
-/
import Derived.Test.YtecgagfpckaieaaDFiles
namespace Go.Proofs.Ytecgagfpckaieaa
open Go.RowKit

theorem outl_byts {vis dur : List Int} (h1 : Byts vis) (h2 : Byts dur) (p : Int) : Byts (outl vis dur p) := by
  unfold outl
  split
  · exact h2
  · split
    · exact h1
    · intro c hc
      simp only [tornB, List.mem_map] at hc
      obtain ⟨i, _, rfl⟩ := hc
      split
      · rw [List.getD_eq_getElem?_getD]; exact h1.at_ i
      · rw [List.getD_eq_getElem?_getD]; exact h2.at_ i

/-- make([]T, 0, n) of elements of several cells -/
theorem wpList_make_roomS {P : Program} (w : World) {ops : Array Oper} {rest : List Oper} {o : Oper} {a : Act} {Q : Exit → Act → World → Prop}
    (hg : o.guard = none) (l c : Operand) (t : TypeId) (hop : o.op = Op.makeSlice t l c)
    (B : Nat) (e : TypeId) (z : Value) (sz bytes : Nat) (h1 : P.underlying t = some (.slice e)) (hinfo : (P.info? e).map (fun i => (i.zero, i.size, i.bytes)) = some (some z, sz, bytes)) (hby : bytes ≤ 256)
    (n : Nat) (hl : a.eval l = .int .i64 0) (hc : a.eval c = .int .i64 (n : Int)) (hn : n ≤ 1000000) (hB : B ≤ w.heap.size)
    (hK : ∀ v w', w'.ownsRow B e sz v 0 [] → Below B w w' → (∀ k, v.ownBlock = some k → w.heap.size ≤ k) → wpList P ops Q rest (a.put o.dst v) w') :
    wpList P ops Q (o :: rest) a w := by
  obtain ⟨i, hi, hz, hsize, hbytes⟩ := info_parts hinfo
  refine wpList_make_own (P := P) w hg l c t hop w.heap.size e i z sz h1 hi hz hsize .i64 .i64 n n hl hc rfl ?_ (by unfold maxLen; omega) (Nat.le_refl _) ?_
  · rw [hbytes]
    have := Nat.mul_le_mul hby hn
    omega
  · intro w' hown hgr
    exact hK _ w' (ownS_more hown hB) ((belowS_own (v := .slice none 0 0) (xs := []) (n := 0) (e := e) (s := sz) (Below.refl _ _) (World.ownsRow_nil _ _ _ _) hgr (Nat.le_refl _)).mono hB) (fun k hk => (own_lt hown hk).2)

set_option maxRecDepth 100000 in
set_option maxHeartbeats 16000000 in
theorem crash_is {F : Nat → Prop} {D : PD} (g : Nat) (AP0 : Option Addr) (nP0 cP0 : Nat) (ps0 : List Int) (w : World) (h : IsDisk w g F D) (hP0 : ps0.length = nP0) (hrP : Rd w AP0 (i64s ps0)) (hcP : nP0 ≤ cP0) (hmP : cP0 ≤ maxLen) (hpr : ∀ x ∈ ps0, -9223372036854775808 ≤ x ∧ x ≤ 9223372036854775807) :
    Calls Try.prog 31 #[.pointer (some ⟨g, 0, none⟩), .slice AP0 nP0 cP0] w (FsTo w (dCrash D ps0)) := by
  obtain ⟨vL, l, ms, h⟩ := h
  have HD := Lib.hid h
  have HPR := Lib.hid hpr
  have HP0 := Lib.hid hP0
  have hgl : g < w.heap.size := h.lt _ h.here
  have c0 := h.c0
  have hfew := h.few
  obtain ⟨AL, cL, hvL, hnc, hcm, hrd⟩ := h.slice rfl
  obtain ⟨nL, hnL⟩ : ∃ nL, ms.length = nL := ⟨_, rfl⟩
  rw [hnL] at hvL hnc hfew
  have HRD := Lib.hid hrd
  have HN := Lib.hid hnL
  have HEQ := Lib.hid h.eqL
  subst hvL
  unfold maxLen at hmP
  clear h hrd hnL hpr hP0
  go_enter Try.func31, Try.ntmps31
  go_wp2_with (first | (refine wpList_make_roomS _ rfl _ _ 63 rfl w.heap.size 76 _ 2 40 Try.underlying63 info_afile (by decide) nL rfl rfl (by omega) (Nat.le_refl _) ?_))
  intro v1 w1 ho1 hb1 hv1
  have k0 : w1.cell? ⟨g, 0, none⟩ = some (.slice AL nL cL) := (hb1.cell (p := ⟨g, 0, none⟩) hgl).trans c0
  clear c0
  go_wp2_with fail
  go_loopw [1, 5, 7, 8, 20] (fun pv v _ _ i wr => ∃ (k : Nat) (AP : Option Addr) (nP cP : Nat) (ps : List Int) (xs : List FL), i = .int .i64 k ∧ k ≤ nL ∧ pv = .slice AP nP cP ∧ nP ≤ cP ∧ (cP : Int) ≤ 9223372036854775807 ∧ Hid (ps.length = nP) ∧ Hid (Rd w AP (i64s ps)) ∧ Hid (∀ x ∈ ps, -9223372036854775808 ≤ x ∧ x ≤ 9223372036854775807) ∧ Hid (xs.length = k) ∧ Hid (dCrash D ps0 = xs.map FL.pl ++ crashL (D.L.drop k) ps) ∧ Hid (FsOwn wr w.heap.size v xs) ∧ Below w.heap.size w wr) (fun _ _ _ _ i _ => nL - (intOf i).toNat)
  case atStart => exact ⟨0, _, _, _, ps0, [], rfl, by omega, rfl, hcP, by omega, HP0.out, hrP, HPR.out, rfl, rfl, ⟨ho1, fun f hf => by simp at hf, by cases v1.ownBlock <;> simp⟩, hb1⟩
  case round =>
    obtain ⟨k, AP, nP, cP, ps, xs, rfl, hk, rfl, hnP, hcPm, HPL, HPD, HPS, HXL, HCR, HFS, hb⟩ := hrel
    clear ho1 hb1 hv1 k0
    by_cases hlt : k < nL
    · obtain ⟨m, hm⟩ : ∃ m, ms[k]? = some m := ⟨_, List.getElem?_eq_getElem (by rw [HN.out]; omega)⟩
      have hmem : m ∈ ms := List.mem_of_getElem? hm
      obtain ⟨b, off, rfl, hbl, hcell⟩ := (HRD.out.below hb).open_ (by rw [cellsD_length, HN.out]; omega)
      have a0 := hcell _ _ (cellsD_at hm (j := 0) rfl)
      have a1 := hcell _ _ (cellsD_at hm (j := 1) rfl)
      have a2 := hcell _ _ (cellsD_at hm (j := 2) rfl)
      have a3 := hcell _ _ (cellsD_at hm (j := 3) rfl)
      simp only [← Nat.add_assoc, Nat.add_zero] at a0 a1 a2 a3
      have hf := (HD.out.below hb).els m hmem
      obtain ⟨AV, cV, hvV, hcV, hmV, hrV⟩ := rd_own hf.rV
      obtain ⟨AD, cD, hdV, hcD, hmD, hrD⟩ := rd_own hf.rD
      obtain ⟨nV, hnV⟩ : ∃ nV, m.vis.length = nV := ⟨_, rfl⟩
      obtain ⟨nD, hnD⟩ : ∃ nD, m.dur.length = nD := ⟨_, rfl⟩
      have hz1 := hf.z1
      have hz2 := hf.z2
      rw [hnV] at hvV hcV hz1
      rw [hnD] at hdV hcD hz2
      rw [hvV] at a1
      rw [hdV] at a2
      have hlk : D.L.drop k = m.pf :: D.L.drop (k + 1) := by
        have h1 : D.L[k]? = some m.pf := by rw [HEQ.out, List.getElem?_map, hm]; rfl
        obtain ⟨h2, h3⟩ := List.getElem?_eq_some_iff.1 h1
        rw [List.drop_eq_getElem_cons h2, h3]
      have HB1 := Lib.hid hf.b1
      have HB2 := Lib.hid hf.b2
      have HNV := Lib.hid hnV
      have HND := Lib.hid hnD
      have HLK := Lib.hid hlk
      have HM := Lib.hid hm
      have i0 : (0 : Int) ≤ (k : Int) := by omega
      have i1 : (k : Int) < (nL : Int) := by omega
      obtain ⟨gb, hgb⟩ : ∃ gb, gb = wr.heap.size := ⟨_, rfl⟩
      obtain ⟨w2, hw2⟩ : ∃ w2, w2 = wr.alloc (.cells #[.string m.nm, .slice AV nV cV, .slice AD nD cD, .int .i64 m.same] 80) := ⟨_, rfl⟩
      have hb2 : Below wr.heap.size wr w2 := by rw [hw2]; exact (Below.refl _ _).alloc (Nat.le_refl _) _
      have hbk2 : w2.heap[gb]? = some (.cells #[.string m.nm, .slice AV nV cV, .slice AD nD cD, .int .i64 m.same] 80 (0, 0)) := by rw [hw2, hgb]; exact heap_alloc_new wr _
      have hgb2 : gb < w2.heap.size := (Array.getElem?_eq_some_iff.1 hbk2).1
      have hbw2 : Below w.heap.size w w2 := hb.trans (hb2.mono hb.size)
      have HBK2 := Lib.hid hbk2
      have HB22 := Lib.hid hb2
      have HRV := Lib.hid (hrV.below hb2)
      have HRD2 := Lib.hid (hrD.below hb2)
      have HFS2 := Lib.hid (HFS.out.below hb2)
      have HGB := Lib.hid hgb
      go_upto_region 5 with fail
      rw [← hw2, ← hgb]
      clear hcell hm hmem hf hvV hdV hnV hnD hlk hw2 hb2 hbk2 hgb hrV hrD a0 a1 a2 a3
      obtain ⟨b0, b1, b2, b3⟩ := box4 HBK2.out
      go_wp2_with fail
      by_cases heq : m.vis = m.dur
      · refine (bequal_is true AV AD nV cV nD cD m.vis m.dur _ HNV.out HND.out HRV.out HRD2.out HB1.out HB2.out (decide_eq_true heq)).mono ?_
        rintro e w' ⟨rfl, rfl⟩
        have HEV := Lib.hid heq
        clear heq
        go_wp2_with fail
        obtain ⟨w3, hw3⟩ : ∃ w3, w3 = w2.drew := ⟨_, rfl⟩
        have hb23 : Below w2.heap.size w2 w3 := by rw [hw3]; exact (Below.refl _ _).drew
        have hbk3 := (hb23.block gb hgb2).trans HBK2.out
        have HB3 := Lib.hid hb23
        have HBK3 := Lib.hid hbk3
        have HW3 := Lib.hid hw3
        clear hw3 hb23 hbk3
        refine wp_region_held_drew (S := fun w' => w'.cell? ⟨gb, 0, none⟩ = some (.string m.nm) ∧ w'.cell? ⟨gb, 1, none⟩ = some (.slice AV nV cV) ∧ w'.cell? ⟨gb, 2, none⟩ = some (.slice AD nD cD) ∧ w'.cell? ⟨gb, 3, none⟩ = some (.int .i64 m.same)) (by kernel_rfl) (by rw [← HW3.out]; exact box4 HBK3.out) (fun _ => ?_)
        rw [← HW3.out]
        refine ytake_0 (v := ?vv22) (by kernel_rfl) (by kernel_rfl) (by kernel_rfl) (fun _ _ _ h => h) (Or.inl ⟨by rfl, ?hy22⟩) (box4 HBK3.out) ?_
        case hy22 =>
          intro wX hSw
          go_simp
          try with_reducible rfl
        try simp only [Act.put, List.setIfInBounds_toArray, List.set_cons_zero, List.set_cons_succ]
        refine ytake_1 (v := ?vv23) (by kernel_rfl) (by kernel_rfl) (by kernel_rfl) (fun _ _ _ h => h) (Or.inl ⟨by rfl, ?hy23⟩) (box4 HBK3.out) ?_
        case hy23 =>
          intro wX hSw
          go_simp
          try with_reducible rfl
        try simp only [Act.put, List.setIfInBounds_toArray, List.set_cons_zero, List.set_cons_succ]
        refine ytake_2 (v := ?vv24) (by kernel_rfl) (by kernel_rfl) (by kernel_rfl) (fun _ _ _ h => h) (Or.inl ⟨by rfl, ?hy24⟩) (box4 HBK3.out) ?_
        case hy24 =>
          intro wX hSw
          have hcc := hSw.1
          go_simp
          try with_reducible rfl
        try simp only [Act.put, List.setIfInBounds_toArray, List.set_cons_zero, List.set_cons_succ]
        refine ytake_3 (v := ?vv25) (by kernel_rfl) (by kernel_rfl) (by kernel_rfl) (fun _ _ _ h => h) (Or.inl ⟨by rfl, ?hy25⟩) (box4 HBK3.out) ?_
        case hy25 =>
          intro wX hSw
          have hc0 := hSw.1
          have hc1 := hSw.2.1
          have hc2 := hSw.2.2.1
          have hc3 := hSw.2.2.2
          go_simp
          try with_reducible rfl
        try simp only [Act.put, List.setIfInBounds_toArray, List.set_cons_zero, List.set_cons_succ]
        refine ytake_4 (v := ?vv26) (by kernel_rfl) (by kernel_rfl) (by kernel_rfl) (fun _ _ _ h => h) (Or.inl ⟨by rfl, ?hy26⟩) (box4 HBK3.out) ?_
        case hy26 =>
          intro wX hSw
          go_simp
          try with_reducible rfl
        try simp only [Act.put, List.setIfInBounds_toArray, List.set_cons_zero, List.set_cons_succ]
        refine yready_5 (by kernel_rfl) ?_
        intro KQ hK
        rw [if_pos (by rfl)]
        try go_simp
        refine (outlasts_is m.nm AV AD cV cD nV nD m.vis m.dur m.same 0 _ HNV.out HND.out (HRV.out.below HB3.out) (HRD2.out.below HB3.out) (by omega) (by omega) hcV (fun h => by simp at h) (by omega)).mono ?_
        rintro e w4 ⟨v4, rfl, ho4, hb4⟩
        obtain ⟨A4, c4, rfl, _, _, _⟩ := rd_own (by rw [u8s_length] at ho4; exact ho4)
        try go_simp
        have hbk4 := (hb4.block gb (Nat.lt_of_lt_of_le hgb2 HB3.out.size)).trans HBK3.out
        refine hK.out _ _ (box4 hbk4) (fun _ => ?_)
        clear hK KQ
        try simp only [Act.put, List.setIfInBounds_toArray, List.set_cons_zero, List.set_cons_succ]
        refine ytake_6 (v := ?vv27) (by kernel_rfl) (by kernel_rfl) (by kernel_rfl) (fun _ _ _ h => h) (Or.inl ⟨by rfl, ?hy27⟩) (box4 hbk4) ?_
        case hy27 =>
          intro wX hSw
          go_simp
          try with_reducible rfl
        try simp only [Act.put, List.setIfInBounds_toArray, List.set_cons_zero, List.set_cons_succ]
        refine yready_7 (by kernel_rfl) ?_
        intro KQ hK
        rw [if_pos (by rfl)]
        go_simp
        obtain ⟨n4, hn4⟩ : ∃ n4, (outl m.vis m.dur 0).length = n4 := ⟨_, rfl⟩
        rw [hn4] at ho4 ⊢
        obtain ⟨w5, hw5⟩ : ∃ w5, w5 = w4.alloc (.cells #[.string m.nm, .slice A4 n4 c4] 76) := ⟨_, rfl⟩
        have hb5 : Below w4.heap.size w4 w5 := by rw [hw5]; exact (Below.refl _ _).alloc (Nat.le_refl _) _
        have hgx : w5.heap[w4.heap.size]? = some (.cells ([.string m.nm, .slice A4 n4 c4] : List Value).toArray 76 (0, 0)) := by rw [hw5]; exact heap_alloc_new w4 _
        have hbk5 := (hb5.block gb (Nat.lt_of_lt_of_le hgb2 (Nat.le_trans HB3.out.size hb4.size))).trans hbk4
        rw [← hw5]
        refine hK.out _ _ (box4 hbk5) (fun _ => ?_)
        clear hK KQ hw5
        try simp only [Act.put, List.setIfInBounds_toArray, List.set_cons_zero, List.set_cons_succ]
        have hb25 : Below w2.heap.size w2 w5 := HB3.out.trans ((hb4.trans (hb5.mono hb4.size)).mono HB3.out.size)
        have hfs5 := HFS2.out.below hb25
        have hrow5 := hfs5.row
        rw [HXL.out] at hrow5
        obtain ⟨A6, c6, w6, hrun, hown6, hg6, hloc6⟩ := run_app_elem (P := Try.prog) w5 63 63 w.heap.size 76 _ 2 40 Try.underlying63 info_afile rfl (by decide) (by decide) _ k _ hrow5 w4.heap.size [.string m.nm, .slice A4 n4 c4] rfl hgx (by simp; exact ⟨rfl, rfl⟩) (by omega) (Nat.le_trans hbw2.size hb25.size)
        have hbk6 := (hg6.block gb (Nat.lt_of_lt_of_le hgb2 hb25.size) (fun e => by have h1 := (own_lt HFS.out.row e.symm).1; have h2 := HGB.out; omega)).trans hbk5
        refine yready_8 (by kernel_rfl) ?_
        intro KQ hK
        rw [if_pos (by rfl)]
        refine wp_call_run _ (.tmp 40) (.tmp 47) 63 63 rfl rfl rfl hrun ?_
        refine hK.out _ _ (box4 hbk6) (fun _ => ?_)
        clear hK KQ
        try simp only [Act.put, List.setIfInBounds_toArray, List.set_cons_zero, List.set_cons_succ]
        refine ytake_9 (v := ?vv28) (by kernel_rfl) (by kernel_rfl) (by kernel_rfl) (fun _ _ _ h => h) (Or.inl ⟨by rfl, ?hy28⟩) (box4 hbk6) ?_
        case hy28 =>
          intro wX hSw
          go_simp
          try with_reducible rfl
        try simp only [Act.put, List.setIfInBounds_toArray, List.set_cons_zero, List.set_cons_succ]
        refine wpAnyH_done (by kernel_rfl) ?_ _
        have hfs6 : FsOwn w6 w.heap.size (.slice A6 (k + 1) c6) (xs ++ [⟨m.nm, outl m.vis m.dur 0, .slice A4 n4 c4⟩]) :=
          FsOwn.snoc (w := w3) (f := ⟨m.nm, outl m.vis m.dur 0, .slice A4 n4 c4⟩) hfs5 (own_cast (own_below ho4 hb5) (u8s_length _)) (outl_byts HB1.out HB2.out 0) (Nat.le_trans hbw2.size HB3.out.size) HXL.out.symm (fun k' hk' => by
            refine Nat.lt_of_lt_of_le ?_ HB3.out.size
            rcases hk' with hk' | ⟨x, hx, hk'⟩
            · exact (own_lt HFS2.out.row hk').1
            · exact (own_lt (HFS2.out.els x hx).1 hk').1) hown6 hg6 hloc6
        have hbw6 : Below w.heap.size w w6 := belowS_own (hbw2.trans (hb25.mono hbw2.size)) hrow5 hg6 (Nat.le_trans hbw2.size hb25.size)
        have hcr : dCrash D ps0 = (xs ++ ([⟨m.nm, outl m.vis m.dur 0, .slice A4 n4 c4⟩] : List FL)).map FL.pl ++ crashL (D.L.drop (k + 1)) ps := by
          rw [HCR.out, HLK.out, List.map_append, List.append_assoc]
          congr 1
          show crashL (m.pf :: D.L.drop (k + 1)) ps = [(m.nm, outl m.vis m.dur 0)] ++ _
          rw [crashL, if_pos (show m.pf.vis = m.pf.dur from HEV.out)]
          rfl
        have HFS6 := Lib.hid hfs6
        have HCR6 := Lib.hid hcr
        have HXL6 : Hid ((xs ++ [⟨m.nm, outl m.vis m.dur 0, .slice A4 n4 c4⟩] : List FL).length = k + 1) := by show _ = _; rw [List.length_append, HXL.out]; rfl
        clear hfs6 hcr hrun hown6 hg6 hloc6 hfs5 hrow5 hb25 hgx hbk4 hbk5 hbk6 ho4 hb4 hb5 hn4
        go_wp2_with fail
        go_roundw
        case rel => exact ⟨k + 1, AP, nP, cP, ps, _, by go_num, by omega, rfl, hnP, hcPm, HPL.out, HPD.out, HPS.out, HXL6.out, HCR6.out, HFS6.out, hbw6⟩
        case measure => simp [intOf]; omega
      · have hmx : 0 < max nV nD := by
          rcases Nat.eq_zero_or_pos (max nV nD) with h | h
          · have h1 : m.vis = [] := List.eq_nil_of_length_eq_zero (by rw [HNV.out]; omega)
            have h2 : m.dur = [] := List.eq_nil_of_length_eq_zero (by rw [HND.out]; omega)
            exact absurd (h1.trans h2.symm) heq
          · exact h
        by_cases hnp0 : nP = 0
        · have hps0 : ps = [] := List.eq_nil_of_length_eq_zero (by rw [HPL.out]; exact hnp0)
          have HPS0 := Lib.hid hps0
          have HNE := Lib.hid heq
          have i5 : ¬ ((0 : Int) < (nP : Int)) := by omega
          refine (bequal_is false AV AD nV cV nD cD m.vis m.dur _ HNV.out HND.out HRV.out HRD2.out HB1.out HB2.out (decide_eq_false heq)).mono ?_
          rintro e w' ⟨rfl, rfl⟩
          clear heq hps0 hmx hnp0
          go_wp2_with fail
          obtain ⟨w3, hw3⟩ : ∃ w3, w3 = w2.drew := ⟨_, rfl⟩
          have hb23 : Below w2.heap.size w2 w3 := by rw [hw3]; exact (Below.refl _ _).drew
          have hbk3 := (hb23.block gb hgb2).trans HBK2.out
          have HB3 := Lib.hid hb23
          have HBK3 := Lib.hid hbk3
          have HW3 := Lib.hid hw3
          clear hw3 hb23 hbk3
          refine wp_region_held_drew (S := fun w' => w'.cell? ⟨gb, 0, none⟩ = some (.string m.nm) ∧ w'.cell? ⟨gb, 1, none⟩ = some (.slice AV nV cV) ∧ w'.cell? ⟨gb, 2, none⟩ = some (.slice AD nD cD) ∧ w'.cell? ⟨gb, 3, none⟩ = some (.int .i64 m.same)) (by kernel_rfl) (by rw [← HW3.out]; exact box4 HBK3.out) (fun _ => ?_)
          rw [← HW3.out]
          refine ytake_0 (v := ?vv1) (by kernel_rfl) (by kernel_rfl) (by kernel_rfl) (fun _ _ _ h => h) (Or.inl ⟨by rfl, ?hy1⟩) (box4 HBK3.out) ?_
          case hy1 =>
            intro wX hSw
            go_simp
            try with_reducible rfl
          try simp only [Act.put, List.setIfInBounds_toArray, List.set_cons_zero, List.set_cons_succ]
          refine ytake_1 (v := ?vv2) (by kernel_rfl) (by kernel_rfl) (by kernel_rfl) (fun _ _ _ h => h) (Or.inl ⟨by rfl, ?hy2⟩) (box4 HBK3.out) ?_
          case hy2 =>
            intro wX hSw
            go_simp
            try with_reducible rfl
          try simp only [Act.put, List.setIfInBounds_toArray, List.set_cons_zero, List.set_cons_succ]
          refine ytake_2 (v := ?vv3) (by kernel_rfl) (by kernel_rfl) (by kernel_rfl) (fun _ _ _ h => h) (Or.inl ⟨by rfl, ?hy3⟩) (box4 HBK3.out) ?_
          case hy3 =>
            intro wX hSw
            have hcc := hSw.1
            go_simp
            try with_reducible rfl
          try simp only [Act.put, List.setIfInBounds_toArray, List.set_cons_zero, List.set_cons_succ]
          refine ytake_3 (v := ?vv4) (by kernel_rfl) (by kernel_rfl) (by kernel_rfl) (fun _ _ _ h => h) (Or.inl ⟨by rfl, ?hy4⟩) (box4 HBK3.out) ?_
          case hy4 =>
            intro wX hSw
            have hc0 := hSw.1
            have hc1 := hSw.2.1
            have hc2 := hSw.2.2.1
            have hc3 := hSw.2.2.2
            go_simp
            try with_reducible rfl
          try simp only [Act.put, List.setIfInBounds_toArray, List.set_cons_zero, List.set_cons_succ]
          refine ytake_4 (v := ?vv5) (by kernel_rfl) (by kernel_rfl) (by kernel_rfl) (fun _ _ _ h => h) (Or.inl ⟨by rfl, ?hy5⟩) (box4 HBK3.out) ?_
          case hy5 =>
            intro wX hSw
            go_simp
            try with_reducible rfl
          try simp only [Act.put, List.setIfInBounds_toArray, List.set_cons_zero, List.set_cons_succ]
          refine yready_5 (by kernel_rfl) ?_
          intro KQ hK
          rw [if_pos (by rfl)]
          try go_simp
          refine (outlasts_is m.nm AV AD cV cD nV nD m.vis m.dur m.same 0 _ HNV.out HND.out (HRV.out.below HB3.out) (HRD2.out.below HB3.out) (by omega) (by omega) hcV (fun h => by simp at h) (by omega)).mono ?_
          rintro e w4 ⟨v4, rfl, ho4, hb4⟩
          obtain ⟨A4, c4, rfl, _, _, _⟩ := rd_own (by rw [u8s_length] at ho4; exact ho4)
          try go_simp
          have hbk4 := (hb4.block gb (Nat.lt_of_lt_of_le hgb2 HB3.out.size)).trans HBK3.out
          refine hK.out _ _ (box4 hbk4) (fun _ => ?_)
          clear hK KQ
          try simp only [Act.put, List.setIfInBounds_toArray, List.set_cons_zero, List.set_cons_succ]
          refine ytake_6 (v := ?vv6) (by kernel_rfl) (by kernel_rfl) (by kernel_rfl) (fun _ _ _ h => h) (Or.inl ⟨by rfl, ?hy6⟩) (box4 hbk4) ?_
          case hy6 =>
            intro wX hSw
            go_simp
            try with_reducible rfl
          try simp only [Act.put, List.setIfInBounds_toArray, List.set_cons_zero, List.set_cons_succ]
          refine yready_7 (by kernel_rfl) ?_
          intro KQ hK
          rw [if_pos (by rfl)]
          go_simp
          obtain ⟨n4, hn4⟩ : ∃ n4, (outl m.vis m.dur 0).length = n4 := ⟨_, rfl⟩
          rw [hn4] at ho4 ⊢
          obtain ⟨w5, hw5⟩ : ∃ w5, w5 = w4.alloc (.cells #[.string m.nm, .slice A4 n4 c4] 76) := ⟨_, rfl⟩
          have hb5 : Below w4.heap.size w4 w5 := by rw [hw5]; exact (Below.refl _ _).alloc (Nat.le_refl _) _
          have hgx : w5.heap[w4.heap.size]? = some (.cells ([.string m.nm, .slice A4 n4 c4] : List Value).toArray 76 (0, 0)) := by rw [hw5]; exact heap_alloc_new w4 _
          have hbk5 := (hb5.block gb (Nat.lt_of_lt_of_le hgb2 (Nat.le_trans HB3.out.size hb4.size))).trans hbk4
          rw [← hw5]
          refine hK.out _ _ (box4 hbk5) (fun _ => ?_)
          clear hK KQ hw5
          try simp only [Act.put, List.setIfInBounds_toArray, List.set_cons_zero, List.set_cons_succ]
          have hb25 : Below w2.heap.size w2 w5 := HB3.out.trans ((hb4.trans (hb5.mono hb4.size)).mono HB3.out.size)
          have hfs5 := HFS2.out.below hb25
          have hrow5 := hfs5.row
          rw [HXL.out] at hrow5
          obtain ⟨A6, c6, w6, hrun, hown6, hg6, hloc6⟩ := run_app_elem (P := Try.prog) w5 63 63 w.heap.size 76 _ 2 40 Try.underlying63 info_afile rfl (by decide) (by decide) _ k _ hrow5 w4.heap.size [.string m.nm, .slice A4 n4 c4] rfl hgx (by simp; exact ⟨rfl, rfl⟩) (by omega) (Nat.le_trans hbw2.size hb25.size)
          have hbk6 := (hg6.block gb (Nat.lt_of_lt_of_le hgb2 hb25.size) (fun e => by have h1 := (own_lt HFS.out.row e.symm).1; have h2 := HGB.out; omega)).trans hbk5
          refine yready_8 (by kernel_rfl) ?_
          intro KQ hK
          rw [if_pos (by rfl)]
          refine wp_call_run _ (.tmp 40) (.tmp 47) 63 63 rfl rfl rfl hrun ?_
          refine hK.out _ _ (box4 hbk6) (fun _ => ?_)
          clear hK KQ
          try simp only [Act.put, List.setIfInBounds_toArray, List.set_cons_zero, List.set_cons_succ]
          refine ytake_9 (v := ?vv7) (by kernel_rfl) (by kernel_rfl) (by kernel_rfl) (fun _ _ _ h => h) (Or.inl ⟨by rfl, ?hy7⟩) (box4 hbk6) ?_
          case hy7 =>
            intro wX hSw
            go_simp
            try with_reducible rfl
          try simp only [Act.put, List.setIfInBounds_toArray, List.set_cons_zero, List.set_cons_succ]
          refine wpAnyH_done (by kernel_rfl) ?_ _
          have hfs6 : FsOwn w6 w.heap.size (.slice A6 (k + 1) c6) (xs ++ [⟨m.nm, outl m.vis m.dur 0, .slice A4 n4 c4⟩]) :=
            FsOwn.snoc (w := w3) (f := ⟨m.nm, outl m.vis m.dur 0, .slice A4 n4 c4⟩) hfs5 (own_cast (own_below ho4 hb5) (u8s_length _)) (outl_byts HB1.out HB2.out 0) (Nat.le_trans hbw2.size HB3.out.size) HXL.out.symm (fun k' hk' => by
              refine Nat.lt_of_lt_of_le ?_ HB3.out.size
              rcases hk' with hk' | ⟨x, hx, hk'⟩
              · exact (own_lt HFS2.out.row hk').1
              · exact (own_lt (HFS2.out.els x hx).1 hk').1) hown6 hg6 hloc6
          have hbw6 : Below w.heap.size w w6 := belowS_own (hbw2.trans (hb25.mono hbw2.size)) hrow5 hg6 (Nat.le_trans hbw2.size hb25.size)
          have hcr : dCrash D ps0 = (xs ++ ([⟨m.nm, outl m.vis m.dur 0, .slice A4 n4 c4⟩] : List FL)).map FL.pl ++ crashL (D.L.drop (k + 1)) ps := by
            rw [HCR.out, HLK.out, List.map_append, List.append_assoc]
            congr 1
            show crashL (m.pf :: D.L.drop (k + 1)) ps = [(m.nm, outl m.vis m.dur 0)] ++ _
            rw [crashL, if_neg (show ¬ m.pf.vis = m.pf.dur from HNE.out), HPS0.out]
            rfl
          have HFS6 := Lib.hid hfs6
          have HCR6 := Lib.hid hcr
          have HXL6 : Hid ((xs ++ [⟨m.nm, outl m.vis m.dur 0, .slice A4 n4 c4⟩] : List FL).length = k + 1) := by show _ = _; rw [List.length_append, HXL.out]; rfl
          clear hfs6 hcr hrun hown6 hg6 hloc6 hfs5 hrow5 hb25 hgx hbk4 hbk5 hbk6 ho4 hb4 hb5 hn4
          go_wp2_with fail
          go_roundw
          case rel => exact ⟨k + 1, AP, nP, cP, ps, _, by go_num, by omega, rfl, hnP, hcPm, HPL.out, HPD.out, HPS.out, HXL6.out, HCR6.out, HFS6.out, hbw6⟩
          case measure => simp [intOf]; omega
        · obtain ⟨x, pt, hpt⟩ : ∃ x pt, ps = x :: pt := by
            cases ps with
            | nil => have := HPL.out; simp at this; omega
            | cons x pt => exact ⟨x, pt, rfl⟩
          subst hpt
          have HNE := Lib.hid heq
          have i5 : (0 : Int) < (nP : Int) := by omega
          have hxr := HPS.out x (by simp)
          obtain ⟨bp, offp, hAP, hbpl, hpc⟩ := HPD.out.open_ (by simp [i64s])
          have hpx : w2.cell? ⟨bp, offp, none⟩ = some (.int .i64 x) := (hbw2.cell (p := ⟨bp, offp, none⟩) hbpl).trans (by have := hpc 0 (.int .i64 x) rfl; rwa [Nat.add_zero] at this)
          subst hAP
          have hcut := HPD.out.cut (k := 1) (c := cP) (by rw [i64s_length, HPL.out]; exact hnP)
          have HCUT := Lib.hid hcut
          have HPT : Hid (pt.length = nP - 1) := by show _ = _; have := HPL.out; simp at this; omega
          have HPR2 : Hid (∀ y ∈ pt, -9223372036854775808 ≤ y ∧ y ≤ 9223372036854775807) := fun y hy => HPS.out y (by simp [hy])
          refine (bequal_is false AV AD nV cV nD cD m.vis m.dur _ HNV.out HND.out HRV.out HRD2.out HB1.out HB2.out (decide_eq_false heq)).mono ?_
          rintro e w' ⟨rfl, rfl⟩
          clear heq hpc hcut
          have i6 : (1 : Int) ≤ (nP : Int) := by omega
          have i7 : 1 ≤ nP := by omega
          by_cases hc1 : cP = 1
          all_goals
            go_wp2_with fail
            go_quiet (fail)
            obtain ⟨w2q, hw2q⟩ : ∃ w2q, w2q = w2.drewN nq := ⟨_, rfl⟩
            have hbq : Below w2.heap.size w2 w2q := by rw [hw2q]; exact below_n (Below.refl _ _) nq
            have hbk2q := (hbq.block gb hgb2).trans HBK2.out
            have hgb2q : gb < w2q.heap.size := Nat.lt_of_lt_of_le hgb2 hbq.size
            have hbw2q : Below w.heap.size w w2q := hbw2.trans (hbq.mono hbw2.size)
            have HBK2q := Lib.hid hbk2q
            have HRVq := Lib.hid (HRV.out.below hbq)
            have HRD2q := Lib.hid (HRD2.out.below hbq)
            have HFS2q := Lib.hid (HFS2.out.below hbq)
            rw [← hw2q]
            clear hw2q hbq hbk2q hpx
            go_wp2_with fail
          · have HCUT2 : Hid (Rd w (some ⟨bp, offp, none⟩) (i64s pt)) := by
              show Rd w _ _
              have h0 := HCUT.out
              rw [if_pos hc1] at h0
              simpa [i64s] using h0
            obtain ⟨w3, hw3⟩ : ∃ w3, w3 = w2q.drew := ⟨_, rfl⟩
            have hb23 : Below w2q.heap.size w2q w3 := by rw [hw3]; exact (Below.refl _ _).drew
            have hbk3 := (hb23.block gb hgb2q).trans HBK2q.out
            have HB3 := Lib.hid hb23
            have HBK3 := Lib.hid hbk3
            have HW3 := Lib.hid hw3
            clear hw3 hb23 hbk3
            refine wp_region_held_drew (S := fun w' => w'.cell? ⟨gb, 0, none⟩ = some (.string m.nm) ∧ w'.cell? ⟨gb, 1, none⟩ = some (.slice AV nV cV) ∧ w'.cell? ⟨gb, 2, none⟩ = some (.slice AD nD cD) ∧ w'.cell? ⟨gb, 3, none⟩ = some (.int .i64 m.same)) (by kernel_rfl) (by rw [← HW3.out]; exact box4 HBK3.out) (fun _ => ?_)
            rw [← HW3.out]
            refine ytake_0 (v := ?vv8) (by kernel_rfl) (by kernel_rfl) (by kernel_rfl) (fun _ _ _ h => h) (Or.inl ⟨by rfl, ?hy8⟩) (box4 HBK3.out) ?_
            case hy8 =>
              intro wX hSw
              go_simp
              try with_reducible rfl
            try simp only [Act.put, List.setIfInBounds_toArray, List.set_cons_zero, List.set_cons_succ]
            refine ytake_1 (v := ?vv9) (by kernel_rfl) (by kernel_rfl) (by kernel_rfl) (fun _ _ _ h => h) (Or.inl ⟨by rfl, ?hy9⟩) (box4 HBK3.out) ?_
            case hy9 =>
              intro wX hSw
              go_simp
              try with_reducible rfl
            try simp only [Act.put, List.setIfInBounds_toArray, List.set_cons_zero, List.set_cons_succ]
            refine ytake_2 (v := ?vv10) (by kernel_rfl) (by kernel_rfl) (by kernel_rfl) (fun _ _ _ h => h) (Or.inl ⟨by rfl, ?hy10⟩) (box4 HBK3.out) ?_
            case hy10 =>
              intro wX hSw
              have hcc := hSw.1
              go_simp
              try with_reducible rfl
            try simp only [Act.put, List.setIfInBounds_toArray, List.set_cons_zero, List.set_cons_succ]
            refine ytake_3 (v := ?vv11) (by kernel_rfl) (by kernel_rfl) (by kernel_rfl) (fun _ _ _ h => h) (Or.inl ⟨by rfl, ?hy11⟩) (box4 HBK3.out) ?_
            case hy11 =>
              intro wX hSw
              have hc0 := hSw.1
              have hc1 := hSw.2.1
              have hc2 := hSw.2.2.1
              have hc3 := hSw.2.2.2
              go_simp
              try with_reducible rfl
            try simp only [Act.put, List.setIfInBounds_toArray, List.set_cons_zero, List.set_cons_succ]
            refine ytake_4 (v := ?vv12) (by kernel_rfl) (by kernel_rfl) (by kernel_rfl) (fun _ _ _ h => h) (Or.inl ⟨by rfl, ?hy12⟩) (box4 HBK3.out) ?_
            case hy12 =>
              intro wX hSw
              go_simp
              try with_reducible rfl
            try simp only [Act.put, List.setIfInBounds_toArray, List.set_cons_zero, List.set_cons_succ]
            refine yready_5 (by kernel_rfl) ?_
            intro KQ hK
            rw [if_pos (by rfl)]
            try go_simp
            refine (outlasts_is m.nm AV AD cV cD nV nD m.vis m.dur m.same x _ HNV.out HND.out (HRVq.out.below HB3.out) (HRD2q.out.below HB3.out) (by omega) (by omega) hcV (fun _ => hmx) (by omega)).mono ?_
            rintro e w4 ⟨v4, rfl, ho4, hb4⟩
            obtain ⟨A4, c4, rfl, _, _, _⟩ := rd_own (by rw [u8s_length] at ho4; exact ho4)
            try go_simp
            have hbk4 := (hb4.block gb (Nat.lt_of_lt_of_le hgb2q HB3.out.size)).trans HBK3.out
            refine hK.out _ _ (box4 hbk4) (fun _ => ?_)
            clear hK KQ
            try simp only [Act.put, List.setIfInBounds_toArray, List.set_cons_zero, List.set_cons_succ]
            refine ytake_6 (v := ?vv13) (by kernel_rfl) (by kernel_rfl) (by kernel_rfl) (fun _ _ _ h => h) (Or.inl ⟨by rfl, ?hy13⟩) (box4 hbk4) ?_
            case hy13 =>
              intro wX hSw
              go_simp
              try with_reducible rfl
            try simp only [Act.put, List.setIfInBounds_toArray, List.set_cons_zero, List.set_cons_succ]
            refine yready_7 (by kernel_rfl) ?_
            intro KQ hK
            rw [if_pos (by rfl)]
            go_simp
            obtain ⟨n4, hn4⟩ : ∃ n4, (outl m.vis m.dur x).length = n4 := ⟨_, rfl⟩
            rw [hn4] at ho4 ⊢
            obtain ⟨w5, hw5⟩ : ∃ w5, w5 = w4.alloc (.cells #[.string m.nm, .slice A4 n4 c4] 76) := ⟨_, rfl⟩
            have hb5 : Below w4.heap.size w4 w5 := by rw [hw5]; exact (Below.refl _ _).alloc (Nat.le_refl _) _
            have hgx : w5.heap[w4.heap.size]? = some (.cells ([.string m.nm, .slice A4 n4 c4] : List Value).toArray 76 (0, 0)) := by rw [hw5]; exact heap_alloc_new w4 _
            have hbk5 := (hb5.block gb (Nat.lt_of_lt_of_le hgb2q (Nat.le_trans HB3.out.size hb4.size))).trans hbk4
            rw [← hw5]
            refine hK.out _ _ (box4 hbk5) (fun _ => ?_)
            clear hK KQ hw5
            try simp only [Act.put, List.setIfInBounds_toArray, List.set_cons_zero, List.set_cons_succ]
            have hb25 : Below w2q.heap.size w2q w5 := HB3.out.trans ((hb4.trans (hb5.mono hb4.size)).mono HB3.out.size)
            have hfs5 := HFS2q.out.below hb25
            have hrow5 := hfs5.row
            rw [HXL.out] at hrow5
            obtain ⟨A6, c6, w6, hrun, hown6, hg6, hloc6⟩ := run_app_elem (P := Try.prog) w5 63 63 w.heap.size 76 _ 2 40 Try.underlying63 info_afile rfl (by decide) (by decide) _ k _ hrow5 w4.heap.size [.string m.nm, .slice A4 n4 c4] rfl hgx (by simp; exact ⟨rfl, rfl⟩) (by omega) (Nat.le_trans hbw2q.size hb25.size)
            have hbk6 := (hg6.block gb (Nat.lt_of_lt_of_le hgb2q hb25.size) (fun e => by have h1 := (own_lt HFS.out.row e.symm).1; have h2 := HGB.out; omega)).trans hbk5
            refine yready_8 (by kernel_rfl) ?_
            intro KQ hK
            rw [if_pos (by rfl)]
            refine wp_call_run _ (.tmp 40) (.tmp 47) 63 63 rfl rfl rfl hrun ?_
            refine hK.out _ _ (box4 hbk6) (fun _ => ?_)
            clear hK KQ
            try simp only [Act.put, List.setIfInBounds_toArray, List.set_cons_zero, List.set_cons_succ]
            refine ytake_9 (v := ?vv14) (by kernel_rfl) (by kernel_rfl) (by kernel_rfl) (fun _ _ _ h => h) (Or.inl ⟨by rfl, ?hy14⟩) (box4 hbk6) ?_
            case hy14 =>
              intro wX hSw
              go_simp
              try with_reducible rfl
            try simp only [Act.put, List.setIfInBounds_toArray, List.set_cons_zero, List.set_cons_succ]
            refine wpAnyH_done (by kernel_rfl) ?_ _
            have hfs6 : FsOwn w6 w.heap.size (.slice A6 (k + 1) c6) (xs ++ [⟨m.nm, outl m.vis m.dur x, .slice A4 n4 c4⟩]) :=
              FsOwn.snoc (w := w3) (f := ⟨m.nm, outl m.vis m.dur x, .slice A4 n4 c4⟩) hfs5 (own_cast (own_below ho4 hb5) (u8s_length _)) (outl_byts HB1.out HB2.out x) (Nat.le_trans hbw2q.size HB3.out.size) HXL.out.symm (fun k' hk' => by
                refine Nat.lt_of_lt_of_le ?_ HB3.out.size
                rcases hk' with hk' | ⟨x, hx, hk'⟩
                · exact (own_lt HFS2q.out.row hk').1
                · exact (own_lt (HFS2q.out.els x hx).1 hk').1) hown6 hg6 hloc6
            have hbw6 : Below w.heap.size w w6 := belowS_own (hbw2q.trans (hb25.mono hbw2q.size)) hrow5 hg6 (Nat.le_trans hbw2q.size hb25.size)
            have hcr : dCrash D ps0 = (xs ++ ([⟨m.nm, outl m.vis m.dur x, .slice A4 n4 c4⟩] : List FL)).map FL.pl ++ crashL (D.L.drop (k + 1)) pt := by
              rw [HCR.out, HLK.out, List.map_append, List.append_assoc]
              congr 1
              show crashL (m.pf :: D.L.drop (k + 1)) (x :: pt) = [(m.nm, outl m.vis m.dur x)] ++ _
              rw [crashL, if_neg (show ¬ m.pf.vis = m.pf.dur from HNE.out)]
              rfl
            have HFS6 := Lib.hid hfs6
            have HCR6 := Lib.hid hcr
            have HXL6 : Hid ((xs ++ [⟨m.nm, outl m.vis m.dur x, .slice A4 n4 c4⟩] : List FL).length = k + 1) := by show _ = _; rw [List.length_append, HXL.out]; rfl
            clear hfs6 hcr hrun hown6 hg6 hloc6 hfs5 hrow5 hb25 hgx hbk4 hbk5 hbk6 ho4 hb4 hb5 hn4
            go_wp2_with fail
            go_roundw
            case rel => exact ⟨k + 1, some ⟨bp, offp, none⟩, nP - 1, cP - 1, pt, _, by go_num, by omega, by rw [hc1], by omega, by omega, HPT.out, HCUT2.out, HPR2.out, HXL6.out, HCR6.out, HFS6.out, hbw6⟩
            case measure => simp [intOf]; omega
          · have HCUT2 : Hid (Rd w (some ⟨bp, offp + 1, none⟩) (i64s pt)) := by
              show Rd w _ _
              have h0 := HCUT.out
              rw [if_neg hc1] at h0
              simpa [i64s, Addr.add_lit] using h0
            obtain ⟨w3, hw3⟩ : ∃ w3, w3 = w2q.drew := ⟨_, rfl⟩
            have hb23 : Below w2q.heap.size w2q w3 := by rw [hw3]; exact (Below.refl _ _).drew
            have hbk3 := (hb23.block gb hgb2q).trans HBK2q.out
            have HB3 := Lib.hid hb23
            have HBK3 := Lib.hid hbk3
            have HW3 := Lib.hid hw3
            clear hw3 hb23 hbk3
            refine wp_region_held_drew (S := fun w' => w'.cell? ⟨gb, 0, none⟩ = some (.string m.nm) ∧ w'.cell? ⟨gb, 1, none⟩ = some (.slice AV nV cV) ∧ w'.cell? ⟨gb, 2, none⟩ = some (.slice AD nD cD) ∧ w'.cell? ⟨gb, 3, none⟩ = some (.int .i64 m.same)) (by kernel_rfl) (by rw [← HW3.out]; exact box4 HBK3.out) (fun _ => ?_)
            rw [← HW3.out]
            refine ytake_0 (v := ?vv15) (by kernel_rfl) (by kernel_rfl) (by kernel_rfl) (fun _ _ _ h => h) (Or.inl ⟨by rfl, ?hy15⟩) (box4 HBK3.out) ?_
            case hy15 =>
              intro wX hSw
              go_simp
              try with_reducible rfl
            try simp only [Act.put, List.setIfInBounds_toArray, List.set_cons_zero, List.set_cons_succ]
            refine ytake_1 (v := ?vv16) (by kernel_rfl) (by kernel_rfl) (by kernel_rfl) (fun _ _ _ h => h) (Or.inl ⟨by rfl, ?hy16⟩) (box4 HBK3.out) ?_
            case hy16 =>
              intro wX hSw
              go_simp
              try with_reducible rfl
            try simp only [Act.put, List.setIfInBounds_toArray, List.set_cons_zero, List.set_cons_succ]
            refine ytake_2 (v := ?vv17) (by kernel_rfl) (by kernel_rfl) (by kernel_rfl) (fun _ _ _ h => h) (Or.inl ⟨by rfl, ?hy17⟩) (box4 HBK3.out) ?_
            case hy17 =>
              intro wX hSw
              have hcc := hSw.1
              go_simp
              try with_reducible rfl
            try simp only [Act.put, List.setIfInBounds_toArray, List.set_cons_zero, List.set_cons_succ]
            refine ytake_3 (v := ?vv18) (by kernel_rfl) (by kernel_rfl) (by kernel_rfl) (fun _ _ _ h => h) (Or.inl ⟨by rfl, ?hy18⟩) (box4 HBK3.out) ?_
            case hy18 =>
              intro wX hSw
              have hc0 := hSw.1
              have hc1 := hSw.2.1
              have hc2 := hSw.2.2.1
              have hc3 := hSw.2.2.2
              go_simp
              try with_reducible rfl
            try simp only [Act.put, List.setIfInBounds_toArray, List.set_cons_zero, List.set_cons_succ]
            refine ytake_4 (v := ?vv19) (by kernel_rfl) (by kernel_rfl) (by kernel_rfl) (fun _ _ _ h => h) (Or.inl ⟨by rfl, ?hy19⟩) (box4 HBK3.out) ?_
            case hy19 =>
              intro wX hSw
              go_simp
              try with_reducible rfl
            try simp only [Act.put, List.setIfInBounds_toArray, List.set_cons_zero, List.set_cons_succ]
            refine yready_5 (by kernel_rfl) ?_
            intro KQ hK
            rw [if_pos (by rfl)]
            try go_simp
            refine (outlasts_is m.nm AV AD cV cD nV nD m.vis m.dur m.same x _ HNV.out HND.out (HRVq.out.below HB3.out) (HRD2q.out.below HB3.out) (by omega) (by omega) hcV (fun _ => hmx) (by omega)).mono ?_
            rintro e w4 ⟨v4, rfl, ho4, hb4⟩
            obtain ⟨A4, c4, rfl, _, _, _⟩ := rd_own (by rw [u8s_length] at ho4; exact ho4)
            try go_simp
            have hbk4 := (hb4.block gb (Nat.lt_of_lt_of_le hgb2q HB3.out.size)).trans HBK3.out
            refine hK.out _ _ (box4 hbk4) (fun _ => ?_)
            clear hK KQ
            try simp only [Act.put, List.setIfInBounds_toArray, List.set_cons_zero, List.set_cons_succ]
            refine ytake_6 (v := ?vv20) (by kernel_rfl) (by kernel_rfl) (by kernel_rfl) (fun _ _ _ h => h) (Or.inl ⟨by rfl, ?hy20⟩) (box4 hbk4) ?_
            case hy20 =>
              intro wX hSw
              go_simp
              try with_reducible rfl
            try simp only [Act.put, List.setIfInBounds_toArray, List.set_cons_zero, List.set_cons_succ]
            refine yready_7 (by kernel_rfl) ?_
            intro KQ hK
            rw [if_pos (by rfl)]
            go_simp
            obtain ⟨n4, hn4⟩ : ∃ n4, (outl m.vis m.dur x).length = n4 := ⟨_, rfl⟩
            rw [hn4] at ho4 ⊢
            obtain ⟨w5, hw5⟩ : ∃ w5, w5 = w4.alloc (.cells #[.string m.nm, .slice A4 n4 c4] 76) := ⟨_, rfl⟩
            have hb5 : Below w4.heap.size w4 w5 := by rw [hw5]; exact (Below.refl _ _).alloc (Nat.le_refl _) _
            have hgx : w5.heap[w4.heap.size]? = some (.cells ([.string m.nm, .slice A4 n4 c4] : List Value).toArray 76 (0, 0)) := by rw [hw5]; exact heap_alloc_new w4 _
            have hbk5 := (hb5.block gb (Nat.lt_of_lt_of_le hgb2q (Nat.le_trans HB3.out.size hb4.size))).trans hbk4
            rw [← hw5]
            refine hK.out _ _ (box4 hbk5) (fun _ => ?_)
            clear hK KQ hw5
            try simp only [Act.put, List.setIfInBounds_toArray, List.set_cons_zero, List.set_cons_succ]
            have hb25 : Below w2q.heap.size w2q w5 := HB3.out.trans ((hb4.trans (hb5.mono hb4.size)).mono HB3.out.size)
            have hfs5 := HFS2q.out.below hb25
            have hrow5 := hfs5.row
            rw [HXL.out] at hrow5
            obtain ⟨A6, c6, w6, hrun, hown6, hg6, hloc6⟩ := run_app_elem (P := Try.prog) w5 63 63 w.heap.size 76 _ 2 40 Try.underlying63 info_afile rfl (by decide) (by decide) _ k _ hrow5 w4.heap.size [.string m.nm, .slice A4 n4 c4] rfl hgx (by simp; exact ⟨rfl, rfl⟩) (by omega) (Nat.le_trans hbw2q.size hb25.size)
            have hbk6 := (hg6.block gb (Nat.lt_of_lt_of_le hgb2q hb25.size) (fun e => by have h1 := (own_lt HFS.out.row e.symm).1; have h2 := HGB.out; omega)).trans hbk5
            refine yready_8 (by kernel_rfl) ?_
            intro KQ hK
            rw [if_pos (by rfl)]
            refine wp_call_run _ (.tmp 40) (.tmp 47) 63 63 rfl rfl rfl hrun ?_
            refine hK.out _ _ (box4 hbk6) (fun _ => ?_)
            clear hK KQ
            try simp only [Act.put, List.setIfInBounds_toArray, List.set_cons_zero, List.set_cons_succ]
            refine ytake_9 (v := ?vv21) (by kernel_rfl) (by kernel_rfl) (by kernel_rfl) (fun _ _ _ h => h) (Or.inl ⟨by rfl, ?hy21⟩) (box4 hbk6) ?_
            case hy21 =>
              intro wX hSw
              go_simp
              try with_reducible rfl
            try simp only [Act.put, List.setIfInBounds_toArray, List.set_cons_zero, List.set_cons_succ]
            refine wpAnyH_done (by kernel_rfl) ?_ _
            have hfs6 : FsOwn w6 w.heap.size (.slice A6 (k + 1) c6) (xs ++ [⟨m.nm, outl m.vis m.dur x, .slice A4 n4 c4⟩]) :=
              FsOwn.snoc (w := w3) (f := ⟨m.nm, outl m.vis m.dur x, .slice A4 n4 c4⟩) hfs5 (own_cast (own_below ho4 hb5) (u8s_length _)) (outl_byts HB1.out HB2.out x) (Nat.le_trans hbw2q.size HB3.out.size) HXL.out.symm (fun k' hk' => by
                refine Nat.lt_of_lt_of_le ?_ HB3.out.size
                rcases hk' with hk' | ⟨x, hx, hk'⟩
                · exact (own_lt HFS2q.out.row hk').1
                · exact (own_lt (HFS2q.out.els x hx).1 hk').1) hown6 hg6 hloc6
            have hbw6 : Below w.heap.size w w6 := belowS_own (hbw2q.trans (hb25.mono hbw2q.size)) hrow5 hg6 (Nat.le_trans hbw2q.size hb25.size)
            have hcr : dCrash D ps0 = (xs ++ ([⟨m.nm, outl m.vis m.dur x, .slice A4 n4 c4⟩] : List FL)).map FL.pl ++ crashL (D.L.drop (k + 1)) pt := by
              rw [HCR.out, HLK.out, List.map_append, List.append_assoc]
              congr 1
              show crashL (m.pf :: D.L.drop (k + 1)) (x :: pt) = [(m.nm, outl m.vis m.dur x)] ++ _
              rw [crashL, if_neg (show ¬ m.pf.vis = m.pf.dur from HNE.out)]
              rfl
            have HFS6 := Lib.hid hfs6
            have HCR6 := Lib.hid hcr
            have HXL6 : Hid ((xs ++ [⟨m.nm, outl m.vis m.dur x, .slice A4 n4 c4⟩] : List FL).length = k + 1) := by show _ = _; rw [List.length_append, HXL.out]; rfl
            clear hfs6 hcr hrun hown6 hg6 hloc6 hfs5 hrow5 hb25 hgx hbk4 hbk5 hbk6 ho4 hb4 hb5 hn4
            go_wp2_with fail
            go_roundw
            case rel => exact ⟨k + 1, some ⟨bp, offp + 1, none⟩, nP - 1, cP - 1, pt, _, by go_num, by omega, rfl, by omega, by omega, HPT.out, HCUT2.out, HPR2.out, HXL6.out, HCR6.out, HFS6.out, hbw6⟩
            case measure => simp [intOf]; omega
    · have i1 : ¬ ((k : Int) < (nL : Int)) := by omega
      obtain rfl : k = nL := by omega
      go_wp2_with fail
      go_ret
      refine ⟨_, xs, rfl, ?_, HFS.out, hb⟩
      rw [HCR.out, List.drop_of_length_le (by rw [HEQ.out, List.length_map, HN.out]; exact Nat.le_refl _)]
      simp [crashL]

end Go.Proofs.Ytecgagfpckaieaa
