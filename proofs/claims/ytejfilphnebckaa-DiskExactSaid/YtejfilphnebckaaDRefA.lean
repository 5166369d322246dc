/-
  The page's own disk: Append.
-/
import Derived.Test.YtejfilphnebckaaDZC
import Derived.Test.YtejfilphnebckaaDAppend
import Derived.Deep.RegionLaw
namespace Go.Proofs.Ytejfilphnebckaa
open Go.RowKit

theorem copyR_wp {w : World} {o : Oper} {a : Act} {K : Act → World → Prop} {Q : Exit → Act → World → Prop} {s : Nat} {t : TypeId} {v : Value} (ho : o.op = .call { callee := .value (.func 29), args := #[.tmp s], argTypes := #[t] }) (hs : a.tmps[s]? = some v) {R : Ending → World → Prop} (hc : Calls Try.prog 29 #[v] w R)
    (h : ∀ e w', R e w' → ∃ u, e = .returned u ∧ K (a.put o.dst u) w') : o.wp Try.prog a w K Q := by
  have he : a.eval (.tmp s) = v := by simp [Act.eval, hs]
  unfold Oper.wp execOp
  simp only [ho]
  go_simp
  refine hc.mono fun e w' hr => ?_
  obtain ⟨u, rfl, hk⟩ := h e w' hr
  exact hk
theorem step_copyR {w : World} {ops : Array Oper} {o : Oper} {a : Act} {K : Act → World → Prop} {Q : Exit → Act → World → Prop} {E : Prop} {s : Nat} {t : TypeId} {v : Value} (hgd : o.guard = none)
    (ho : o.op = .call { callee := .value (.func 29), args := #[.tmp s], argTypes := #[t] }) (hs : a.tmps[s]? = some v) {R : Ending → World → Prop} (hc : Calls Try.prog 29 #[v] w R)
    (h : ∀ e w', R e w' → ∃ u, e = .returned u ∧ K (a.put o.dst u) w') : if Region.wanted o (yielded ops a.tmps) = true then Oper.wp Try.prog o a w K Q else E := by
  have hw : Region.wanted o (yielded ops a.tmps) = true := by simp [Region.wanted, hgd]
  rw [if_pos hw]
  exact copyR_wp ho hs hc h
theorem byIn_nil (w : World) (F : Nat → Prop) (g : Nat) (vL : Value) : ByIn w F g vL (.slice none 0 0) [] :=
  ⟨⟨none, 0, rfl, Nat.le_refl _, by simp [maxLen], Rd.nil _ _, fun a h => by cases h⟩, fun x hx => by simp at hx, by simp⟩
theorem lenAt_some {D : PD} {s : ByteArray} {f : PF} (h : D.fileAt s = some f) : D.lenAt s = f.vis.length := by rw [PD.lenAt, h]; rfl
theorem lenAt_none {D : PD} {s : ByteArray} (h : D.fileAt s = none) : D.lenAt s = 0 := by rw [PD.lenAt, h]; rfl

set_option maxRecDepth 100000 in
set_option maxHeartbeats 4000000 in
theorem rappend_is {F : Nat → Prop} {D : PD} (g : Nat) (s : ByteArray) (A : Option Addr) (nb cb : Nat) (zs : List Int) (w : World) (h : IsRef w g F D) (hc : D.calls ≤ 1000000) (hGB : GivB w F A nb cb zs) :
    Calls Try.prog 48 #[.pointer (some ⟨g, 0, none⟩), .string s, .slice A nb cb] w fun e w' => e = .returned (.int .i64 (dAppend D s zs).2) ∧ RefTo g F (dAppend D s zs).1 w w' := by
  have HIS := Lib.hid h
  have HGB := Lib.hid hGB
  obtain ⟨vL, l, ms, h⟩ := h
  have HD := Lib.hid h
  have HG : Hid (F g) := h.here
  have hz := hGB.hz
  have hfewb := hGB.few
  clear h hGB
  cases hok : okName s with
  | false =>
    have hr : dAppend D s zs = (D, 1) := by rw [dAppend, if_pos hok]
    rw [hr]
    have HOK := Lib.hid hok
    clear hok hr
    go_enter Try.func48, Try.ntmps48
    go_wp2_with fail
    refine (refName_any s _).mono ?_
    rintro e w' ⟨he, rfl⟩
    rw [HOK.out] at he
    subst he
    go_wp2_with fail
    go_ret
    exact ⟨rfl, RefTo.same HIS.out⟩
  | true =>
  have HOK := Lib.hid hok
  cases hto : D.tick.off with
  | true =>
    have hr : dAppend D s zs = (D.tick, 9) := by rw [dAppend, if_neg (by rw [hok]; decide), if_pos hto]
    rw [hr]
    have HTO := Lib.hid hto
    clear hok hr hto
    go_enter Try.func48, Try.ntmps48
    go_wp2_with fail
    refine (refName_any s _).mono ?_
    rintro e w' ⟨he, rfl⟩
    rw [HOK.out] at he
    subst he
    go_wp2_with fail
    refine (rcall_is false g _ HD.out hc (by rw [HTO.out]; rfl)).mono ?_
    rintro e w2 ⟨rfl, hk⟩
    have HK := Lib.hid hk
    clear hk
    go_wp2_with fail
    go_ret
    exact ⟨rfl, HK.out.to HG.out⟩
  | false =>
  have HTO := Lib.hid hto
  cases hf : D.tick.fileAt s with
  | some f =>
    have hf0 : D.fileAt s = some f := fileAt_tick.symm.trans hf
    have hr : dAppend D s zs = if 1048576 < nb + f.vis.length then (D.tick, 2) else (D.with (D.L.set (D.pos s) { f with vis := f.vis ++ zs }), 0) := by
      rw [dAppend, if_neg (by rw [hok]; decide), if_neg (by rw [hto]; decide), lenAt_some hf0, hz, hf0]
    obtain ⟨R, hR⟩ : ∃ R, dAppend D s zs = R := ⟨_, rfl⟩
    rw [hR] at hr ⊢
    have HRR := Lib.hid hr
    have HF := Lib.hid hf
    clear hok hr hto hf hf0 hR
    go_enter Try.func48, Try.ntmps48
    go_wp2_with fail
    refine (refName_any s _).mono ?_
    rintro e w' ⟨he, rfl⟩
    rw [HOK.out] at he
    subst he
    go_wp2_with fail
    refine (rcall_is true g _ HD.out hc (by rw [HTO.out]; rfl)).mono ?_
    rintro e w2 ⟨rfl, hk⟩
    have HK := Lib.hid hk
    obtain ⟨l2, hd2, ht2⟩ := hk
    have HT2 := Lib.hid (ht2.mono fun k hk => by rw [hk]; exact HG.out : Touch F w w2)
    have HG2 := Lib.hid (HGB.out.touch HT2.out fun k hk => .inl hk)
    go_wp2_with fail
    refine (rfind_is g s _ hd2).mono ?_
    rintro e w' ⟨rfl, rfl⟩
    obtain ⟨gr, n, cap, m, rfl, hnc, hm, hnm, rfl, hhas, hpn, hcell, hfz⟩ := hd2.there HF.out
    rw [findV9, if_pos hhas]
    obtain ⟨p, hp⟩ : ∃ p, D.tick.pos s = p := ⟨_, rfl⟩
    rw [hp] at hm hpn hcell ⊢
    have c0 := hd2.c0
    have e2 : w2.cell? ⟨gr, p * 3 + 2, none⟩ = some m.eV := hcell 2 _ rfl
    have f2 := hfz (p * 3 + 2)
    have i0 : (0 : Int) ≤ (p : Int) := by omega
    have i1 : (p : Int) < (n : Int) := by omega
    have i2 : ¬ ((p : Int) < 0) := by omega
    have HD2 := Lib.hid hd2
    have HM := Lib.hid hm
    have HP := Lib.hid hp
    have hels := hd2.els m (List.mem_of_getElem? hm)
    obtain ⟨Ae, ce, hev, hnce, hmce, hrde, hblk⟩ := hels.2.1.rd
    have hfe := hels.2.1.few
    obtain ⟨ne, hne⟩ : ∃ ne, m.seen.length = ne := ⟨_, rfl⟩
    rw [hev, hne] at e2
    rw [hne] at hnce hfe
    have hrr := HRR.out
    rw [show m.pf.vis.length = ne from hne] at hrr
    have HR2 := Lib.hid hrr
    clear hrr HRR
    have HBY := Lib.hid hels.2.1.byt
    have HSV := Lib.hid hels.1
    have HNE := Lib.hid hne
    have HRD := Lib.hid hrde
    have HPV : Hid ((m.pf).vis = m.seen) := rfl
    have hgrl : gr < w2.heap.size := hd2.lt gr (hd2.rowF gr rfl)
    have hgl : g < w2.heap.size := hd2.lt g hd2.here
    have HRB := Lib.hid HG2.out.rd
    have HGZ := HG2
    have HZL : Hid (nb = (u8s zs).length) := by show nb = _; rw [u8s_length, hz]
    clear hd2 hm hp hcell hfz hev hne hhas hnm hels ht2 hrde hblk
    by_cases hbig : 1048576 < nb + ne
    · have hrr := HR2.out
      rw [if_pos hbig] at hrr
      have HR3 := Lib.hid hrr
      clear hrr HR2
      have j1 : (1048576 : Int) - (ne : Int) < (nb : Int) := by omega
      go_wp2_with fail
      go_ret
      rw [HR3.out]
      exact ⟨rfl, HK.out.to HG.out⟩
    · have hrr := HR2.out
      rw [if_neg hbig] at hrr
      have HRES := Lib.hid hrr
      clear hrr HR2
      have j1 : ¬ ((1048576 : Int) - (ne : Int) < (nb : Int)) := by omega
      go_wp2_with fail
      go_region_law (first
        | (refine step_copyR (by rfl) (by rfl) (by rfl) (copyBytes_any Ae ce ne m.seen _ HNE.out (by first | exact HRD.out | exact Rd.drew HRD.out) hnce (by omega)) ?_; rintro e w5 ⟨v5, rfl, ho5, hb5⟩; have hb25 : Below w2.heap.size w2 w5 := (by first | exact hb5 | exact ((Below.refl _ _).drew).trans hb5); have ho5b := own_cast ho5 ((u8s_length _).trans HNE.out); obtain ⟨A5, c5, rfl, _, _, _, _, _⟩ := own_val ho5b; refine ⟨_, rfl, ?_⟩; have k0 : w5.cell? ⟨g, 0, none⟩ = some (.slice (some ⟨gr, 0, none⟩) n cap) := (hb25.cell (p := ⟨g, 0, none⟩) hgl).trans c0; have k2 := (hb25.cell (p := ⟨gr, p * 3 + 2, none⟩) hgrl).trans e2; have r5 := HRB.out.below hb25)
        | (refine step_app_far _ (by rfl) _ _ _ (by rfl) w2.heap.size 5 (.int .u8 0) 1 Try.underlying39 info_u8 rfl (by decide) _ ne (u8s m.seen) (by rfl) ho5b A nb cb (u8s zs) (by rfl) HZL.out r5 (u8s_one zs) (by omega) hb25.size ?_; intro v7 w7 ho7 hb7 hg7; obtain ⟨A7, c7, rfl, _, _, _, _, _⟩ := own_val ho7; have hb27 : Below w2.heap.size w2 w7 := hb25.trans hb7; have q0 : w7.cell? ⟨g, 0, none⟩ = some (.slice (some ⟨gr, 0, none⟩) n cap) := (hb27.cell (p := ⟨g, 0, none⟩) hgl).trans c0; have q2 := (hb27.cell (p := ⟨gr, p * 3 + 2, none⟩) hgrl).trans e2; have z2 := (hb27.frozen (p := ⟨gr, p * 3 + 2, none⟩) hgrl).trans f2))
      all_goals
        have HO7 := Lib.hid ho7
        have HB27 := Lib.hid hb27
        clear ho7 hb27 ho5 ho5b hb5 hb25 r5 hb7 hg7 k0 k2 q0 q2 z2
        go_wp2_with fail
        go_ret
        rw [HRES.out]
        refine ⟨rfl, RefTo.behind HT2.out ?_⟩
        have hnew : ByIn w7 (fun k => F k ∨ (w2.heap.size ≤ k ∧ k < w7.heap.size)) g (.slice (some ⟨gr, 0, none⟩) n cap) (.slice A7 (ne + nb) c7) (m.seen ++ zs) := by
          refine own_byIn (by rw [u8s_append]; exact HO7.out) (by rw [List.length_append, HNE.out, HGZ.out.hz]) (fun x hx => ?_) (by omega) hgl hgrl
          rcases List.mem_append.1 hx with hx | hx
          · exact HBY.out x hx
          · exact HGZ.out.byt x hx
        have hsaf : ByIn w7 (fun k => F k ∨ (w2.heap.size ≤ k ∧ k < w7.heap.size)) g (.slice (some ⟨gr, 0, none⟩) n cap) m.sV m.safe := (HSV.out.far HB27.out.size fun k hk _ _ => HB27.out.block k hk).wider fun k hk => .inl hk
        refine HD2.out.elTo (m' := { m with seen := m.seen ++ zs, eV := .slice A7 (ne + nb) c7 }) (j := 2) HM.out HB27.out (by decide) rfl rfl ⟨hsaf, hnew⟩ ?_ rfl rfl rfl
        show D.L.set (D.pos s) _ = D.tick.L.set p _
        rw [tick_L, ← HP.out, tick_pos]
        rfl
  | none =>
  have hf0 : D.fileAt s = none := fileAt_tick.symm.trans hf
  have hr : dAppend D s zs = if D.L.length = 16 then (D.tick, 8) else (D.with (D.L.take (D.pos s) ++ ⟨s, zs, []⟩ :: D.L.drop (D.pos s)), 0) := by
    rw [dAppend, if_neg (by rw [hok]; decide), if_neg (by rw [hto]; decide), lenAt_none hf0, if_neg (by omega), hf0]
  have HV := Lib.hid (find_none hf)
  have hhas : D.tick.has s = false := by
    cases hh : D.tick.has s with
    | false => rfl
    | true =>
      exfalso
      have h1 := hasN_pos (show hasN (namesF D.tick.L) s = true from hh)
      rw [namesF, List.length_map] at h1
      rw [PD.fileAt, if_pos hh, List.getElem?_eq_none_iff] at hf
      have h2 : posN (List.map PF.nm D.tick.L) s < D.tick.L.length := h1
      have h3 : D.tick.L.length ≤ posN (List.map PF.nm D.tick.L) s := hf
      omega
  have HHAS := Lib.hid hhas
  have hjz : ¬ ((1048576 : Int) - 0 < (nb : Int)) := by omega
  have hjy : ¬ ((1048576 : Int) < (nb : Int)) := by omega
  have hll : D.L.length = ms.length := HD.out.lenL
  rw [hll] at hr
  by_cases h16 : ms.length = 16
  · rw [if_pos h16] at hr
    rw [hr]
    have HL16 := Lib.hid h16
    clear hok hr hto hf hf0 hhas hll h16
    go_enter Try.func48, Try.ntmps48
    go_wp2_with fail
    refine (refName_any s _).mono ?_
    rintro e w' ⟨he, rfl⟩
    rw [HOK.out] at he
    subst he
    go_wp2_with fail
    refine (rcall_is true g _ HD.out hc (by rw [HTO.out]; rfl)).mono ?_
    rintro e w2 ⟨rfl, hk⟩
    have HK := Lib.hid hk
    obtain ⟨l2, hd2, ht2⟩ := hk
    have HT2 := Lib.hid (ht2.mono fun k hk => by rw [hk]; exact HG.out : Touch F w w2)
    have HG2 := Lib.hid (HGB.out.touch HT2.out fun k hk => .inl hk)
    go_wp2_with fail
    refine (rfind_is g s _ hd2).mono ?_
    rintro e w' ⟨rfl, rfl⟩
    rw [HV.out]
    have c0 := hd2.c0
    obtain ⟨AL, cL, hvL, _⟩ := hd2.slice HL16.out
    rw [hvL] at c0
    clear hd2 ht2 hvL
    go_wp2_with fail
    go_ret
    exact ⟨rfl, HK.out.to HG.out⟩
  rw [if_neg h16] at hr
  obtain ⟨R, hR⟩ : ∃ R, dAppend D s zs = R := ⟨_, rfl⟩
  rw [hR] at hr ⊢
  have HRES := Lib.hid hr
  have hfew : ms.length < 16 := by have := HD.out.few; omega
  obtain ⟨nL, hnL⟩ : ∃ nL, ms.length = nL := ⟨_, rfl⟩
  rw [hnL] at hfew
  have HNL := Lib.hid hnL
  clear hok hr hto hf hf0 hhas hll h16 hR hnL
  go_enter Try.func48, Try.ntmps48
  go_wp2_with fail
  refine (refName_any s _).mono ?_
  rintro e w' ⟨he, rfl⟩
  rw [HOK.out] at he
  subst he
  go_wp2_with fail
  refine (rcall_is true g _ HD.out hc (by rw [HTO.out]; rfl)).mono ?_
  rintro e w2 ⟨rfl, hk⟩
  have HK := Lib.hid hk
  obtain ⟨l2, hd2, ht2⟩ := hk
  have HT2 := Lib.hid (ht2.mono fun k hk => by rw [hk]; exact HG.out : Touch F w w2)
  have HG2 := Lib.hid (HGB.out.touch HT2.out fun k hk => .inl hk)
  go_wp2_with fail
  refine (rfind_is g s _ hd2).mono ?_
  rintro e w' ⟨rfl, rfl⟩
  rw [HV.out]
  have c0 := hd2.c0
  obtain ⟨AL, cL, hvL, _⟩ := hd2.slice HNL.out
  rw [hvL] at c0
  have j16 : ((nL : Int) == 16) = false := by simp; omega
  have j17 : ¬ ((nL : Int) = 16) := by omega
  have HD2 := Lib.hid hd2
  clear hd2 ht2 hvL
  obtain ⟨p, hp⟩ : ∃ p, posN (namesF D.tick.L) s = p := ⟨_, rfl⟩
  have HP := Lib.hid hp
  go_wp2_with fail
  refine (rput_is g p ⟨s, [], [], .slice none 0 0, .slice none 0 0⟩ _ HD2.out ⟨byIn_nil _ _ _ _, byIn_nil _ _ _ _, HOK.out⟩ HHAS.out (by rw [HNL.out]; exact hfew) hp).mono ?_
  rintro e w3 ⟨rfl, vL3, F3, hd3, ht3, hF3, _⟩
  have hpl : p ≤ nL := by rw [← hp, ← HNL.out, ← HD2.out.lenL]; have := posN_le (namesF D.tick.L) s; rw [namesF, List.length_map] at this; exact this
  have hm3 : (ms.take p ++ (⟨s, [], [], .slice none 0 0, .slice none 0 0⟩ : MR) :: ms.drop p)[p]? = some ⟨s, [], [], .slice none 0 0, .slice none 0 0⟩ := by
    have hlt : (ms.take p).length = p := by rw [List.length_take, HNL.out]; omega
    rw [List.getElem?_append_right (by omega), hlt, Nat.sub_self]
    rfl
  obtain ⟨n, hn⟩ : ∃ n, (ms.take p ++ (⟨s, [], [], .slice none 0 0, .slice none 0 0⟩ : MR) :: ms.drop p).length = n := ⟨_, rfl⟩
  have hpn : p < n := by rw [← hn]; exact (List.getElem?_eq_some_iff.1 hm3).1
  obtain ⟨AR, cap, hvR, hnc, _, hrdR⟩ := hd3.slice hn
  have hAR : ∃ gr, AR = some ⟨gr, 0, none⟩ := by
    rcases hd3.row.2 with ⟨hv, h0⟩ | ⟨gr, cap', cur, hv, _⟩
    · omega
    · rw [hv] at hvR
      cases hvR
      exact ⟨gr, rfl⟩
  obtain ⟨gr, rfl⟩ := hAR
  subst hvR
  have c0' := hd3.c0
  have e2 : w3.cell? ⟨gr, 0 + (p * 3 + 2), none⟩ = some (.slice none 0 0) := by
    obtain ⟨b, off, e, _, hcl⟩ := hrdR.open_ (by rw [cellsR_length]; omega)
    cases e
    exact hcl _ _ (cellsR_at hm3 (j := 2) rfl)
  rw [Nat.zero_add] at e2
  have f2 : w3.frozen? ⟨gr, p * 3 + 2, none⟩ = false := by
    rcases hd3.row.2 with ⟨hv, h0⟩ | ⟨gr', cap', cur, hv, _, hgc, _⟩
    · omega
    · cases hv
      exact frozen_of_row w3 gr _ _ _ hgc
  have i0 : (0 : Int) ≤ (p : Int) := by omega
  have i1 : (p : Int) < (n : Int) := by omega
  have i2 : ¬ ((p : Int) < 0) := by omega
  have HD3 := Lib.hid hd3
  have HM3 := Lib.hid hm3
  have HN3 := Lib.hid hn
  have hgrl : gr < w3.heap.size := hd3.lt gr (hd3.rowF gr rfl)
  have hgl : g < w3.heap.size := hd3.lt g hd3.here
  have HGZ := Lib.hid (HG2.out.touch (ht3.mono fun k hk => by rw [hk]; exact HG.out : Touch F w2 w3) hF3)
  have HRB := Lib.hid HGZ.out.rd
  have HZL : Hid (nb = (u8s zs).length) := by show nb = _; rw [u8s_length, hz]
  have HT23 : Hid (Touch F w w3) := HT2.out.trans (ht3.mono fun k hk => by rw [hk]; exact HG.out) fun k hk => .inl hk
  have HF3 := Lib.hid hF3
  obtain ⟨Ae, hAe⟩ : ∃ Ae : Option Addr, Ae = none := ⟨_, rfl⟩
  have HRD : Hid (Rd w3 none (u8s [])) := Rd.nil _ _
  have HNE : Hid (([] : List Int).length = 0) := rfl
  have HBY : Hid (Byts []) := fun x hx => by simp at hx
  have HSV : Hid (ByIn w3 F3 g (.slice (some ⟨gr, 0, none⟩) n cap) (.slice none 0 0) []) := byIn_nil _ _ _ _
  have hFg3 := Lib.hid hd3.here
  have hz3 := ht3.size
  clear hd3 hm3 hn hrdR hp ht3 hF3 c0
  have c0 := c0'
  clear c0'
  have hnce : 0 ≤ 0 := Nat.le_refl _
  go_wp2_with fail
  go_region_law (first
    | (refine step_copyR (by rfl) (by rfl) (by rfl) (copyBytes_any none 0 0 [] _ HNE.out (by first | exact HRD.out | exact Rd.drew HRD.out) hnce (by omega)) ?_; rintro e w5 ⟨v5, rfl, ho5, hb5⟩; have hb25 : Below w3.heap.size w3 w5 := (by first | exact hb5 | exact ((Below.refl _ _).drew).trans hb5); have ho5b := own_cast ho5 ((u8s_length _).trans HNE.out); obtain ⟨A5, c5, rfl, _, _, _, _, _⟩ := own_val ho5b; refine ⟨_, rfl, ?_⟩; have k0 : w5.cell? ⟨g, 0, none⟩ = some (.slice (some ⟨gr, 0, none⟩) n cap) := (hb25.cell (p := ⟨g, 0, none⟩) hgl).trans c0; have k2 := (hb25.cell (p := ⟨gr, p * 3 + 2, none⟩) hgrl).trans e2; have r5 := HRB.out.below hb25)
    | (refine step_app_far _ (by rfl) _ _ _ (by rfl) w3.heap.size 5 (.int .u8 0) 1 Try.underlying39 info_u8 rfl (by decide) _ 0 (u8s []) (by rfl) ho5b A nb cb (u8s zs) (by rfl) HZL.out r5 (u8s_one zs) (by omega) hb25.size ?_; intro v7 w7 ho7 hb7 hg7; obtain ⟨A7, c7, rfl, _, _, _, _, _⟩ := own_val ho7; have hb27 : Below w3.heap.size w3 w7 := hb25.trans hb7; have q0 : w7.cell? ⟨g, 0, none⟩ = some (.slice (some ⟨gr, 0, none⟩) n cap) := (hb27.cell (p := ⟨g, 0, none⟩) hgl).trans c0; have q2 := (hb27.cell (p := ⟨gr, p * 3 + 2, none⟩) hgrl).trans e2; have z2 := (hb27.frozen (p := ⟨gr, p * 3 + 2, none⟩) hgrl).trans f2))
  all_goals
    have HO7 := Lib.hid ho7
    have HB27 := Lib.hid hb27
    clear ho7 hb27 ho5 ho5b hb5 hb25 r5 hb7 hg7 k0 k2 q0 q2 z2
    go_wp2_with fail
    go_ret
    rw [HRES.out]
    refine ⟨rfl, ?_⟩
    have hnew : ByIn w7 (fun k => F3 k ∨ (w3.heap.size ≤ k ∧ k < w7.heap.size)) g (.slice (some ⟨gr, 0, none⟩) n cap) (.slice A7 (0 + nb) c7) (zs) := by
      refine own_byIn (HO7.out) (by rw [HGZ.out.hz, Nat.zero_add]) (fun x hx => ?_) (by omega) hgl hgrl
      exact HGZ.out.byt x hx
    have hsaf : ByIn w7 (fun k => F3 k ∨ (w3.heap.size ≤ k ∧ k < w7.heap.size)) g (.slice (some ⟨gr, 0, none⟩) n cap) (.slice none 0 0) [] := (HSV.out.far HB27.out.size fun k hk _ _ => HB27.out.block k hk).wider fun k hk => .inl hk
    have h9 : RefTo g F3 (D.with (D.L.take (D.pos s) ++ ⟨s, zs, []⟩ :: D.L.drop (D.pos s))) w3 (w7.setCell ⟨gr, p * 3 + 2, none⟩ (.slice A7 (0 + nb) c7)) := by
      refine HD3.out.elTo (m' := ⟨s, [], zs, .slice none 0 0, .slice A7 (0 + nb) c7⟩) (j := 2) HM3.out HB27.out (by decide) rfl rfl ⟨hsaf, hnew⟩ ?_ rfl rfl rfl
      show D.L.take (D.pos s) ++ ⟨s, zs, []⟩ :: D.L.drop (D.pos s) = ((ms.take p ++ (⟨s, [], [], .slice none 0 0, .slice none 0 0⟩ : MR) :: ms.drop p).map MR.pf).set p _
      have hpp : D.pos s = p := (tick_pos D s).symm.trans HP.out
      rw [List.map_append, List.map_cons, List.map_take, List.map_drop, ← HD2.out.eqL, tick_L, hpp, set_mid (by rw [HD.out.lenL, HNL.out]; exact hpl)]
      rfl
    rw [Nat.zero_add] at h9
    obtain ⟨F9, hd9, ht9, hF9⟩ := h9
    refine ⟨F9, hd9, HT23.out.trans ht9 fun k hk => (HF3.out k hk).imp id fun h => Nat.le_trans HT2.out.size h, fun k hk => ?_⟩
    have z2 := HT2.out.size
    rcases hF9 k hk with hk | hk
    · exact (HF3.out k hk).imp id fun h => by omega
    · exact .inr (by omega)

end Go.Proofs.Ytejfilphnebckaa
