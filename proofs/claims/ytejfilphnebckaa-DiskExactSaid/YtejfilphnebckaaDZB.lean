/-
  The page's own disk: Read, Off, Calls, Cut.
-/
import Derived.Test.YtejfilphnebckaaDZA
namespace Go.Proofs.Ytejfilphnebckaa
open Go.RowKit

theorem rcalls_any {F : Nat → Prop} {D : PD} (g : Nat) (w : World) (h : IsRef w g F D) :
    Calls Try.prog 18 #[.pointer (some ⟨g, 0, none⟩)] w fun e w' => e = .returned (.int .i64 (D.calls : Int)) ∧ w = w' := by
  obtain ⟨vL, l, ms, h⟩ := h
  have c1 := h.c1
  go_enter Try.func18, Try.ntmps18
  go_wp2
  go_ret
  exact ⟨rfl, rfl⟩

theorem roff_any {F : Nat → Prop} {D : PD} (g : Nat) (n : Int) (w : World) (h : IsRef w g F D) (hn : 1 ≤ n ∧ n ≤ 9223372036854775807) :
    Calls Try.prog 47 #[.pointer (some ⟨g, 0, none⟩), .int .i64 n] w fun e w' => e = .returned (.tuple #[]) ∧ RefTo g F (dOff D n) w w' := by
  obtain ⟨vL, l, ms, h⟩ := h
  have c2 := h.c2
  have f2 := h.fz 2
  have HD := Lib.hid h
  have HBLK := Lib.hid h.blk
  have HT : Hid (Touch (fun k => k = g) w w) := Touch.refl _ _
  have i0 : ¬ (n < 1) := by omega
  clear h
  go_enter Try.func47, Try.ntmps47
  go_wp2
  go_end0
  refine ⟨rfl, RefTick.to ⟨n, HD.out.turn (HT.out.set (.inl rfl) _) ?_ ?_ ?_ ⟨by omega, hn.2⟩, HT.out.set (.inl rfl) _⟩ HD.out.here⟩
  · have := heap_setCell_same w g 2 _ _ (.int .i64 n) HBLK.out
    have e1 : (dOff D n).calls = D.calls := by unfold dOff; rw [if_neg (by omega)]; split <;> rfl
    have e2 : (dOff D n).off = D.off := by unfold dOff; rw [if_neg (by omega)]; split <;> rfl
    rw [e1, e2]
    exact this
  · unfold dOff; rw [if_neg (by omega)]; split <;> rfl
  · unfold dOff
    rw [if_neg (by omega)]
    split
    · rename_i h1
      intro h2
      rw [h1] at h2
      cases h2
    · intro _
      show n = if n.toNat = 0 then -1 else ((n.toNat : Nat) : Int)
      rw [if_neg (by omega)]
      omega

set_option maxRecDepth 100000 in
set_option maxHeartbeats 4000000 in
theorem rread_is {F : Nat → Prop} {D : PD} (g : Nat) (s : ByteArray) (w : World) (h : IsRef w g F D) :
    Calls Try.prog 42 #[.pointer (some ⟨g, 0, none⟩), .string s] w (Made2 w.heap.size 5 w (u8s (dRead D s).1) (.int .i64 (dRead D s).2)) := by
  obtain ⟨vL, l, ms, h⟩ := h
  have HD := Lib.hid h
  have c3 := h.c3
  clear h
  have nul : World.ownsRow w w.heap.size 5 1 (.slice none 0 0) (u8s []).length (u8s []) := World.ownsRow_nil _ _ _ _
  cases hok : okName s with
  | false =>
    have hr : dRead D s = ([], 1) := by rw [dRead, if_pos hok]
    rw [hr]
    have HOK := Lib.hid hok
    clear hok hr
    go_enter Try.func42, Try.ntmps42
    go_wp2_with fail
    refine (refName_any s _).mono ?_
    rintro e w' ⟨he, rfl⟩
    rw [HOK.out] at he
    subst he
    go_wp2_with fail
    go_ret2
    exact ⟨_, rfl, nul, Below.refl _ _⟩
  | true =>
    have HOK := Lib.hid hok
    cases hoff : D.off with
    | true =>
      have hr : dRead D s = ([], 9) := by rw [dRead, if_neg (by rw [hok]; decide), if_pos hoff]
      rw [hr]
      rw [hoff] at c3
      clear hok hr hoff
      go_enter Try.func42, Try.ntmps42
      go_wp2_with fail
      refine (refName_any s _).mono ?_
      rintro e w' ⟨he, rfl⟩
      rw [HOK.out] at he
      subst he
      go_wp2_with fail
      go_ret2
      exact ⟨_, rfl, nul, Below.refl _ _⟩
    | false =>
      rw [hoff] at c3
      cases hhas : D.has s with
      | false =>
        have hr : dRead D s = ([], 3) := by rw [dRead, if_neg (by rw [hok]; decide), if_neg (by rw [hoff]; decide), if_neg (by rw [hhas]; decide)]
        rw [hr]
        have hv : findV9 D s = -1 := by rw [findV9, if_neg (by rw [hhas]; decide)]
        have HV := Lib.hid hv
        clear hok hr hoff hhas hv
        go_enter Try.func42, Try.ntmps42
        go_wp2_with fail
        refine (refName_any s _).mono ?_
        rintro e w' ⟨he, rfl⟩
        rw [HOK.out] at he
        subst he
        go_wp2_with fail
        refine (rfind_is g s _ HD.out).mono ?_
        rintro e w' ⟨rfl, rfl⟩
        rw [HV.out]
        go_wp2_with fail
        go_ret2
        exact ⟨_, rfl, nul, Below.refl _ _⟩
      | true =>
        obtain ⟨f, hf⟩ : ∃ f, D.fileAt s = some f := by
          rw [PD.fileAt, if_pos hhas]
          have h1 := hasN_pos (show hasN (namesF D.L) s = true from hhas)
          rw [namesF, List.length_map] at h1
          exact ⟨D.L[posN (D.L.map PF.nm) s], by show D.L[posN (D.L.map PF.nm) s]? = _; simp [h1]⟩
        obtain ⟨gr, n, cap, m, hvL, hnc, hm, hnm, rfl, _, hpn, hcell, hfz⟩ := HD.out.there hf
        have hvis : D.visAt s = m.seen := by
          rw [PD.visAt, (fileAt_some hf).1]
          rfl
        have hr : dRead D s = (m.seen, 0) := by rw [dRead, if_neg (by rw [hok]; decide), if_neg (by rw [hoff]; decide), if_pos hhas, hvis]
        rw [hr]
        have hv : findV9 D s = (D.pos s : Int) := by rw [findV9, if_pos hhas]
        have HV := Lib.hid hv
        obtain ⟨p, hp⟩ : ∃ p, D.pos s = p := ⟨_, rfl⟩
        rw [hp] at hm hpn hcell
        have HP := Lib.hid hp
        have c0 := HD.out.c0
        rw [hvL] at c0
        have e2 : w.cell? ⟨gr, p * 3 + 2, none⟩ = some m.eV := hcell 2 _ rfl
        have hels := HD.out.els m (List.mem_of_getElem? hm)
        obtain ⟨Ae, ce, hev, hnce, hmce, hrde, _⟩ := hels.2.1.rd
        have hfe := hels.2.1.few
        obtain ⟨ne, hne⟩ : ∃ ne, m.seen.length = ne := ⟨_, rfl⟩
        rw [hev, hne] at e2
        rw [hne] at hnce hfe
        have HNE := Lib.hid hne
        have HRD := Lib.hid hrde
        have i0 : (0 : Int) ≤ (p : Int) := by omega
        have i1 : (p : Int) < (n : Int) := by omega
        have i2 : ¬ ((p : Int) < 0) := by omega
        clear hok hr hoff hhas hv hf hvis hm hnm hcell hfz hp hels hev hne hrde nul
        go_enter Try.func42, Try.ntmps42
        go_wp2_with fail
        refine (refName_any s _).mono ?_
        rintro e w' ⟨he, rfl⟩
        rw [HOK.out] at he
        subst he
        go_wp2_with fail
        refine (rfind_is g s _ HD.out).mono ?_
        rintro e w' ⟨rfl, rfl⟩
        rw [HV.out, HP.out]
        go_wp2_with fail
        refine (copyBytes_any Ae ce ne m.seen _ HNE.out HRD.out hnce (by omega)).mono ?_
        rintro e w2 ⟨v2, rfl, ho2, hb2⟩
        go_wp2_with fail
        go_ret2
        exact ⟨_, rfl, ho2, hb2⟩

end Go.Proofs.Ytejfilphnebckaa
/-
  The page's own disk: List.
-/
namespace Go.Proofs.Ytejfilphnebckaa
open Go.RowKit

set_option maxRecDepth 100000 in
set_option maxHeartbeats 4000000 in
theorem rlist_is {F : Nat → Prop} {D : PD} (g : Nat) (w : World) (h : IsRef w g F D) :
    Calls Try.prog 43 #[.pointer (some ⟨g, 0, none⟩)] w (Made2 w.heap.size 9 w (strs (dList D).1) (.int .i64 (dList D).2)) := by
  obtain ⟨vL, l, ms, h⟩ := h
  have c0 := h.c0
  have c3 := h.c3
  cases hoff : D.off with
  | true =>
    have hr : dList D = ([], 9) := by rw [dList, if_pos hoff]
    rw [hr]
    rw [hoff] at c3
    clear hr h hoff
    go_enter Try.func43, Try.ntmps43
    go_wp2
    go_ret2
    exact ⟨_, rfl, World.ownsRow_nil _ _ _ _, Below.refl _ _⟩
  | false =>
    have hr : dList D = (ms.map MR.nm, 0) := by rw [dList, if_neg (by rw [hoff]; decide), h.nmL]
    rw [hr]
    rw [hoff] at c3
    obtain ⟨A, cap, hvL, hnc, hcm, hrd⟩ := h.slice rfl
    have hfew := h.few
    have hgl : g < w.heap.size := h.lt _ h.here
    obtain ⟨nL, hnL⟩ : ∃ nL, ms.length = nL := ⟨_, rfl⟩
    rw [hnL] at hvL hnc hfew
    have HN := Lib.hid hnL
    have HRD := Lib.hid hrd
    subst hvL
    clear hr h hoff hrd hnL
    go_enter Try.func43, Try.ntmps43
    go_wp2_with fail
    go_loopw [4, 5] (fun v i wr => ∃ k : Nat, i = .int .i64 k ∧ k ≤ nL ∧ Hid (wr.ownsRow w.heap.size 9 1 v k (strs ((ms.map MR.nm).take k))) ∧ Below w.heap.size w wr) (fun _ i _ => nL - (intOf i).toNat)
    case atStart => exact ⟨0, rfl, by omega, World.ownsRow_nil _ _ _ _, Below.refl _ _⟩
    case round =>
      obtain ⟨k, rfl, hk, HO, hb⟩ := hrel
      have k0 := (hb.cell (p := ⟨g, 0, none⟩) hgl).trans c0
      have i0 : (0 : Int) ≤ (k : Int) := by omega
      by_cases hlt : k < nL
      · obtain ⟨m, hm⟩ : ∃ m, ms[k]? = some m := ⟨_, List.getElem?_eq_getElem (by rw [HN.out]; omega)⟩
        obtain ⟨b, off, rfl, hbl, hcell⟩ := (HRD.out.below hb).open_ (by rw [cellsR_length, HN.out]; omega)
        have a0 : wr.cell? ⟨b, off + k * 3, none⟩ = some (.string m.nm) := hcell _ _ (cellsR_at hm (j := 0) rfl)
        have hnx : (ms.map MR.nm)[k]? = some m.nm := by rw [List.getElem?_map, hm]; rfl
        have HX : Hid (strs ((ms.map MR.nm).take k) ++ [.string m.nm] = strs ((ms.map MR.nm).take (k + 1))) := by
          show _ = _
          rw [take_up hnx, strs_append]
          rfl
        have i1 : (k : Int) < (nL : Int) := by omega
        clear hcell hm hnx
        go_wp2_with (at_builtin; refine wpList_app_one _ rfl _ _ 52 rfl w.heap.size 9 (.string ByteArray.empty) 16 Try.underlying52 info_str9 rfl (by decide) _ k _ rfl (HO.out.alloc _) wr.heap.size (.string m.nm) rfl (cell_new _ _ _) rfl (by omega) (by have := hb.size; simp; omega) ?_)
        intro v' w1 ho1 hb1
        have HO1 := Lib.hid (own_conv ho1 HX.out rfl)
        have hb3 : Below w.heap.size w w1 := (hb.alloc hb.size _).trans hb1
        clear ho1 hb1 k0
        go_wp2_with fail
        go_roundw
        case rel => exact ⟨k + 1, by go_num, by omega, HO1.out, hb3⟩
        case measure => simp [intOf]; omega
      · have i1 : ¬ ((k : Int) < (nL : Int)) := by omega
        obtain rfl : k = nL := by omega
        go_wp2_with fail
        go_ret2
        refine ⟨_, rfl, own_conv HO.out ?_ ?_, hb⟩
        · rw [List.take_of_length_le (by rw [List.length_map, HN.out]; omega)]
        · rw [strs_length, List.length_map, HN.out]

end Go.Proofs.Ytejfilphnebckaa
/-
  The page's own disk: Cut.
-/
namespace Go.Proofs.Ytejfilphnebckaa
open Go.RowKit

theorem rd_take9 {w : World} {A : Option Addr} {zs : List Int} (h : Rd w A (u8s zs)) (c : Nat) : Rd w A (u8s (zs.take c)) := fun hx => by
  have hx2 : u8s zs ≠ [] := fun e => hx (by
    have : zs = [] := by cases zs with
      | nil => rfl
      | cons a l => simp [u8s] at e
    rw [this]
    simp [u8s])
  obtain ⟨b, off, e, hb, hc⟩ := h hx2
  refine ⟨b, off, e, hb, fun i v hv => hc i v ?_⟩
  simp only [u8s, List.getElem?_map, List.getElem?_take] at hv ⊢
  split at hv
  · exact hv
  · cases hv

theorem own_byIn {w2 w5 : World} {F : Nat → Prop} {g gr n cap c c5 : Nat} {A5 : Option Addr} {zs : List Int} (h : w5.ownsRow w2.heap.size 5 1 (.slice A5 c c5) c (u8s zs)) (hz : zs.length = c) (hb : Byts zs) (hc : c ≤ 1048576) (hg : g < w2.heap.size) (hgr : gr < w2.heap.size) :
    ByIn w5 (fun k => F k ∨ (w2.heap.size ≤ k ∧ k < w5.heap.size)) g (.slice (some ⟨gr, 0, none⟩) n cap) (.slice A5 c c5) zs := by
  obtain ⟨A, c', e, h1, h2, h3, _, _⟩ := own_val h
  cases e
  refine ⟨⟨A5, c5, by rw [hz], by omega, h2, h3, fun a ha _ => ?_⟩, hb, by omega⟩
  subst ha
  obtain ⟨q1, q2⟩ := own_lt h rfl
  refine ⟨q1, .inr ⟨q2, q1⟩, by omega, fun e => ?_⟩
  have e' : gr = a.block := Option.some.inj e
  omega

set_option maxRecDepth 100000 in
set_option maxHeartbeats 8000000 in
theorem rcut_is {F : Nat → Prop} {D : PD} (g : Nat) (s : ByteArray) (n0 : Int) (w : World) (h : IsRef w g F D) (hc : D.calls ≤ 1000000) :
    Calls Try.prog 38 #[.pointer (some ⟨g, 0, none⟩), .string s, .int .i64 n0] w fun e w' => e = .returned (.int .i64 (dCut D s n0).2) ∧ RefTo g F (dCut D s n0).1 w w' := by
  have HIS := Lib.hid h
  obtain ⟨vL, l, ms, h⟩ := h
  have HD := Lib.hid h
  have HG : Hid (F g) := h.here
  clear h
  by_cases hn0 : n0 < 0
  · have hr : dCut D s n0 = (D, 1) := by rw [dCut, if_pos hn0]
    rw [hr]
    clear hr
    cases hok : okName s with
    | false =>
      have HOK := Lib.hid hok
      clear hok
      go_enter Try.func38, Try.ntmps38
      go_wp2_with fail
      refine (refName_any s _).mono ?_
      rintro e w' ⟨he, rfl⟩
      rw [HOK.out] at he
      subst he
      go_wp2_with fail
      go_ret
      exact ⟨rfl, RefTo.same HIS.out⟩
    | true =>
      have HOK := Lib.hid hok
      clear hok
      go_enter Try.func38, Try.ntmps38
      go_wp2_with fail
      refine (refName_any s _).mono ?_
      rintro e w' ⟨he, rfl⟩
      rw [HOK.out] at he
      subst he
      go_wp2_with fail
      go_ret
      exact ⟨rfl, RefTo.same HIS.out⟩
  cases hok : okName s with
  | false =>
    have hr : dCut D s n0 = (D, 1) := by rw [dCut, if_neg hn0]; exact dOpen_no hok
    rw [hr]
    have HOK := Lib.hid hok
    clear hok hr
    go_enter Try.func38, Try.ntmps38
    go_wp2_with fail
    refine (refName_any s _).mono ?_
    rintro e w' ⟨he, rfl⟩
    rw [HOK.out] at he
    subst he
    go_wp2_with fail
    go_ret
    exact ⟨rfl, RefTo.same HIS.out⟩
  | true =>
    have HOK := Lib.hid hok
    cases hto : D.tick.off with
    | true =>
      have hr : dCut D s n0 = (D.tick, 9) := by rw [dCut, if_neg hn0]; exact dOpen_off hok hto
      rw [hr]
      have HTO := Lib.hid hto
      clear hok hr hto
      go_enter Try.func38, Try.ntmps38
      go_wp2_with fail
      refine (refName_any s _).mono ?_
      rintro e w' ⟨he, rfl⟩
      rw [HOK.out] at he
      subst he
      go_wp2_with fail
      refine (rcall_is false g _ HD.out hc (by rw [HTO.out]; rfl)).mono ?_
      rintro e w2 ⟨rfl, hk⟩
      have HK := Lib.hid hk
      clear hk
      go_wp2_with fail
      go_ret
      exact ⟨rfl, HK.out.to HG.out⟩
    | false =>
      have HTO := Lib.hid hto
      cases hf : D.tick.fileAt s with
      | none =>
        have hf0 : D.fileAt s = none := by
          rw [PD.fileAt, tick_has, tick_pos, tick_L] at hf
          exact hf
        have hr : dCut D s n0 = (D.tick, 3) := by
          rw [dCut, if_neg hn0, dOpen, if_neg (by rw [hok]; decide), if_neg (by rw [hto]; decide), hf0]
        rw [hr]
        have hv : findV9 D.tick s = -1 := by
          rw [findV9, if_neg]
          intro hh
          rw [PD.fileAt, if_pos hh] at hf
          have h1 := hasN_pos (show hasN (namesF D.tick.L) s = true from hh)
          rw [namesF, List.length_map] at h1
          rw [List.getElem?_eq_none_iff] at hf
          have h2 : posN (List.map PF.nm D.tick.L) s < D.tick.L.length := h1
          have h3 : D.tick.L.length ≤ posN (List.map PF.nm D.tick.L) s := hf
          omega
        have HV := Lib.hid hv
        clear hok hr hto hf hf0 hv
        go_enter Try.func38, Try.ntmps38
        go_wp2_with fail
        refine (refName_any s _).mono ?_
        rintro e w' ⟨he, rfl⟩
        rw [HOK.out] at he
        subst he
        go_wp2_with fail
        refine (rcall_is true g _ HD.out hc (by rw [HTO.out]; rfl)).mono ?_
        rintro e w2 ⟨rfl, hk⟩
        have HK := Lib.hid hk
        obtain ⟨l2, hd2, _⟩ := hk
        go_wp2_with fail
        refine (rfind_is g s _ hd2).mono ?_
        rintro e w' ⟨rfl, rfl⟩
        rw [HV.out]
        clear hd2
        go_wp2_with fail
        go_ret
        exact ⟨rfl, HK.out.to HG.out⟩
      | some f =>
        have hf0 : D.fileAt s = some f := by
          rw [PD.fileAt, tick_has, tick_pos, tick_L] at hf
          exact hf
        have hr : dCut D s n0 = if (f.vis.length : Int) < n0 then (D.tick, 1) else (D.with (D.L.set (D.pos s) { f with vis := f.vis.take n0.toNat }), 0) := by rw [dCut, if_neg hn0, dOpen_yes hok hto hf0]
        obtain ⟨R, hR⟩ : ∃ R, dCut D s n0 = R := ⟨_, rfl⟩
        rw [hR] at hr ⊢
        have HRR := Lib.hid hr
        have HF := Lib.hid hf
        clear hok hr hto hf hf0 hR
        go_enter Try.func38, Try.ntmps38
        go_wp2_with fail
        refine (refName_any s _).mono ?_
        rintro e w' ⟨he, rfl⟩
        rw [HOK.out] at he
        subst he
        go_wp2_with fail
        refine (rcall_is true g _ HD.out hc (by rw [HTO.out]; rfl)).mono ?_
        rintro e w2 ⟨rfl, hk⟩
        have HK := Lib.hid hk
        obtain ⟨l2, hd2, _⟩ := hk
        go_wp2_with fail
        refine (rfind_is g s _ hd2).mono ?_
        rintro e w' ⟨rfl, rfl⟩
        obtain ⟨gr, n, cap, m, rfl, hnc, hm, hnm, rfl, hhas, hpn, hcell, hfz⟩ := hd2.there HF.out
        rw [findV9, if_pos hhas]
        obtain ⟨p, hp⟩ : ∃ p, D.tick.pos s = p := ⟨_, rfl⟩
        rw [hp] at hm hpn hcell ⊢
        have c0 := hd2.c0
        have e1 : w2.cell? ⟨gr, p * 3 + 1, none⟩ = some m.sV := hcell 1 _ rfl
        have e2 : w2.cell? ⟨gr, p * 3 + 2, none⟩ = some m.eV := hcell 2 _ rfl
        have f1 := hfz (p * 3 + 1)
        have i0 : (0 : Int) ≤ (p : Int) := by omega
        have i1 : (p : Int) < (n : Int) := by omega
        have i2 : ¬ ((p : Int) < 0) := by omega
        have HD2 := Lib.hid hd2
        have HM := Lib.hid hm
        have HP := Lib.hid hp
        have hels := hd2.els m (List.mem_of_getElem? hm)
        obtain ⟨Ae, ce, hev, hnce, hmce, hrde, hblk⟩ := hels.2.1.rd
        have hfe := hels.2.1.few
        obtain ⟨ne, hne⟩ : ∃ ne, m.seen.length = ne := ⟨_, rfl⟩
        rw [hev, hne] at e2
        rw [hne] at hnce hfe
        have hrr := HRR.out
        rw [show m.pf.vis.length = ne from hne] at hrr
        have HR2 := Lib.hid hrr
        clear hrr HRR
        have HBY := Lib.hid hels.2
        have HSV := Lib.hid hels.1
        have HNE := Lib.hid hne
        have HRD := Lib.hid hrde
        have HPV : Hid ((m.pf).vis = m.seen) := rfl
        obtain ⟨l3, hd3, ht3⟩ := HK.out
        have HT3 := Lib.hid ht3
        have hgrl : gr < w2.heap.size := hd2.lt gr (hd2.rowF gr rfl)
        have hgl : g < w2.heap.size := hd2.lt g hd2.here
        have f2 := hfz (p * 3 + 2)
        clear hd2 hm hp hcell hfz hev hne hhas hnm hels hd3 ht3 hrde hblk e1 f1
        by_cases hbig : (ne : Int) < n0
        · have hrr := HR2.out
          rw [if_pos hbig] at hrr
          have HR3 := Lib.hid hrr
          clear hrr HR2
          go_wp2_with fail
          go_ret
          rw [HR3.out]
          exact ⟨rfl, HK.out.to HG.out⟩
        · have hrr := HR2.out
          rw [if_neg hbig] at hrr
          have HR3 := Lib.hid hrr
          clear hrr HR2
          obtain ⟨c, hc0⟩ : ∃ c : Nat, n0 = (c : Int) := ⟨n0.toNat, by omega⟩
          subst hc0
          have hcn : c ≤ ne := by omega
          have j1 : (c : Int) ≤ (ce : Int) := by omega
          have j2 : (0 : Int) ≤ (c : Int) := by omega
          have hcc := fun wX (hX : Below w2.heap.size w2 wX) => copyBytes_any Ae ce c (m.seen.take c) wX (by rw [List.length_take, HNE.out]; omega) (rd_take9 (HRD.out.below hX) c) (by omega) (by omega)
          have HCC := Lib.hid hcc
          clear hcc
          go_wp2_with fail
          first
            | (go_region_with (go_at_call 29; refine (HCC.out _ (by first | exact Below.refl _ _ | exact (Below.refl _ _).drew | exact below_n (Below.refl _ _) _)).mono ?_; rintro e w5 ⟨v5, rfl, ho5, hb5⟩; have hb25 : Below w2.heap.size w2 w5 := (by first | exact hb5 | exact ((Below.refl _ _).drew).trans hb5 | exact (below_n (Below.refl _ _) _).trans hb5); have ho5b := own_cast ho5 ((u8s_length _).trans (show (m.seen.take c).length = c by rw [List.length_take, HNE.out]; omega)); obtain ⟨A5, c5, rfl, hc5, hm5, hr5, _, _⟩ := own_val ho5b; have k0 : w5.cell? ⟨g, 0, none⟩ = some (.slice (some ⟨gr, 0, none⟩) n cap) := (hb25.cell (p := ⟨g, 0, none⟩) hgl).trans c0; have k2 := (hb25.cell (p := ⟨gr, p * 3 + 2, none⟩) hgrl).trans e2; have q2 := (hb25.frozen (p := ⟨gr, p * 3 + 2, none⟩) hgrl).trans f2; have HO5 := Lib.hid ho5b; have HR5 := Lib.hid hr5; clear ho5 ho5b hb5 hr5; try go_simp))
            | fail
          all_goals
            go_wp2_with fail
            go_ret
            rw [HR3.out]
            refine ⟨rfl, RefTo.behind (HT3.out.mono fun k hk => by rw [hk]; exact HG.out) ?_⟩
            have hnew : ByIn w5 (fun k => F k ∨ (w2.heap.size ≤ k ∧ k < w5.heap.size)) g (.slice (some ⟨gr, 0, none⟩) n cap) (.slice A5 c c5) (m.seen.take c) := own_byIn HO5.out (by rw [List.length_take, HNE.out]; omega) (fun x hx => HBY.out.1.byt x (List.mem_of_mem_take hx)) (by omega) hgl hgrl
            have hsaf : ByIn w5 (fun k => F k ∨ (w2.heap.size ≤ k ∧ k < w5.heap.size)) g (.slice (some ⟨gr, 0, none⟩) n cap) m.sV m.safe := (HSV.out.far hb25.size fun k hk _ _ => hb25.block k hk).wider fun k hk => .inl hk
            refine HD2.out.elTo (m' := { m with seen := m.seen.take c, eV := .slice A5 c c5 }) (j := 2) HM.out hb25 (by decide) rfl rfl ⟨hsaf, hnew⟩ ?_ rfl rfl rfl
            show D.L.set (D.pos s) _ = D.tick.L.set p _
            rw [tick_L, ← HP.out, tick_pos]
            rfl

end Go.Proofs.Ytejfilphnebckaa
/-
  Appending several elements of several cells each, and where the row lies then.
-/
namespace Go.Proofs.Ytejfilphnebckaa
open Go.RowKit

theorem run_app_rows {P : Program} (w : World) (t ty : TypeId) (B : Nat) (e : TypeId) (z : Value) (sz bytes : Nat) (ht : P.underlying t = some (.slice e)) (hinfo : (P.info? e).map (fun i => (i.zero, i.size, i.bytes)) = some (some z, sz, bytes)) (hzs : z.cells.size = sz) (hsz : 0 < sz) (hby : bytes ≤ 512)
    (v : Value) (n : Nat) (xs : List Value) (hown : w.ownsRow B e sz v n xs) (A : Option Addr) (m c : Nat) (news : List Value) (hm : news.length = m * sz) (hr : Rd w A news) (h1 : ∀ u ∈ news, u.oneCell' = true) (hn : n + m ≤ 1000000) (hB : B ≤ w.heap.size) :
    ∃ A' c' w', (Builtin.append_ #[t, t] ty #[v, .slice A m c]).run P w = .ok (.slice A' (n + m) c') w' ∧ w'.ownsRow B e sz (.slice A' (n + m) c') (n + m) (xs ++ news) ∧ w.grownBy w' v.ownBlock ∧ ((Value.slice A' (n + m) c').ownBlock = v.ownBlock ∨ (Value.slice A' (n + m) c').ownBlock = some w.heap.size) := by
  obtain ⟨i, hi, hz, hsize, hbytes⟩ := info_parts hinfo
  cases A with
  | none =>
    have hn0 : news = [] := by
      rcases Nat.eq_zero_or_pos news.length with h0 | h0
      · exact List.eq_nil_of_length_eq_zero h0
      · obtain ⟨b, off, he, _⟩ := hr.open_ h0
        cases he
    subst hn0
    have hm0 : m = 0 := by
      rcases Nat.eq_zero_or_pos m with h0 | h0
      · exact h0
      · have := Nat.mul_le_mul h0 hsz
        simp at hm
        omega
    subst hm0
    obtain ⟨A', c', rfl, hnc, _⟩ := ownS_slice hown
    refine ⟨A', c', w, ?_, by simpa using hown, ⟨rfl, rfl, rfl, Nat.le_refl _, fun _ _ _ => rfl⟩, .inl rfl⟩
    rcases hown.2 with ⟨hv, _⟩ | ⟨g, cap, cur, hv, _, _, hnc, _⟩
    · cases hv
      simp [Builtin.append_, run_underlying ht, sizeOf, typeInfo, hi, Builtin.lenOf, Builtin.firstCells]
    · cases hv
      simp [Builtin.append_, run_underlying ht, sizeOf, typeInfo, hi, Builtin.lenOf, Builtin.firstCells, hnc, storeCells]
  | some ad =>
    rcases Nat.eq_zero_or_pos m with h0 | h0
    · subst h0
      have hn0 : news = [] := List.eq_nil_of_length_eq_zero (by omega)
      subst hn0
      obtain ⟨v', w', hrun, h2, h3, _, h5⟩ := run_append_own_at (P := P) w B t ty e i z sz bytes ht hi hz hsize hbytes hzs hsz v n xs hown ad 0 c [] (by simp) (fun j y hj => by simp at hj) h1 (by unfold maxLen; omega) (by have := Nat.mul_le_mul hn hby; omega) hB
      obtain ⟨A', c', rfl, _⟩ := ownS_slice h2
      exact ⟨A', c', w', hrun, h2, h3, h5⟩
    · obtain ⟨v', w', hrun, h2, h3, _, h5⟩ := run_append_own_at (P := P) w B t ty e i z sz bytes ht hi hz hsize hbytes hzs hsz v n xs hown ad m c news hm (fun j y hj => by
        have hl : j < news.length := (List.getElem?_eq_some_iff.1 hj).1
        obtain ⟨b, off, he, _, hc⟩ := hr.open_ (by omega)
        cases he
        rw [Addr.add_lit]
        exact hc j y hj) h1 (by unfold maxLen; omega) (by have := Nat.mul_le_mul hn hby; omega) hB
      obtain ⟨A', c', rfl, _⟩ := ownS_slice h2
      exact ⟨A', c', w', hrun, h2, h3, h5⟩
theorem info_rfile : (Try.prog.info? 74).map (fun i => (i.zero, i.size, i.bytes)) = some (some (.agg #[.string ByteArray.empty, .slice none 0 0, .slice none 0 0]), 3, 64) := by kernel_rfl
theorem cellsR_one {ms : List MR} (h : ∀ m ∈ ms, (∃ A n c, m.sV = .slice A n c) ∧ ∃ A n c, m.eV = .slice A n c) : ∀ u ∈ cellsR ms, u.oneCell' = true := by
  intro u hu
  obtain ⟨m, hm, hu⟩ := List.mem_flatMap.1 hu
  obtain ⟨⟨A, n, c, h1⟩, A', n', c', h2⟩ := h m hm
  simp only [MR.cells, List.mem_cons, List.not_mem_nil, or_false, h1, h2] at hu
  rcases hu with rfl | rfl | rfl <;> rfl
theorem RefIn.one {w : World} {g : Nat} {F : Nat → Prop} {D : PD} {vL : Value} {l : Int} {ms : List MR} (h : RefIn w g F D vL l ms) : ∀ m ∈ ms, (∃ A n c, m.sV = .slice A n c) ∧ ∃ A n c, m.eV = .slice A n c := fun m hm => by
  obtain ⟨⟨⟨A, c, h1, _⟩, _⟩, ⟨⟨A', c', h2, _⟩, _⟩, _⟩ := h.els m hm
  exact ⟨⟨A, _, c, h1⟩, ⟨A', _, c', h2⟩⟩

theorem rd_rows9 {w : World} {gr : Nat} {ms : List MR} (h : Rd w (some ⟨gr, 0, none⟩) (cellsR ms)) (i : Nat) : Rd w (some ⟨gr, 0, none⟩) (cellsR (ms.take i)) ∧ Rd w (some ⟨gr, i * 3, none⟩) (cellsR (ms.drop i)) := by
  constructor
  · intro hx
    have h0 : cellsR ms ≠ [] := fun e => hx (by rw [← cellsR_take, e]; simp)
    obtain ⟨b, off, e, hb, hc⟩ := h h0
    refine ⟨b, off, e, hb, fun j v hv => hc j v ?_⟩
    rw [← cellsR_take, List.getElem?_take] at hv
    split at hv
    · exact hv
    · cases hv
  · intro hx
    have h0 : cellsR ms ≠ [] := fun e => hx (by rw [← cellsR_drop, e]; simp)
    obtain ⟨b, off, e, hb, hc⟩ := h h0
    cases e
    refine ⟨gr, i * 3, rfl, hb, fun j v hv => ?_⟩
    rw [← cellsR_drop, List.getElem?_drop] at hv
    have := hc _ v hv
    rwa [Nat.zero_add] at this

end Go.Proofs.Ytejfilphnebckaa
/-
  The page's own disk: a file less.
-/
namespace Go.Proofs.Ytejfilphnebckaa
open Go.RowKit

section
variable {w w2 : World} {g : Nat} {F : Nat → Prop} {D : PD} {vL v2 : Value} {l : Int} {ms ms2 : List MR}
/-- another row, all new, of files that the disk has -/
theorem RefIn.rowTo (h : RefIn w g F D vL l ms) (hb : Below w.heap.size w w2) (ho : w2.ownsRow w.heap.size 74 3 v2 ms2.length (cellsR ms2)) (hsub : ms2.Sublist ms) :
    RefIn (w2.setCell ⟨g, 0, none⟩ v2) g (fun k => F k ∨ (w.heap.size ≤ k ∧ k < w2.heap.size)) { D with L := ms2.map MR.pf } v2 l ms2 ∧ Touch (fun k => k = g) w (w2.setCell ⟨g, 0, none⟩ v2) ∧ ∀ k, v2.ownBlock = some k → w.heap.size ≤ k := by
  have hgl : g < w.heap.size := h.lt _ h.here
  have hnew : ∀ k, v2.ownBlock = some k → w.heap.size ≤ k ∧ k < w2.heap.size := fun k hk => ⟨(own_lt ho hk).2, (own_lt ho hk).1⟩
  have hoth : ∀ k, k ≠ g → (w2.setCell ⟨g, 0, none⟩ v2).heap[k]? = w2.heap[k]? := fun k hk => heap_setCell_other w2 ⟨g, 0, none⟩ k v2 hk
  have hsz : (w2.setCell ⟨g, 0, none⟩ v2).heap.size = w2.heap.size := by simp
  have hby : ∀ {v : Value} {zs : List Int}, ByIn w F g vL v zs → ByIn (w2.setCell ⟨g, 0, none⟩ v2) (fun k => F k ∨ (w.heap.size ≤ k ∧ k < w2.heap.size)) g v2 v zs := fun {v zs} hx => by
    obtain ⟨⟨A, c, h1, h2, h3, h4, h5⟩, h6, h7⟩ := hx.far (w' := w2.setCell ⟨g, 0, none⟩ v2) (by rw [hsz]; exact hb.size) fun k hk hkg _ => (hoth k hkg).trans (hb.block k hk)
    obtain ⟨⟨A', c', h1', _, _, _, h5'⟩, _, _⟩ := hx
    rw [h1] at h1'
    cases h1'
    refine ⟨⟨A, c, h1, h2, h3, h4, fun a ha h0 => ?_⟩, h6, h7⟩
    obtain ⟨q1, q2, q3, _⟩ := h5' a ha h0
    exact ⟨by rw [hsz]; exact Nat.lt_of_lt_of_le q1 hb.size, .inl q2, q3, fun e => by have := (hnew _ e).1; omega⟩
  have hrow : (w2.setCell ⟨g, 0, none⟩ v2).ownsRow 0 74 3 v2 ms2.length (cellsR ms2) := own_kept (ownS_more ho (Nat.zero_le _)) fun k hk _ => hoth k fun e => by have := (hnew k hk).1; omega
  refine ⟨⟨?_, hrow, fun m hm => ?_, fun e => by have := (hnew g e).1; omega, .inl h.here, fun k hk => .inr (hnew k hk), fun k hk => ?_, rfl, ?_, Nat.le_trans hsub.length_le h.few, h.okl, h.lr⟩, (Touch.of hb : Touch (fun k => k = g) w w2).set (.inl rfl) v2, fun k hk => (hnew k hk).1⟩
  · have hblk : w2.heap[g]? = some (.cells #[vL, .int .i64 D.calls, .int .i64 l, .bool D.off] 72 (0, 0)) := (hb.block g hgl).trans h.blk
    have := heap_setCell_same w2 g 0 _ _ v2 hblk
    exact this
  · obtain ⟨e1, e2, e3⟩ := h.els m (hsub.subset hm)
    exact ⟨hby e1, hby e2, e3⟩
  · rw [hsz]
    rcases hk with hk | hk
    · exact Nat.lt_of_lt_of_le (h.lt k hk) hb.size
    · exact hk.2
  · have h1 := h.rise
    rw [h.nmL] at h1
    show RiseN ((ms2.map MR.pf).map PF.nm)
    rw [List.map_map]
    exact h1.sublist (hsub.map _)
end

end Go.Proofs.Ytejfilphnebckaa
/-
  The page's own disk: another row of files; a file less.
-/
namespace Go.Proofs.Ytejfilphnebckaa
open Go.RowKit

/-- what a call leaves that gives the disk another row of files: what was readable stays so -/
def RowTo (g : Nat) (F : Nat → Prop) (D : PD) (vL : Value) (l : Int) (ms2 : List MR) (w w' : World) : Prop :=
  ∃ (vL' : Value) (F' : Nat → Prop), RefIn w' g F' { D with L := ms2.map MR.pf } vL' l ms2 ∧ Touch (fun k => k = g) w w' ∧ (∀ k, F' k → F k ∨ w.heap.size ≤ k) ∧ ∀ (v : Value) (zs : List Int), ByIn w F g vL v zs → ByIn w' F' g vL' v zs

section
variable {w w2 w' : World} {g : Nat} {F : Nat → Prop} {D : PD} {vL v2 : Value} {l : Int} {ms ms2 : List MR}
theorem RefIn.rowAny (h : RefIn w g F D vL l ms) (hb : Below w.heap.size w w2) (ho : w2.ownsRow w.heap.size 74 3 v2 ms2.length (cellsR ms2))
    (hels : ∀ m ∈ ms2, ByIn w F g vL m.sV m.safe ∧ ByIn w F g vL m.eV m.seen ∧ okName m.nm = true) (hrise : RiseN (ms2.map MR.nm)) (hfew : ms2.length ≤ 16) : RowTo g F D vL l ms2 w (w2.setCell ⟨g, 0, none⟩ v2) := by
  have hgl : g < w.heap.size := h.lt _ h.here
  have hnew : ∀ k, v2.ownBlock = some k → w.heap.size ≤ k ∧ k < w2.heap.size := fun k hk => ⟨(own_lt ho hk).2, (own_lt ho hk).1⟩
  have hoth : ∀ k, k ≠ g → (w2.setCell ⟨g, 0, none⟩ v2).heap[k]? = w2.heap[k]? := fun k hk => heap_setCell_other w2 ⟨g, 0, none⟩ k v2 hk
  have hsz : (w2.setCell ⟨g, 0, none⟩ v2).heap.size = w2.heap.size := by simp
  have hby : ∀ {v : Value} {zs : List Int}, ByIn w F g vL v zs → ByIn (w2.setCell ⟨g, 0, none⟩ v2) (fun k => F k ∨ (w.heap.size ≤ k ∧ k < w2.heap.size)) g v2 v zs := fun {v zs} hx => by
    obtain ⟨⟨A, c, h1, h2, h3, h4, h5⟩, h6, h7⟩ := hx.far (w' := w2.setCell ⟨g, 0, none⟩ v2) (by rw [hsz]; exact hb.size) fun k hk hkg _ => (hoth k hkg).trans (hb.block k hk)
    obtain ⟨⟨A', c', h1', _, _, _, h5'⟩, _, _⟩ := hx
    rw [h1] at h1'
    cases h1'
    refine ⟨⟨A, c, h1, h2, h3, h4, fun a ha h0 => ?_⟩, h6, h7⟩
    obtain ⟨q1, q2, q3, _⟩ := h5' a ha h0
    exact ⟨by rw [hsz]; exact Nat.lt_of_lt_of_le q1 hb.size, .inl q2, q3, fun e => by have := (hnew _ e).1; omega⟩
  have hrow : (w2.setCell ⟨g, 0, none⟩ v2).ownsRow 0 74 3 v2 ms2.length (cellsR ms2) := own_kept (ownS_more ho (Nat.zero_le _)) fun k hk _ => hoth k fun e => by have := (hnew k hk).1; omega
  refine ⟨v2, fun k => F k ∨ (w.heap.size ≤ k ∧ k < w2.heap.size), ⟨?_, hrow, fun m hm => ?_, fun e => by have := (hnew g e).1; omega, .inl h.here, fun k hk => .inr (hnew k hk), fun k hk => ?_, rfl, ?_, hfew, h.okl, h.lr⟩, (Touch.of hb : Touch (fun k => k = g) w w2).set (.inl rfl) v2, fun k hk => hk.imp id And.left, fun v zs hx => hby hx⟩
  · have hblk : w2.heap[g]? = some (.cells #[vL, .int .i64 D.calls, .int .i64 l, .bool D.off] 72 (0, 0)) := (hb.block g hgl).trans h.blk
    have := heap_setCell_same w2 g 0 _ _ v2 hblk
    exact this
  · obtain ⟨e1, e2, e3⟩ := hels m hm
    exact ⟨hby e1, hby e2, e3⟩
  · rw [hsz]
    rcases hk with hk | hk
    · exact Nat.lt_of_lt_of_le (h.lt k hk) hb.size
    · exact hk.2
  · show RiseN ((ms2.map MR.pf).map PF.nm)
    rw [List.map_map]
    exact hrise
theorem RefIn.riseM (h : RefIn w g F D vL l ms) : RiseN (ms.map MR.nm) := by
  rw [← h.nmL]
  exact h.rise
theorem RowTo.to (h : RowTo g F D vL l ms2 w w') (hg : F g) : RefTo g F { D with L := ms2.map MR.pf } w w' := by
  obtain ⟨vL', F', hd, ht, hF, _⟩ := h
  exact ⟨F', ⟨_, _, _, hd⟩, ht.mono fun k hk => by rw [hk]; exact hg, hF⟩
end

set_option maxRecDepth 100000 in
set_option maxHeartbeats 4000000 in
theorem rdrop_is {F : Nat → Prop} {D : PD} {vL : Value} {l : Int} {ms : List MR} (g i : Nat) (w : World) (h : RefIn w g F D vL l ms) (hi : i < ms.length) :
    Calls Try.prog 62 #[.pointer (some ⟨g, 0, none⟩), .int .i64 (i : Int)] w fun e w' => e = .returned (.tuple #[]) ∧ RowTo g F D vL l (ms.take i ++ ms.drop (i + 1)) w w' := by
  have hgl : g < w.heap.size := h.lt _ h.here
  rcases h.row.2 with ⟨_, h3⟩ | ⟨gr, cap, cur, hv, _, hgc, hnc, hcm, _, _⟩
  · omega
  subst hv
  obtain ⟨A, c, e, _, _, hrd⟩ := h.slice rfl
  cases e
  have hgrl := h.lt gr (h.rowF gr rfl)
  have c0 := h.c0
  have f0 := h.fz 0
  have hfew := h.few
  obtain ⟨n, hn⟩ : ∃ n, ms.length = n := ⟨_, rfl⟩
  rw [hn] at c0 hnc hfew hi
  have HN := Lib.hid hn
  have HD := Lib.hid h
  obtain ⟨hr1, _⟩ := rd_rows9 hrd i
  obtain ⟨A1, c1, w1, hrun1, ho1, hg1, hl1⟩ := run_app_rows (P := Try.prog) w 70 70 w.heap.size 74 _ 3 64 Try.underlying70 info_rfile rfl (by decide) (by decide) (.slice none 0 0) 0 [] (World.ownsRow_nil _ _ _ _) (some ⟨gr, 0, none⟩) i cap (cellsR (ms.take i)) (by rw [cellsR_length, List.length_take]; omega) hr1 (cellsR_one fun m hm => h.one m (List.mem_of_mem_take hm)) (by omega) (Nat.le_refl _)
  have HRUN1 := Lib.hid hrun1
  have i0 : (0 : Int) ≤ (i : Int) := by omega
  have i1 : (i : Int) ≤ (cap : Int) := by omega
  have i2 : i ≤ cap := by omega
  have i3 : (i : Int) + 1 ≤ (n : Int) := by omega
  have ew : IntKind.i64.wrap ((i : Int) + 1) = ((i + 1 : Nat) : Int) := by rw [IntKind.wrap_i64]; omega
  have k0 : w1.cell? ⟨g, 0, none⟩ = some (.slice (some ⟨gr, 0, none⟩) n cap) := (World.cell?_of_block (a := ⟨g, 0, none⟩) (hg1.block g hgl (by simp [Value.ownBlock]))).trans c0
  rw [Nat.zero_add, List.nil_append] at ho1
  have hb01 : Below w.heap.size w w1 := belowS_own (Below.refl _ _) (World.ownsRow_nil w w.heap.size 74 3) hg1 (Nat.le_refl _)
  have hrd1 := hrd.below hb01
  have hlen : (ms.take i ++ ms.drop (i + 1)).length = i + (n - (i + 1)) := by rw [List.length_append, List.length_take, List.length_drop]; omega
  have hsub : (ms.take i ++ ms.drop (i + 1)).Sublist ms := by
    conv => rhs; rw [← List.take_append_drop i ms]
    refine (List.Sublist.refl _).append ?_
    have e : ms.drop (i + 1) = (ms.drop i).drop 1 := by rw [List.drop_drop]
    rw [e]
    exact List.drop_sublist 1 _
  have hones := h.one
  have fin : ∀ (A2 : Option Addr) (c2 : Nat) (w2 : World), w2.ownsRow w.heap.size 74 3 (.slice A2 (i + (n - (i + 1))) c2) (i + (n - (i + 1))) (cellsR (ms.take i) ++ cellsR (ms.drop (i + 1))) → Below w.heap.size w w2 → RowTo g F D (.slice (some ⟨gr, 0, none⟩) ms.length cap) l (ms.take i ++ ms.drop (i + 1)) w (w2.setCell ⟨g, 0, none⟩ (.slice A2 (i + (n - (i + 1))) c2)) := by
    intro A2 c2 w2 ho2 hb2
    rw [← cellsR_append, ← hlen] at ho2
    rw [← hlen]
    exact h.rowAny hb2 ho2 (fun m hm => h.els m (hsub.subset hm)) (h.riseM.sublist (hsub.map _)) (Nat.le_trans hsub.length_le h.few)
  have HFIN := Lib.hid fin
  have HO1 := Lib.hid ho1
  by_cases hcc : cap = i + 1
  · subst hcc
    have hdn : cellsR (ms.drop (i + 1)) = [] := by rw [List.drop_of_length_le (by omega)]; rfl
    have hn0 : n - (i + 1) = 0 := by omega
    rw [hn0, Nat.add_zero, hdn, List.append_nil] at HFIN
    obtain ⟨A2, c2, w2, hrun2, ho2, hg2, _⟩ := run_app_rows (P := Try.prog) w1 70 70 w.heap.size 74 _ 3 64 Try.underlying70 info_rfile rfl (by decide) (by decide) (.slice A1 i c1) i _ HO1.out (some ⟨gr, 0, none⟩) 0 0 [] rfl (Rd.nil _ _) (fun _ h => by cases h) (by omega) hb01.size
    have hrun2' : (Builtin.append_ #[70, 70] 70 #[.slice A1 i c1, .slice (some ⟨gr, 0, none⟩) (n - (i + 1)) 0]).run Try.prog w1 = .ok (.slice A2 (i + 0) c2) w2 := by rw [hn0]; exact hrun2
    have HRUN2 := Lib.hid hrun2
    have HRUN3 := Lib.hid hrun2'
    rw [Nat.add_zero, List.append_nil] at ho2
    have hb2 : Below w.heap.size w w2 := belowS_own hb01 HO1.out hg2 hb01.size
    have k2 := (hb2.cell (p := ⟨g, 0, none⟩) hgl).trans c0
    have q2 := (hb2.frozen (p := ⟨g, 0, none⟩) hgl).trans f0
    have HRES := Lib.hid (HFIN.out A2 c2 w2 ho2 hb2)
    rw [Nat.zero_add] at hrun1
    have HRUN1' := Lib.hid hrun1

    clear h hrd hn hrun1 hrun2 hrun2' hgc fin hrd1 hsub hones ho1 ho2 hg1 hg2 hb2 hb01 hdn hlen HRUN1 hr1 hl1 HFIN HO1
    go_enter Try.func62, Try.ntmps62
    go_wp2_with (at_builtin; first | (refine wpList_app_run _ rfl _ _ 70 70 rfl rfl rfl HRUN1'.out ?_) | (refine wpList_app_run _ rfl _ _ 70 70 rfl rfl rfl HRUN2.out ?_) | (refine wpList_app_run _ rfl _ _ 70 70 rfl rfl rfl HRUN3.out ?_) | (trace_state; fail))
    go_end0
    exact ⟨rfl, HRES.out⟩
  · have j1 : i + 1 < cap := by omega
    have j2 : (i : Int) + 1 < (cap : Int) := by omega
    obtain ⟨A2, c2, w2, hrun2, ho2, hg2, _⟩ := run_app_rows (P := Try.prog) w1 70 70 w.heap.size 74 _ 3 64 Try.underlying70 info_rfile rfl (by decide) (by decide) (.slice A1 i c1) i _ HO1.out (some ⟨gr, (i + 1) * 3, none⟩) (n - (i + 1)) (cap - (i + 1)) (cellsR (ms.drop (i + 1))) (by rw [cellsR_length, List.length_drop]; omega) (rd_rows9 hrd1 (i + 1)).2 (cellsR_one fun m hm => hones m (List.mem_of_mem_drop hm)) (by omega) hb01.size
    have HRUN2 := Lib.hid hrun2
    have hb2 : Below w.heap.size w w2 := belowS_own hb01 HO1.out hg2 hb01.size
    have k2 := (hb2.cell (p := ⟨g, 0, none⟩) hgl).trans c0
    have q2 := (hb2.frozen (p := ⟨g, 0, none⟩) hgl).trans f0
    have HRES := Lib.hid (HFIN.out A2 c2 w2 ho2 hb2)
    rw [Nat.zero_add] at hrun1
    have HRUN1' := Lib.hid hrun1
    clear h hrd hn hrun1 hrun2 hgc fin hrd1 hsub hones ho1 ho2 hg1 hg2 hb2 hb01 hlen HRUN1 hr1 hl1 HFIN HO1
    go_enter Try.func62, Try.ntmps62
    go_wp2_with (at_builtin; first | (refine wpList_app_run _ rfl _ _ 70 70 rfl rfl rfl HRUN1'.out ?_) | (refine wpList_app_run _ rfl _ _ 70 70 rfl rfl rfl HRUN2.out ?_))
    go_end0
    exact ⟨rfl, HRES.out⟩

end Go.Proofs.Ytejfilphnebckaa
