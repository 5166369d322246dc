/-
  The page's own disk: Remove.
-/
import Derived.Test.YtejfilphnebckaaDZB
namespace Go.Proofs.Ytejfilphnebckaa
open Go.RowKit

theorem fileAt_tick {D : PD} {s : ByteArray} : D.tick.fileAt s = D.fileAt s := by rw [PD.fileAt, tick_has, tick_pos, tick_L]; rfl
theorem find_none {D : PD} {s : ByteArray} (hf : D.fileAt s = none) : findV9 D s = -1 := by
  rw [findV9, if_neg]
  intro hh
  rw [PD.fileAt, if_pos hh] at hf
  have h1 := hasN_pos (show hasN (namesF D.L) s = true from hh)
  rw [namesF, List.length_map] at h1
  rw [List.getElem?_eq_none_iff] at hf
  have h2 : posN (List.map PF.nm D.L) s < D.L.length := h1
  have h3 : D.L.length ≤ posN (List.map PF.nm D.L) s := hf
  omega
theorem map_del (ms : List MR) (p : Nat) : (ms.take p ++ ms.drop (p + 1)).map MR.pf = (ms.map MR.pf).take p ++ (ms.map MR.pf).drop (p + 1) := by
  rw [List.map_append, List.map_take, List.map_drop]

set_option maxRecDepth 100000 in
set_option maxHeartbeats 4000000 in
theorem rremove_is {F : Nat → Prop} {D : PD} (g : Nat) (s : ByteArray) (w : World) (h : IsRef w g F D) (hc : D.calls ≤ 1000000) :
    Calls Try.prog 41 #[.pointer (some ⟨g, 0, none⟩), .string s] w fun e w' => e = .returned (.int .i64 (dRemove D s).2) ∧ RefTo g F (dRemove D s).1 w w' := by
  have HIS := Lib.hid h
  obtain ⟨vL, l, ms, h⟩ := h
  have HD := Lib.hid h
  have HG : Hid (F g) := h.here
  clear h
  cases hok : okName s with
  | false =>
    have hr : dRemove D s = (D, 1) := by rw [dRemove]; exact dOpen_no hok
    rw [hr]
    have HOK := Lib.hid hok
    clear hok hr
    go_enter Try.func41, Try.ntmps41
    go_wp2_with fail
    refine (refName_any s _).mono ?_
    rintro e w' ⟨he, rfl⟩
    rw [HOK.out] at he
    subst he
    go_wp2_with fail
    go_ret
    exact ⟨rfl, RefTo.same HIS.out⟩
  | true =>
    have HOK := Lib.hid hok
    cases hto : D.tick.off with
    | true =>
      have hr : dRemove D s = (D.tick, 9) := by rw [dRemove]; exact dOpen_off hok hto
      rw [hr]
      have HTO := Lib.hid hto
      clear hok hr hto
      go_enter Try.func41, Try.ntmps41
      go_wp2_with fail
      refine (refName_any s _).mono ?_
      rintro e w' ⟨he, rfl⟩
      rw [HOK.out] at he
      subst he
      go_wp2_with fail
      refine (rcall_is false g _ HD.out hc (by rw [HTO.out]; rfl)).mono ?_
      rintro e w2 ⟨rfl, hk⟩
      have HK := Lib.hid hk
      clear hk
      go_wp2_with fail
      go_ret
      exact ⟨rfl, HK.out.to HG.out⟩
    | false =>
      have HTO := Lib.hid hto
      cases hf : D.tick.fileAt s with
      | none =>
        have hf0 : D.fileAt s = none := fileAt_tick.symm.trans hf
        have hr : dRemove D s = (D.tick, 3) := by
          rw [dRemove, dOpen, if_neg (by rw [hok]; decide), if_neg (by rw [hto]; decide), hf0]
        rw [hr]
        have HV := Lib.hid (find_none hf)
        clear hok hr hto hf hf0
        go_enter Try.func41, Try.ntmps41
        go_wp2_with fail
        refine (refName_any s _).mono ?_
        rintro e w' ⟨he, rfl⟩
        rw [HOK.out] at he
        subst he
        go_wp2_with fail
        refine (rcall_is true g _ HD.out hc (by rw [HTO.out]; rfl)).mono ?_
        rintro e w2 ⟨rfl, hk⟩
        have HK := Lib.hid hk
        obtain ⟨l2, hd2, _⟩ := hk
        go_wp2_with fail
        refine (rfind_is g s _ hd2).mono ?_
        rintro e w' ⟨rfl, rfl⟩
        rw [HV.out]
        clear hd2
        go_wp2_with fail
        go_ret
        exact ⟨rfl, HK.out.to HG.out⟩
      | some f =>
        have hf0 : D.fileAt s = some f := fileAt_tick.symm.trans hf
        have hr : dRemove D s = (D.with (D.L.take (D.pos s) ++ D.L.drop (D.pos s + 1)), 0) := by rw [dRemove, dOpen_yes hok hto hf0]
        rw [hr]
        have HF := Lib.hid hf
        clear hok hr hto hf hf0
        go_enter Try.func41, Try.ntmps41
        go_wp2_with fail
        refine (refName_any s _).mono ?_
        rintro e w' ⟨he, rfl⟩
        rw [HOK.out] at he
        subst he
        go_wp2_with fail
        refine (rcall_is true g _ HD.out hc (by rw [HTO.out]; rfl)).mono ?_
        rintro e w2 ⟨rfl, hk⟩
        have HK := Lib.hid hk
        obtain ⟨l2, hd2, ht2⟩ := hk
        have HT2 := Lib.hid ht2
        go_wp2_with fail
        refine (rfind_is g s _ hd2).mono ?_
        rintro e w' ⟨rfl, rfl⟩
        obtain ⟨gr, n, cap, m, hvL, hnc, hm, hnm, _, hhas, hpn, _, _⟩ := hd2.there HF.out
        rw [findV9, if_pos hhas]
        obtain ⟨p, hp⟩ : ∃ p, D.tick.pos s = p := ⟨_, rfl⟩
        rw [hp] at hm ⊢
        have hpl : p < ms.length := (List.getElem?_eq_some_iff.1 hm).1
        have i2 : ¬ ((p : Int) < 0) := by omega
        have HD2 := Lib.hid hd2
        have HP := Lib.hid hp
        have HPL := Lib.hid hpl
        clear hd2 hm hp hhas hnm ht2 hpl hvL hnc hpn
        go_wp2_with fail
        refine (rdrop_is g p _ HD2.out HPL.out).mono ?_
        rintro e w3 ⟨rfl, hr3⟩
        have HR3 := Lib.hid hr3
        clear hr3
        go_wp2_with fail
        go_ret
        refine ⟨rfl, ?_⟩
        have h3 := RefTo.behind (HT2.out.mono fun k hk => by rw [hk]; exact HG.out) (HR3.out.to HG.out)
        rw [map_del, ← HD2.out.eqL, tick_L] at h3
        have hpp : D.pos s = p := (tick_pos D s).symm.trans HP.out
        rw [hpp]
        exact h3

end Go.Proofs.Ytejfilphnebckaa
/-
  The page's own disk: a file put in by its name.
-/
namespace Go.Proofs.Ytejfilphnebckaa
open Go.RowKit

theorem size_rfile : (Try.prog.info? 74).map (·.size) = some 3 := by kernel_rfl

set_option maxRecDepth 100000 in
set_option maxHeartbeats 8000000 in
theorem rput_is {F : Nat → Prop} {D : PD} {vL : Value} {l : Int} {ms : List MR} (g p : Nat) (m : MR) (w : World) (h : RefIn w g F D vL l ms) (hm : ByIn w F g vL m.sV m.safe ∧ ByIn w F g vL m.eV m.seen ∧ okName m.nm = true)
    (hno : hasN (namesF D.L) m.nm = false) (hfew : ms.length < 16) (hp : posN (namesF D.L) m.nm = p) :
    Calls Try.prog 63 #[.pointer (some ⟨g, 0, none⟩), .agg #[.string m.nm, m.sV, m.eV]] w fun e w' => e = .returned (.int .i64 (p : Int)) ∧ RowTo g F D vL l (ms.take p ++ m :: ms.drop p) w w' := by
  have hgl : g < w.heap.size := h.lt _ h.here
  have HD := Lib.hid h
  have HM := Lib.hid hm
  obtain ⟨n, hn⟩ : ∃ n, ms.length = n := ⟨_, rfl⟩
  have hn16 : n < 16 := by omega
  obtain ⟨A, cap, hvL, hnc, hcm, hrd⟩ := h.slice hn
  have hform : (A = none ∧ n = 0 ∧ cap = 0) ∨ ∃ gr, A = some ⟨gr, 0, none⟩ := by
    rcases h.row.2 with ⟨hv, h0⟩ | ⟨gr, cap', cur, hv, _⟩
    · rw [hv] at hvL
      cases hvL
      exact .inl ⟨rfl, rfl, rfl⟩
    · rw [hv] at hvL
      cases hvL
      exact .inr ⟨gr, rfl⟩
  have c0 := h.c0
  have f0 := h.fz 0
  have hpn : p ≤ n := by rw [← hp, ← hn, ← h.lenL]; have := posN_le (namesF D.L) m.nm; rw [namesF, List.length_map] at this; exact this
  have hnm : ∀ (k : Nat) (x : MR), ms[k]? = some x → (namesF D.L)[k]? = some x.nm := fun k x hx => by rw [h.nmL, List.getElem?_map, hx]; rfl
  have HNM := Lib.hid hnm
  have HP := Lib.hid hp
  have HN := Lib.hid hn
  have HRD := Lib.hid hrd
  have hrise : RiseN ((ms.take p ++ m :: ms.drop p).map MR.nm) := by
    have := rise_ins h.rise hno
    rw [hp, h.nmL] at this
    rwa [List.map_append, List.map_cons, List.map_take, List.map_drop]
  have hone := h.one
  obtain ⟨⟨As, cs, hsV, _⟩, _, _⟩ := hm.1
  obtain ⟨⟨Ae, ce, heV, _⟩, _, _⟩ := hm.2.1
  obtain ⟨ns, hns⟩ : ∃ ns, m.safe.length = ns := ⟨_, rfl⟩
  obtain ⟨ne, hne⟩ : ∃ ne, m.seen.length = ne := ⟨_, rfl⟩
  rw [hns] at hsV
  rw [hne] at heV
  have hone1 : ∀ u ∈ m.cells, u.oneCell' = true := fun u hu => by
    simp only [MR.cells, List.mem_cons, List.not_mem_nil, or_false, hsV, heV] at hu
    rcases hu with rfl | rfl | rfl <;> rfl
  have hmc : m.cells = [.string m.nm, .slice As ns cs, .slice Ae ne ce] := by rw [MR.cells, hsV, heV]
  have hlen : (ms.take p ++ m :: ms.drop p).length = n + 1 := by rw [List.length_append, List.length_cons, List.length_take, List.length_drop]; omega
  have hfin : ∀ (A2 : Option Addr) (c2 : Nat) (w2 : World), w2.ownsRow w.heap.size 74 3 (.slice A2 (n + 1) c2) (n + 1) (cellsR (ms.take p) ++ m.cells ++ cellsR (ms.drop p)) → Below w.heap.size w w2 → RowTo g F D vL l (ms.take p ++ m :: ms.drop p) w (w2.setCell ⟨g, 0, none⟩ (.slice A2 (n + 1) c2)) := by
    intro A2 c2 w2 ho2 hb2
    have e : cellsR (ms.take p) ++ m.cells ++ cellsR (ms.drop p) = cellsR (ms.take p ++ m :: ms.drop p) := by rw [cellsR_append, List.append_assoc]; rfl
    rw [e, ← hlen] at ho2
    rw [← hlen]
    refine h.rowAny hb2 ho2 (fun x hx => ?_) hrise (by omega)
    rcases List.mem_append.1 hx with hx | hx
    · exact h.els x (List.mem_of_mem_take hx)
    · rcases List.mem_cons.1 hx with rfl | hx
      · exact hm
      · exact h.els x (List.mem_of_mem_drop hx)
  have HFIN := Lib.hid hfin
  obtain ⟨w1, hw1⟩ : ∃ w1, w1 = w.alloc (.cells #[.string m.nm, .slice As ns cs, .slice Ae ne ce] 74) := ⟨_, rfl⟩
  have hb1 : Below w.heap.size w w1 := by rw [hw1]; exact (Below.refl _ _).alloc (Nat.le_refl _) _
  have bx1 : Box w1 w.heap.size [.string m.nm, .slice As ns cs, .slice Ae ne ce] := by rw [hw1]; exact box_new w [.string m.nm, .slice As ns cs, .slice Ae ne ce] 74
  have hgb : w.heap.size < w1.heap.size := bx1.1
  have HBX := Lib.hid bx1
  have HB1 := Lib.hid hb1
  have HW := Lib.hid hw1
  have HC0 := Lib.hid c0
  have HF0 := Lib.hid f0
  have HONE := Lib.hid hone
  have HONE1 := Lib.hid hone1
  have HMC := Lib.hid hmc
  rw [hvL] at c0
  /- behind the loop: three appends and a store -/
  have hrest : ∀ (wx : World) (Av : Option Addr) (cv q : Nat), Below w1.heap.size w1 wx → q = n - p → (∀ w', Below w.heap.size w w' → Rd w' Av (cellsR (ms.drop p))) → ∃ (A1 : Option Addr) (c1 : Nat) (w2 : World), wx.cell? ⟨g, 0, none⟩ = some (.slice A n cap) ∧
      (Builtin.append_ #[70, 70] 70 #[.slice none 0 0, .slice A p cap]).run Try.prog wx = .ok (.slice A1 p c1) w2 ∧ Box w2 w.heap.size [.string m.nm, .slice As ns cs, .slice Ae ne ce] ∧
      ∃ (A3 : Option Addr) (c3 : Nat) (w4 : World), (Builtin.append_ #[70, 70] 70 #[.slice A1 p c1, .slice (some ⟨w2.heap.size, 0, none⟩) 1 1]).run Try.prog (w2.alloc (.cells #[.string m.nm, .slice As ns cs, .slice Ae ne ce] 74)) = .ok (.slice A3 (p + 1) c3) w4 ∧
      w4.cell? ⟨g, 0, none⟩ = some (.slice A n cap) ∧ ∃ (A5 : Option Addr) (c5 : Nat) (w6 : World), (Builtin.append_ #[70, 70] 70 #[.slice A3 (p + 1) c3, .slice Av q cv]).run Try.prog w4 = .ok (.slice A5 (n + 1) c5) w6 ∧
      w6.cell? ⟨g, 0, none⟩ = some (.slice A n cap) ∧ w6.frozen? ⟨g, 0, none⟩ = false ∧ RowTo g F D vL l (ms.take p ++ m :: ms.drop p) w (w6.setCell ⟨g, 0, none⟩ (.slice A5 (n + 1) c5)) := by
    intro wx Av cv q hbx hq hav
    have hbw : Below w.heap.size w wx := hb1.trans (hbx.mono hb1.size)
    have hrdx := hrd.below hbw
    have hr1 : Rd wx A (cellsR (ms.take p)) := by
      intro hx
      have h0 : cellsR ms ≠ [] := fun e => hx (by rw [← cellsR_take, e]; simp)
      obtain ⟨b, off, e, hb, hc⟩ := hrdx h0
      refine ⟨b, off, e, hb, fun j v hv => hc j v ?_⟩
      rw [← cellsR_take, List.getElem?_take] at hv
      split at hv
      · exact hv
      · cases hv
    obtain ⟨A1, c1, w2, hrun1, ho1, hg1, _⟩ := run_app_rows (P := Try.prog) wx 70 70 w1.heap.size 74 _ 3 64 Try.underlying70 info_rfile rfl (by decide) (by decide) (.slice none 0 0) 0 [] (World.ownsRow_nil _ _ _ _) A p cap (cellsR (ms.take p)) (by rw [cellsR_length, List.length_take]; omega) hr1 (cellsR_one fun x hx => hone x (List.mem_of_mem_take hx)) (by omega) hbx.size
    rw [Nat.zero_add] at hrun1
    rw [Nat.zero_add, List.nil_append] at ho1
    have hb2x : Below w1.heap.size w1 w2 := belowS_own hbx (World.ownsRow_nil wx w1.heap.size 74 3) hg1 hbx.size
    have hbw2 : Below w.heap.size w w2 := hb1.trans (hb2x.mono hb1.size)
    have bx2 := bx1.below hb2x hgb
    obtain ⟨w3, hw3⟩ : ∃ w3, w3 = w2.alloc (.cells #[.string m.nm, .slice As ns cs, .slice Ae ne ce] 74) := ⟨_, rfl⟩
    have hb3 : Below w2.heap.size w2 w3 := by rw [hw3]; exact (Below.refl _ _).alloc (Nat.le_refl _) _
    have hr3 : Rd w3 (some ⟨w2.heap.size, 0, none⟩) m.cells := by rw [hw3, hmc]; exact rd_new w2 [.string m.nm, .slice As ns cs, .slice Ae ne ce] _
    have ho13 := ownS_below (ownS_more ho1 hb1.size) hb3
    obtain ⟨A3, c3, w4, hrun3, ho3, hg3, _⟩ := run_app_rows (P := Try.prog) w3 70 70 w.heap.size 74 _ 3 64 Try.underlying70 info_rfile rfl (by decide) (by decide) (.slice A1 p c1) p _ ho13 (some ⟨w2.heap.size, 0, none⟩) 1 1 m.cells rfl hr3 hone1 (by omega) (Nat.le_trans hbw2.size hb3.size)
    have hbw4 : Below w.heap.size w w4 := belowS_own (hbw2.trans (hb3.mono hbw2.size)) ho13 hg3 (Nat.le_trans hbw2.size hb3.size)
    obtain ⟨A5, c5, w6, hrun5, ho5, hg5, _⟩ := run_app_rows (P := Try.prog) w4 70 70 w.heap.size 74 _ 3 64 Try.underlying70 info_rfile rfl (by decide) (by decide) (.slice A3 (p + 1) c3) (p + 1) _ ho3 Av q cv (cellsR (ms.drop p)) (by rw [cellsR_length, List.length_drop]; omega) (hav w4 hbw4) (cellsR_one fun x hx => hone x (List.mem_of_mem_drop hx)) (by omega) hbw4.size
    have hbw6 : Below w.heap.size w w6 := belowS_own hbw4 ho3 hg5 hbw4.size
    have en : p + 1 + q = n + 1 := by omega
    rw [en] at hrun5 ho5
    exact ⟨A1, c1, w2, (hbw.cell (p := ⟨g, 0, none⟩) hgl).trans c0, hrun1, bx2, A3, c3, w4, by rw [← hw3]; exact hrun3, (hbw4.cell (p := ⟨g, 0, none⟩) hgl).trans c0, A5, c5, w6, hrun5, (hbw6.cell (p := ⟨g, 0, none⟩) hgl).trans c0, (hbw6.frozen (p := ⟨g, 0, none⟩) hgl).trans f0, hfin A5 c5 w6 ho5 hbw6⟩
  have HREST := Lib.hid hrest
  have hsV' := hsV
  have heV' := heV
  have HG := Lib.hid h.rise
  rw [hsV, heV]
  clear h hm hrd hn hp hnm hone hone1 hmc hfin hrest hlen hrise hno c0 f0 hb1 bx1 hw1 hsV heV hsV' heV' hns hne
  rcases hform with ⟨rfl, rfl, rfl⟩ | ⟨gr, rfl⟩
  · obtain rfl : p = 0 := by omega
    clear hpn hnc hfew
    go_enter Try.func63, Try.ntmps63
    go_upto_region 1 with fail
    rw [← HW.out]
    go_wp2_with fail
    go_loopw [5] (fun i wr => ∃ k : Nat, i = .int .i64 k ∧ k ≤ 0 ∧ Below w1.heap.size w1 wr) (fun i _ => 0 - (intOf i).toNat)
    case atStart => exact ⟨0, rfl, by omega, Below.refl _ _⟩
    case round =>
      obtain ⟨k, rfl, hk, hb⟩ := hrel
      obtain rfl : k = 0 := by omega
      have c0 := HC0.out
      rw [hvL] at c0
      have k0 : wr.cell? ⟨g, 0, none⟩ = some (.slice none 0 0) := ((HB1.out.trans (hb.mono HB1.out.size)).cell (p := ⟨g, 0, none⟩) hgl).trans c0
      clear c0
      have d1 : decide (((0 : Nat) : Int) < ((0 : Nat) : Int)) = false := by simp
      have HRR := Lib.hid (fun wx hX => HREST.out wx none 0 0 hX rfl (fun w' _ => by have := HN.out; rw [List.drop_of_length_le (by omega)]; exact Rd.nil _ _))
      go_wp2_with fail
      go_quiet (fail)
      obtain ⟨wx, hwx⟩ : ∃ wx, wx = wr.drewN nq := ⟨_, rfl⟩
      have hbx : Below w1.heap.size w1 wx := by rw [hwx]; exact below_n hb nq
      rw [← hwx]
      clear hwx k0
      obtain ⟨A1, c1, w2, k1, hrun1, bx2, A3, c3, w4, hrun3, k4, A5, c5, w6, hrun5, k6, f6, hres⟩ := HRR.out wx hbx
      have HRUN1 := Lib.hid hrun1
      have HRUN3 := Lib.hid hrun3
      have HRUN5 := Lib.hid hrun5
      have HBX2 := Lib.hid bx2
      have HRES := Lib.hid hres
      clear hrun1 hrun3 hrun5 bx2 hres HRR
      go_wp2_with (first | (refine wpList_load_box rfl 74 _ rfl w.heap.size rfl [.string m.nm, .slice As ns cs, .slice Ae ne ce] HBX2.out _ Try.underlying74 rfl size_rfile ?_) | (at_builtin; first | (refine wpList_app_run (v := .slice none 0 0) (u := .slice none 0 0) _ rfl _ _ 70 70 rfl rfl rfl HRUN1.out ?_) | (refine wpList_app_run (v := .slice A1 0 c1) (u := .slice (some ⟨w2.heap.size, 0, none⟩) 1 1) _ rfl _ _ 70 70 rfl rfl rfl HRUN3.out ?_) | (refine wpList_app_run (v := .slice A3 (0 + 1) c3) (u := .slice none 0 0) _ rfl _ _ 70 70 rfl rfl rfl HRUN5.out ?_) | (trace_state; fail)))
      go_ret
      exact ⟨rfl, HRES.out⟩
  · have hrow : ∀ w', Below w.heap.size w w' → Rd w' (some ⟨gr, p * 3, none⟩) (cellsR (ms.drop p)) := fun w' hw' => (rd_rows9 (HRD.out.below hw') p).2
    have H70 := Lib.hid hrow
    clear hrow
    go_enter Try.func63, Try.ntmps63
    go_upto_region 1 with fail
    rw [← HW.out]
    go_wp2_with fail
    go_loopw [5] (fun i wr => ∃ k : Nat, i = .int .i64 k ∧ k ≤ p ∧ Below w1.heap.size w1 wr) (fun i _ => p - (intOf i).toNat)
    case atStart => exact ⟨0, rfl, by omega, Below.refl _ _⟩
    case round =>
      obtain ⟨k, rfl, hk, hb⟩ := hrel
      have c0 := HC0.out
      rw [hvL] at c0
      have k0 : wr.cell? ⟨g, 0, none⟩ = some (.slice (some ⟨gr, 0, none⟩) n cap) := ((HB1.out.trans (hb.mono HB1.out.size)).cell (p := ⟨g, 0, none⟩) hgl).trans c0
      have b0 : wr.cell? ⟨w.heap.size, 0, none⟩ = some (.string m.nm) := (HBX.out.below hb hgb).2 0 _ rfl
      have i0 : (0 : Int) ≤ (k : Int) := by omega
      clear c0
      by_cases hlt : k < n
      · have i1 : (k : Int) < (n : Int) := by omega
        obtain ⟨x, hx⟩ : ∃ x, ms[k]? = some x := ⟨ms[k]'(by rw [HN.out]; exact hlt), by simp⟩
        obtain ⟨b, off, eb, _, hcl⟩ := (HRD.out.below (HB1.out.trans (hb.mono HB1.out.size))).open_ (by rw [cellsR_length, HN.out]; omega)
        cases eb
        have e0 : wr.cell? ⟨gr, 0 + k * 3, none⟩ = some (.string x.nm) := hcl _ _ (cellsR_at (j := 0) hx rfl)
        rw [Nat.zero_add] at e0
        have hnk := HNM.out k x hx
        have d1 : decide ((k : Int) < (n : Int)) = true := by simp; omega
        by_cases hkp : k < p
        · have d2 : Op.bytesLess x.nm.toList m.nm.toList = true := posN_ahead (by rw [HP.out]; exact hkp) hnk
          clear hx hcl hnk
          go_wp2_with fail
          go_quiet (fail)
          go_wp2_with fail
          go_roundw
          case rel => exact ⟨k + 1, by go_num, by omega, below_n hb _⟩
          case measure => simp [intOf]; omega
        · have hkk : k = p := by omega
          subst hkk
          have d2 : Op.bytesLess x.nm.toList m.nm.toList = false := by
            have h1 := hnk
            rw [← HP.out] at h1
            exact posN_at h1
          have i2 : (k : Int) ≤ (cap : Int) := by omega
          have i3 : ¬ (cap = k) := by omega
          have i4 : (k : Int) ≤ (n : Int) := by omega
          have HRR := Lib.hid (fun wx hX => HREST.out wx _ (cap - k) _ hX rfl H70.out)
          clear hx hcl hnk
          go_wp2_with fail
          go_quiet (fail)
          obtain ⟨wx, hwx⟩ : ∃ wx, wx = wr.drewN nq := ⟨_, rfl⟩
          have hbx : Below w1.heap.size w1 wx := by rw [hwx]; exact below_n hb nq
          rw [← hwx]
          clear hwx k0
          obtain ⟨A1, c1, w2, k1, hrun1, bx2, A3, c3, w4, hrun3, k4, A5, c5, w6, hrun5, k6, f6, hres⟩ := HRR.out wx hbx
          have HRUN1 := Lib.hid hrun1
          have HRUN3 := Lib.hid hrun3
          have HRUN5 := Lib.hid hrun5
          have HBX2 := Lib.hid bx2
          have HRES := Lib.hid hres
          clear hrun1 hrun3 hrun5 bx2 hres HRR
          go_wp2_with (first | (refine wpList_load_box rfl 74 _ rfl w.heap.size rfl [.string m.nm, .slice As ns cs, .slice Ae ne ce] HBX2.out _ Try.underlying74 rfl size_rfile ?_) | (at_builtin; first | (refine wpList_app_run (v := .slice none 0 0) (u := .slice (some ⟨gr, 0, none⟩) k cap) _ rfl _ _ 70 70 rfl rfl rfl HRUN1.out ?_) | (refine wpList_app_run (v := .slice A1 k c1) (u := .slice (some ⟨w2.heap.size, 0, none⟩) 1 1) _ rfl _ _ 70 70 rfl rfl rfl HRUN3.out ?_) | (refine wpList_app_run (v := .slice A3 (k + 1) c3) (u := .slice (some ⟨gr, k * 3, none⟩) (n - k) (cap - k)) _ rfl _ _ 70 70 rfl rfl rfl HRUN5.out ?_) | (trace_state; fail)))
          go_ret
          exact ⟨rfl, HRES.out⟩
      · have hkk : k = p := by omega
        subst hkk
        have i1 : ¬ ((k : Int) < (n : Int)) := by omega
        have d1 : decide ((k : Int) < (n : Int)) = false := by simp; omega
        by_cases hcc : cap = k
        · have hnk : n = k := by omega
          subst hnk
          subst hcc
          have HRR := Lib.hid (fun wx hX => HREST.out wx (some ⟨gr, 0, none⟩) 0 0 hX (by omega) (fun w' _ => by have := HN.out; rw [List.drop_of_length_le (by omega)]; exact Rd.nil _ _))
          clear b0
          go_wp2_with fail
          go_quiet (fail)
          obtain ⟨wx, hwx⟩ : ∃ wx, wx = wr.drewN nq := ⟨_, rfl⟩
          have hbx : Below w1.heap.size w1 wx := by rw [hwx]; exact below_n hb nq
          rw [← hwx]
          clear hwx k0
          obtain ⟨A1, c1, w2, k1, hrun1, bx2, A3, c3, w4, hrun3, k4, A5, c5, w6, hrun5, k6, f6, hres⟩ := HRR.out wx hbx
          have HRUN1 := Lib.hid hrun1
          have HRUN3 := Lib.hid hrun3
          have HRUN5 := Lib.hid hrun5
          have HBX2 := Lib.hid bx2
          have HRES := Lib.hid hres
          clear hrun1 hrun3 hrun5 bx2 hres HRR
          go_wp2_with (first | (refine wpList_load_box rfl 74 _ rfl w.heap.size rfl [.string m.nm, .slice As ns cs, .slice Ae ne ce] HBX2.out _ Try.underlying74 rfl size_rfile ?_) | (at_builtin; first | (refine wpList_app_run (v := .slice none 0 0) (u := .slice (some ⟨gr, 0, none⟩) _ _) _ rfl _ _ 70 70 rfl rfl rfl HRUN1.out ?_) | (refine wpList_app_run (v := .slice A1 _ c1) (u := .slice (some ⟨w2.heap.size, 0, none⟩) 1 1) _ rfl _ _ 70 70 rfl rfl rfl HRUN3.out ?_) | (refine wpList_app_run (v := .slice A3 (_ + 1) c3) (u := .slice (some ⟨gr, 0, none⟩) 0 0) _ rfl _ _ 70 70 rfl rfl rfl HRUN5.out ?_) | (trace_state; fail)))
          go_ret
          exact ⟨rfl, HRES.out⟩
        · have i2 : (k : Int) ≤ (cap : Int) := by omega
          have i4 : (k : Int) ≤ (n : Int) := by omega
          have HRR := Lib.hid (fun wx hX => HREST.out wx _ (cap - k) _ hX rfl H70.out)
          go_wp2_with fail
          go_quiet (fail)
          obtain ⟨wx, hwx⟩ : ∃ wx, wx = wr.drewN nq := ⟨_, rfl⟩
          have hbx : Below w1.heap.size w1 wx := by rw [hwx]; exact below_n hb nq
          rw [← hwx]
          clear hwx k0
          obtain ⟨A1, c1, w2, k1, hrun1, bx2, A3, c3, w4, hrun3, k4, A5, c5, w6, hrun5, k6, f6, hres⟩ := HRR.out wx hbx
          have HRUN1 := Lib.hid hrun1
          have HRUN3 := Lib.hid hrun3
          have HRUN5 := Lib.hid hrun5
          have HBX2 := Lib.hid bx2
          have HRES := Lib.hid hres
          clear hrun1 hrun3 hrun5 bx2 hres HRR
          go_wp2_with (first | (refine wpList_load_box rfl 74 _ rfl w.heap.size rfl [.string m.nm, .slice As ns cs, .slice Ae ne ce] HBX2.out _ Try.underlying74 rfl size_rfile ?_) | (at_builtin; first | (refine wpList_app_run (v := .slice none 0 0) (u := .slice (some ⟨gr, 0, none⟩) k cap) _ rfl _ _ 70 70 rfl rfl rfl HRUN1.out ?_) | (refine wpList_app_run (v := .slice A1 k c1) (u := .slice (some ⟨w2.heap.size, 0, none⟩) 1 1) _ rfl _ _ 70 70 rfl rfl rfl HRUN3.out ?_) | (refine wpList_app_run (v := .slice A3 (k + 1) c3) (u := .slice (some ⟨gr, k * 3, none⟩) (n - k) (cap - k)) _ rfl _ _ 70 70 rfl rfl rfl HRUN5.out ?_) | (trace_state; fail)))
          go_ret
          exact ⟨rfl, HRES.out⟩

end Go.Proofs.Ytejfilphnebckaa
/-
  The page's own disk: Rename.
-/
namespace Go.Proofs.Ytejfilphnebckaa
open Go.RowKit

theorem names_del {l : List ByteArray} (h : RiseN l) {s : ByteArray} {q : Nat} (hs : hasN l s = true) (hq : posN l s = q) : hasN (l.take q ++ l.drop (q + 1)) s = false ∧ posN (l.take q ++ l.drop (q + 1)) s = q := by
  have h1 := hasN_at hs
  rw [hq] at h1
  have hl : q < l.length := (List.getElem?_eq_some_iff.1 h1).1
  have hlt : (l.take q).length = q := by rw [List.length_take]; omega
  have hp : q = posN (l.take q ++ l.drop (q + 1)) s := by
    refine posN_unique (by rw [List.length_append, hlt]; omega) (fun j x hj hx => ?_) (fun x hx => ?_)
    · rw [List.getElem?_append_left (by omega), List.getElem?_take, if_pos hj] at hx
      exact posN_ahead (by omega) hx
    · rw [List.getElem?_append_right (by omega), hlt, Nat.sub_self, List.getElem?_drop] at hx
      exact ltN_asymm (rise_at h (by omega) h1 hx)
  refine ⟨?_, hp.symm⟩
  rw [hasN, decide_eq_false_iff_not, ← hp, List.getElem?_append_right (by omega), hlt, Nat.sub_self, List.getElem?_drop]
  intro hx
  have := rise_at h (show q < q + 1 + 0 by omega) h1 hx
  rw [ltN_irrefl] at this
  cases this
theorem del_ins {α : Type} {l : List α} {q : Nat} (h : q < l.length) (x : α) : (l.take q ++ l.drop (q + 1)).take q ++ x :: (l.take q ++ l.drop (q + 1)).drop q = l.set q x := by
  have hlt : (l.take q).length = q := by rw [List.length_take]; omega
  rw [List.take_append_of_le_length (by omega), List.take_of_length_le (by omega), List.drop_append_of_le_length (by omega), List.drop_of_length_le (by omega), List.nil_append, List.set_eq_take_append_cons_drop, if_pos h]
theorem names_of_del (L : List PF) (p : Nat) : namesF (L.take p ++ L.drop (p + 1)) = (namesF L).take p ++ (namesF L).drop (p + 1) := by rw [namesF, namesF, List.map_append, List.map_take, List.map_drop]
/-- renamed to its own name a file stays -/
theorem put_self {D : PD} {a : ByteArray} {f : PF} (h : RiseN (namesF D.L)) (hf : D.fileAt a = some f) : putL (D.L.take (D.pos a) ++ D.L.drop (D.pos a + 1)) { f with nm := a } = D.L := by
  obtain ⟨h1, h2⟩ := fileAt_some hf
  have hh : hasN (namesF D.L) a = true := by
    unfold PD.fileAt at hf
    split at hf
    · assumption
    · cases hf
  have hpl : D.pos a < D.L.length := (List.getElem?_eq_some_iff.1 h1).1
  obtain ⟨e1, e2⟩ := names_del h hh (q := D.pos a) rfl
  have ef : ({ f with nm := a } : PF) = f := by rw [← h2]
  rw [putL, names_of_del]
  show (if hasN _ a = true then _ else _) = _
  rw [if_neg (by rw [e1]; decide)]
  show List.take (posN _ a) _ ++ _ :: List.drop (posN _ a) _ = _
  rw [e2, del_ins hpl, ef]
  exact set_same h1
theorem with_same (D : PD) : D.with D.L = D.tick := by
  have h := tick_L D
  unfold PD.with
  rw [← h]

set_option maxRecDepth 100000 in
set_option maxHeartbeats 1600000 in
theorem rrename_is {F : Nat → Prop} {D : PD} (g : Nat) (a b : ByteArray) (w : World) (h : IsRef w g F D) (hc : D.calls ≤ 1000000) :
    Calls Try.prog 40 #[.pointer (some ⟨g, 0, none⟩), .string a, .string b] w fun e w' => e = .returned (.int .i64 (dRename D a b).2) ∧ RefTo g F (dRename D a b).1 w w' := by
  have HIS := Lib.hid h
  obtain ⟨vL, l, ms, h⟩ := h
  have HD := Lib.hid h
  have HG : Hid (F g) := h.here
  clear h
  cases hoka : okName a with
  | false =>
    have hr : dRename D a b = (D, 1) := by rw [dRename]; split; rfl; exact dOpen_no hoka
    rw [hr]
    have HOKA := Lib.hid hoka
    clear hoka hr
    go_enter Try.func40, Try.ntmps40
    go_wp2_with fail
    refine (refName_any a _).mono ?_
    rintro e w' ⟨he, rfl⟩
    rw [HOKA.out] at he
    subst he
    go_wp2_with fail
    go_ret
    exact ⟨rfl, RefTo.same HIS.out⟩
  | true =>
  have HOKA := Lib.hid hoka
  cases hokb : okName b with
  | false =>
    have hr : dRename D a b = (D, 1) := by rw [dRename, if_pos hokb]
    rw [hr]
    have HOKB := Lib.hid hokb
    clear hoka hokb hr
    go_enter Try.func40, Try.ntmps40
    go_wp2_with fail
    refine (refName_any a _).mono ?_
    rintro e w' ⟨he, rfl⟩
    rw [HOKA.out] at he
    subst he
    go_wp2_with fail
    refine (refName_any _ _).mono ?_
    rintro e w' ⟨he, rfl⟩
    rw [HOKB.out] at he
    subst he
    go_wp2_with fail
    go_ret
    exact ⟨rfl, RefTo.same HIS.out⟩
  | true =>
  have HOKB := Lib.hid hokb
  cases hto : D.tick.off with
  | true =>
    have hr : dRename D a b = (D.tick, 9) := by rw [dRename, if_neg (by rw [hokb]; decide)]; exact dOpen_off hoka hto
    rw [hr]
    have HTO := Lib.hid hto
    clear hoka hokb hr hto
    go_enter Try.func40, Try.ntmps40
    go_wp2_with fail
    refine (refName_any a _).mono ?_
    rintro e w' ⟨he, rfl⟩
    rw [HOKA.out] at he
    subst he
    go_wp2_with fail
    refine (refName_any _ _).mono ?_
    rintro e w' ⟨he, rfl⟩
    rw [HOKB.out] at he
    subst he
    go_wp2_with fail
    refine (rcall_is false g _ HD.out hc (by rw [HTO.out]; rfl)).mono ?_
    rintro e w2 ⟨rfl, hk⟩
    have HK := Lib.hid hk
    clear hk
    go_wp2_with fail
    go_ret
    exact ⟨rfl, HK.out.to HG.out⟩
  | false =>
  have HTO := Lib.hid hto
  cases hf : D.tick.fileAt a with
  | none =>
    have hf0 : D.fileAt a = none := fileAt_tick.symm.trans hf
    have hr : dRename D a b = (D.tick, 3) := by
      rw [dRename, if_neg (by rw [hokb]; decide), dOpen, if_neg (by rw [hoka]; decide), if_neg (by rw [hto]; decide), hf0]
    rw [hr]
    have HV := Lib.hid (find_none hf)
    clear hoka hokb hr hto hf hf0
    go_enter Try.func40, Try.ntmps40
    go_wp2_with fail
    refine (refName_any a _).mono ?_
    rintro e w' ⟨he, rfl⟩
    rw [HOKA.out] at he
    subst he
    go_wp2_with fail
    refine (refName_any _ _).mono ?_
    rintro e w' ⟨he, rfl⟩
    rw [HOKB.out] at he
    subst he
    go_wp2_with fail
    refine (rcall_is true g _ HD.out hc (by rw [HTO.out]; rfl)).mono ?_
    rintro e w2 ⟨rfl, hk⟩
    have HK := Lib.hid hk
    obtain ⟨l2, hd2, ht2⟩ := hk
    have HT2 := Lib.hid ht2
    go_wp2_with fail
    refine (rfind_is g a _ hd2).mono ?_
    rintro e w' ⟨rfl, rfl⟩
    rw [HV.out]
    clear hd2 ht2
    go_wp2_with fail
    go_ret
    exact ⟨rfl, HK.out.to HG.out⟩
  | some f =>
  have hf0 : D.fileAt a = some f := fileAt_tick.symm.trans hf
  have hr : dRename D a b = (D.with (putL (D.L.take (D.pos a) ++ D.L.drop (D.pos a + 1)) { f with nm := b }), 0) := by rw [dRename, if_neg (by rw [hokb]; decide), dOpen_yes hoka hto hf0]
  have HF := Lib.hid hf
  by_cases hab : a = b
  · subst hab
    rw [put_self HD.out.rise hf0, with_same] at hr
    rw [hr]
    have e0 : (a.toList == a.toList) = true := by simp
    clear hoka hokb hr hto hf hf0
    go_enter Try.func40, Try.ntmps40
    go_wp2_with fail
    refine (refName_any a _).mono ?_
    rintro e w' ⟨he, rfl⟩
    rw [HOKA.out] at he
    subst he
    go_wp2_with fail
    refine (refName_any _ _).mono ?_
    rintro e w' ⟨he, rfl⟩
    rw [HOKB.out] at he
    subst he
    go_wp2_with fail
    refine (rcall_is true g _ HD.out hc (by rw [HTO.out]; rfl)).mono ?_
    rintro e w2 ⟨rfl, hk⟩
    have HK := Lib.hid hk
    obtain ⟨l2, hd2, ht2⟩ := hk
    have HT2 := Lib.hid ht2
    go_wp2_with fail
    refine (rfind_is g a _ hd2).mono ?_
    rintro e w' ⟨rfl, rfl⟩
    obtain ⟨gr, n, cap, m, hvL, hnc, hm, hnm, hfm, hhas, hpn, hcell, hfz⟩ := hd2.there HF.out
    rw [findV9, if_pos hhas]
    obtain ⟨p, hp⟩ : ∃ p, D.tick.pos a = p := ⟨_, rfl⟩
    rw [hp] at hm hcell ⊢
    have hpl : p < ms.length := (List.getElem?_eq_some_iff.1 hm).1
    have i2 : ¬ ((p : Int) < 0) := by omega
    have HD2 := Lib.hid hd2
    have HP := Lib.hid hp
    have HPL := Lib.hid hpl
    clear hd2 ht2 hm hcell hhas hvL hnc hnm hfm hpn hfz hp hpl
    go_wp2_with fail
    go_ret
    exact ⟨rfl, HK.out.to HG.out⟩
  rw [hr]
  have j1 : (a.toList == b.toList) = false := by simp only [beq_eq_false_iff_ne, ne_eq]; exact fun h => hab (ba_inj h)
  have j2 : ¬ a.toList = b.toList := fun h => hab (ba_inj h)
  clear hoka hokb hr hto hf hf0 hab
  go_enter Try.func40, Try.ntmps40
  go_wp2_with fail
  refine (refName_any a _).mono ?_
  rintro e w' ⟨he, rfl⟩
  rw [HOKA.out] at he
  subst he
  go_wp2_with fail
  refine (refName_any _ _).mono ?_
  rintro e w' ⟨he, rfl⟩
  rw [HOKB.out] at he
  subst he
  go_wp2_with fail
  refine (rcall_is true g _ HD.out hc (by rw [HTO.out]; rfl)).mono ?_
  rintro e w2 ⟨rfl, hk⟩
  have HK := Lib.hid hk
  obtain ⟨l2, hd2, ht2⟩ := hk
  have HT2 := Lib.hid ht2
  go_wp2_with fail
  refine (rfind_is g a _ hd2).mono ?_
  rintro e w' ⟨rfl, rfl⟩
  obtain ⟨gr, n, cap, m, hvL, hnc, hm, hnm, hfm, hhas, hpn, hcell, hfz⟩ := hd2.there HF.out
  rw [findV9, if_pos hhas]
  obtain ⟨p, hp⟩ : ∃ p, D.tick.pos a = p := ⟨_, rfl⟩
  rw [hp] at hm hcell ⊢
  have hpl : p < ms.length := (List.getElem?_eq_some_iff.1 hm).1
  have i2 : ¬ ((p : Int) < 0) := by omega
  have HD2 := Lib.hid hd2
  have HP := Lib.hid hp
  have HPL := Lib.hid hpl
  have c0 := hd2.c0
  rw [hvL] at c0
  have hpn' : p < n := by omega
  have i0 : (0 : Int) ≤ (p : Int) := by omega
  have i1 : (p : Int) < (n : Int) := by omega
  obtain ⟨nm, safe, seen, sV, eV⟩ := m
  have hels := hd2.els _ (List.mem_of_getElem? hm)
  obtain ⟨hby1, hby2, _⟩ := hels
  obtain ⟨⟨As, cs, hsV, _⟩, _, _⟩ := hby1
  obtain ⟨⟨Ae, ce, heV, _⟩, _, _⟩ := hby2
  obtain ⟨ns, hns⟩ : ∃ ns, safe.length = ns := ⟨_, rfl⟩
  obtain ⟨ne, hne⟩ : ∃ ne, seen.length = ne := ⟨_, rfl⟩
  have hsV' : sV = .slice As ns cs := by rw [← hns]; exact hsV
  have heV' : eV = .slice Ae ne ce := by rw [← hne]; exact heV
  subst hsV' heV'
  have HCELL : Hid (w2.rangeAt gr (p * 3) [.string nm, .slice As ns cs, .slice Ae ne ce]) := fun j v hj => hcell j v hj
  have HM := Lib.hid hm
  obtain ⟨mB, hmB⟩ : ∃ mB : MR, mB = ⟨b, safe, seen, .slice As ns cs, .slice Ae ne ce⟩ := ⟨_, rfl⟩
  have HMB := Lib.hid hmB
  have HFM := Lib.hid hfm
  obtain ⟨w3, hw3⟩ : ∃ w3, w3 = w2.alloc (.cells #[.string b, .slice As ns cs, .slice Ae ne ce] 74) := ⟨_, rfl⟩
  have hb3 : Below w2.heap.size w2 w3 := by rw [hw3]; exact (Below.refl _ _).alloc (Nat.le_refl _) _
  have bx3 : Box w3 w2.heap.size [.string b, .slice As ns cs, .slice Ae ne ce] := by rw [hw3]; exact box_new w2 [.string b, .slice As ns cs, .slice Ae ne ce] 74
  have hgl : g < w2.heap.size := hd2.lt _ hd2.here
  have HW3 := Lib.hid hw3
  have HD3 := Lib.hid (hd2.below hb3)
  have HB3 := Lib.hid hb3
  have HBX : Hid (∀ wX, Touch (fun k => k = g) w3 wX → Box wX w2.heap.size [.string b, .slice As ns cs, .slice Ae ne ce]) := fun wX hX => ⟨Nat.lt_of_lt_of_le bx3.1 hX.size, fun i v hv => (hX.cell bx3.1 (by show ¬ (w2.heap.size = g); omega)).trans (bx3.2 i v hv)⟩
  clear hd2 hm hp hhas hnm ht2 hpl hvL hnc hpn hcell hfz hsV heV hns hne hfm hb3 bx3 hw3 hmB
  go_wp2_with (refine wpList_load_mid rfl 74 _ rfl gr (p * 3) rfl [.string nm, .slice As ns cs, .slice Ae ne ce] _ HCELL.out Try.underlying74 rfl size_rfile ?_)
  rw [← HW3.out]
  refine (rdrop_is g p _ HD3.out HPL.out).mono ?_
  rintro e w4 ⟨rfl, vL4, F4, hd4, ht4, hF4, hby4⟩
  have hL4 : ({ D.tick with L := (ms.take p ++ ms.drop (p + 1)).map MR.pf } : PD).L = D.L.take (D.pos a) ++ D.L.drop (D.pos a + 1) := by
    have hpp : D.pos a = p := (tick_pos D a).symm.trans HP.out
    show (ms.take p ++ ms.drop (p + 1)).map MR.pf = _
    rw [map_del, ← HD2.out.eqL, tick_L, hpp]
  have hlen4 : (ms.take p ++ ms.drop (p + 1)).length < 16 := by
    have h1 := HD2.out.few
    have h2 := HPL.out
    rw [List.length_append, List.length_take, List.length_drop]
    omega
  have hbB : ByIn w3 F g vL mB.sV mB.safe ∧ ByIn w3 F g vL mB.eV mB.seen ∧ okName mB.nm = true := by
    rw [HMB.out]
    obtain ⟨q1, q2, _⟩ := HD3.out.els _ (List.mem_of_getElem? HM.out)
    exact ⟨q1, q2, HOKB.out⟩
  have hbB4 : ByIn w4 F4 g vL4 mB.sV mB.safe ∧ ByIn w4 F4 g vL4 mB.eV mB.seen ∧ okName mB.nm = true := ⟨hby4 _ _ hbB.1, hby4 _ _ hbB.2.1, hbB.2.2⟩
  have hpf : mB.pf = { f with nm := b } := by rw [HMB.out, HFM.out]; rfl
  obtain ⟨ms4, hms4⟩ : ∃ ms4, ms4 = ms.take p ++ ms.drop (p + 1) := ⟨_, rfl⟩
  obtain ⟨D4, hD4⟩ : ∃ D4 : PD, D4 = { D.tick with L := ms4.map MR.pf } := ⟨_, rfl⟩
  rw [← hms4] at hd4 hlen4 hL4
  rw [← hD4] at hd4 hL4
  have hnmB : mB.nm = b := by rw [HMB.out]
  have HD4 := Lib.hid hD4
  have HL4 := Lib.hid hL4
  have HR4 := Lib.hid hd4
  have HT4 := Lib.hid ht4
  have HF4 := Lib.hid hF4
  have HBB4 := Lib.hid hbB4
  have HPF := Lib.hid hpf
  have HNMB := Lib.hid hnmB
  have HT02 := Lib.hid ((HT2.out.mono fun k hk => by rw [hk]; exact HG.out : Touch F w w2).then HB3.out)
  clear hd4 ht4 hF4 hby4 hbB hbB4 hpf hms4 hD4 hL4 hnmB
  have fin : ∀ (F6 : Nat → Prop) (w6 : World) (D6 : PD) (vL6 : Value) (ms6 : List MR), RefIn w6 g F6 D6 vL6 l2 ms6 → Touch (fun k => k = g) w4 w6 → (∀ k, F6 k → F4 k ∨ w4.heap.size ≤ k) → RefTo g F D6 w w6 := by
    intro F6 w6 D6 vL6 ms6 h6 t6 hF6
    have hFg := HG.out
    refine ⟨F6, ⟨_, _, _, h6⟩, (HT02.out.trans (HT4.out.mono (F' := F) fun k hk => by rw [hk]; exact hFg) fun k hk => .inl hk).trans (t6.mono (F' := F) fun k hk => by rw [hk]; exact hFg) fun k hk => .inl hk, fun k hk => ?_⟩
    have z2 := HT02.out.size
    have z4 := HT4.out.size
    rcases hF6 k hk with hk | hk
    · rcases HF4.out k hk with hk | hk
      · exact .inl hk
      · exact .inr (by omega)
    · exact .inr (by omega)
  have HFIN := Lib.hid fin
  clear fin
  go_wp2_with fail
  refine (rfind_is g b _ HR4.out).mono ?_
  rintro e w' ⟨rfl, rfl⟩
  cases hhb : D4.has b with
  | false =>
    have hv : findV9 D4 b = -1 := by rw [findV9, if_neg (by rw [hhb]; decide)]
    rw [hv]
    obtain ⟨q, hq⟩ : ∃ q, posN (namesF D4.L) b = q := ⟨_, rfl⟩
    have hno : hasN (namesF D4.L) mB.nm = false := by rw [HNMB.out]; exact hhb
    have hpos : posN (namesF D4.L) mB.nm = q := by rw [HNMB.out]; exact hq
    have hput := rput_is g q mB _ HR4.out HBB4.out hno hlen4 hpos
    rw [show (#[.pointer (some ⟨g, 0, none⟩), .agg #[.string mB.nm, mB.sV, mB.eV]] : Array Value) = #[.pointer (some ⟨g, 0, none⟩), .agg #[.string b, .slice As ns cs, .slice Ae ne ce]] by rw [HMB.out]] at hput
    have HPUT := Lib.hid hput
    have bx4 := HBX.out _ HT4.out
    have hfinL : D.with (putL (D.L.take (D.pos a) ++ D.L.drop (D.pos a + 1)) { f with nm := b }) = { D4 with L := (ms4.take q ++ mB :: ms4.drop q).map MR.pf } := by
      rw [← HL4.out, putL]
      show D.with (if hasN _ b = true then _ else List.take (posN _ b) _ ++ _ :: List.drop (posN _ b) _) = _
      rw [if_neg (by have : hasN (namesF D4.L) b = false := hhb; rw [this]; decide), hq, ← HPF.out, HR4.out.eqL, List.map_append, List.map_cons, List.map_take, List.map_drop, HD4.out]
      rfl
    have HFL := Lib.hid hfinL
    clear hhb hv hq hno hpos hput hfinL hlen4
    go_wp2_with (first | (refine wpList_load_box rfl 74 _ rfl w2.heap.size rfl [.string b, .slice As ns cs, .slice Ae ne ce] bx4 _ Try.underlying74 rfl size_rfile ?_))
    refine HPUT.out.mono ?_
    rintro e w6 ⟨rfl, vL6, F6, hd6, ht6, hF6, _⟩
    have HRES := Lib.hid (HFIN.out F6 w6 _ vL6 _ hd6 ht6 hF6)
    clear hd6 ht6 hF6
    go_wp2_with fail
    go_ret
    rw [HFL.out]
    exact ⟨rfl, HRES.out⟩
  | true =>
    have hv : findV9 D4 b = (posN (namesF D4.L) b : Int) := by rw [findV9, if_pos hhb]; rfl
    rw [hv]
    obtain ⟨q, hq⟩ : ∃ q, posN (namesF D4.L) b = q := ⟨_, rfl⟩
    rw [hq]
    have hql : q < ms4.length := by
      have := hasN_pos (show hasN (namesF D4.L) b = true from hhb)
      rw [hq, HR4.out.nmL, List.length_map] at this
      exact this
    have i3 : (0 : Int) ≤ (q : Int) := by omega
    obtain ⟨e1, e2⟩ := names_del HR4.out.rise (show hasN (namesF D4.L) b = true from hhb) hq
    have HE1 := Lib.hid e1
    have HE2 := Lib.hid e2
    have HQL := Lib.hid hql
    have HHB := Lib.hid hhb
    have HQ := Lib.hid hq
    clear e1 e2 hql hhb hq hv
    go_wp2_with fail
    refine (rdrop_is g q _ HR4.out HQL.out).mono ?_
    rintro e w5 ⟨rfl, vL5, F5, hd5, ht5, hF5, hby5⟩
    have hnm5 : namesF ({ D4 with L := (ms4.take q ++ ms4.drop (q + 1)).map MR.pf } : PD).L = (namesF D4.L).take q ++ (namesF D4.L).drop (q + 1) := by
      show namesF ((ms4.take q ++ ms4.drop (q + 1)).map MR.pf) = _
      rw [map_del, ← HR4.out.eqL, names_of_del]
    have hno : hasN (namesF ({ D4 with L := (ms4.take q ++ ms4.drop (q + 1)).map MR.pf } : PD).L) mB.nm = false := by rw [hnm5, HNMB.out]; exact HE1.out
    have hpos : posN (namesF ({ D4 with L := (ms4.take q ++ ms4.drop (q + 1)).map MR.pf } : PD).L) mB.nm = q := by rw [hnm5, HNMB.out]; exact HE2.out
    have hput := rput_is g q mB _ hd5 ⟨hby5 _ _ HBB4.out.1, hby5 _ _ HBB4.out.2.1, HBB4.out.2.2⟩ hno (by rw [List.length_append, List.length_take, List.length_drop]; omega) hpos
    rw [show (#[.pointer (some ⟨g, 0, none⟩), .agg #[.string mB.nm, mB.sV, mB.eV]] : Array Value) = #[.pointer (some ⟨g, 0, none⟩), .agg #[.string b, .slice As ns cs, .slice Ae ne ce]] by rw [HMB.out]] at hput
    have HPUT := Lib.hid hput
    have bx5 := HBX.out _ (HT4.out.trans ht5 fun k hk => .inl hk)
    have HT5 := Lib.hid ht5
    have HF5 := Lib.hid hF5
    have hfinL : D.with (putL (D.L.take (D.pos a) ++ D.L.drop (D.pos a + 1)) { f with nm := b }) = { D4 with L := ((ms4.take q ++ ms4.drop (q + 1)).take q ++ mB :: (ms4.take q ++ ms4.drop (q + 1)).drop q).map MR.pf } := by
      rw [← HL4.out, putL]
      show D.with (if hasN _ b = true then List.set _ (posN _ b) _ else _) = _
      rw [if_pos (show hasN (namesF D4.L) b = true from HHB.out), HQ.out, ← HPF.out, HR4.out.eqL, del_ins HQL.out, List.map_set, HD4.out]
      rfl
    have HFL := Lib.hid hfinL
    clear hd5 hby5 hno hpos hput hfinL hlen4 ht5 hF5 hnm5
    go_wp2_with (first | (refine wpList_load_box rfl 74 _ rfl w2.heap.size rfl [.string b, .slice As ns cs, .slice Ae ne ce] bx5 _ Try.underlying74 rfl size_rfile ?_))
    refine HPUT.out.mono ?_
    rintro e w6 ⟨rfl, vL6, F6, hd6, ht6, hF6, _⟩
    have HRES := Lib.hid (HFIN.out F6 w6 _ vL6 _ hd6 (HT5.out.trans ht6 fun k hk => .inl hk) fun k hk => by
      have z5 := HT5.out.size
      rcases hF6 k hk with hk | hk
      · exact HF5.out k hk
      · exact .inr (by omega))
    clear hd6 ht6 hF6
    go_wp2_with fail
    go_ret
    rw [HFL.out]
    exact ⟨rfl, HRES.out⟩

end Go.Proofs.Ytejfilphnebckaa
/-
  The page's own torn file.
-/
namespace Go.Proofs.Ytejfilphnebckaa
open Go.RowKit

set_option maxRecDepth 100000 in
set_option maxHeartbeats 4000000 in
theorem rtorn_is (nm : ByteArray) (AS AE : Option Addr) (cS cE nS nE : Nat) (safe seen : List Int) (q : Int) (w : World) (hS : safe.length = nS) (hE : seen.length = nE) (hrS : Rd w AS (u8s safe)) (hrE : Rd w AE (u8s seen)) (hnS : nS ≤ 1048576) (hnE : nE ≤ 1048576) (h0 : 0 < max nE nS) :
    Calls Try.prog 65 #[.agg #[.string nm, .slice AS nS cS, .slice AE nE cE], .int .i64 q] w (Made w.heap.size 5 w (u8s (tornB seen safe q))) := by
  have HS := Lib.hid hS
  have HE := Lib.hid hE
  obtain ⟨S, hSS⟩ : ∃ S : Nat, S = (max nE nS + 31) / 32 + 1 := ⟨_, rfl⟩
  have hS1 : ((max (nS : Int) (nE : Int) + 32 - 1) / 32 + 1) = (S : Int) := by omega
  have hS2 : 1 < S ∧ S ≤ 1000000 := by omega
  obtain ⟨mm, hmm⟩ : ∃ mm : Nat, q % (S : Int) = (mm : Int) := ⟨(q % (S : Int)).toNat, by have := Int.emod_nonneg q (show (S : Int) ≠ 0 by omega); omega⟩
  have hmS : mm < S := by have := Int.emod_lt_of_pos q (show (0 : Int) < (S : Int) by omega); omega
  have hcon : ∀ w, Calls Try.prog 64 #[.int .i64 q, .int .i64 ((max (nS : Int) (nE : Int) + 32 - 1) / 32 + 1)] w fun e w' => e = .returned (.int .i64 (mm : Int)) ∧ w = w' := fun w => by
    rw [hS1, ← hmm]
    exact rmod_any q S w (by omega) (by omega)
  have htl : (tornB seen safe q).length = nE := by rw [tornB, List.length_map, List.length_range, hE]
  have htk : ∀ k, k < nE → (tornB seen safe q)[k]? = some (if k < mm * 32 then seen.getD k 0 else safe.getD k 0) := fun k hk => by
    unfold tornB
    rw [hE, hS, ← hSS, hmm, Int.toNat_natCast, List.getElem?_map, List.getElem?_range hk]
    rfl
  obtain ⟨T, hT⟩ : ∃ T, tornB seen safe q = T := ⟨_, rfl⟩
  rw [hT] at htl htk ⊢
  have HTL := Lib.hid htl
  have HTK := Lib.hid htk
  have HC := Lib.hid hcon
  have hmm32 : mm ≤ 1000000 := by omega
  obtain ⟨w1, hw1⟩ : ∃ w1, w1 = w.alloc (.cells #[.string nm, .slice AS nS cS, .slice AE nE cE] 74) := ⟨_, rfl⟩
  have hb1 : Below w.heap.size w w1 := by rw [hw1]; exact (Below.refl _ _).alloc (Nat.le_refl _) _
  have bx1 : Box w1 w.heap.size [.string nm, .slice AS nS cS, .slice AE nE cE] := by rw [hw1]; exact box_new w [.string nm, .slice AS nS cS, .slice AE nE cE] 74
  have HW := Lib.hid hw1
  have HBX := Lib.hid bx1
  have HB1 := Lib.hid hb1
  have HRS := Lib.hid (hrS.below hb1)
  have HRE := Lib.hid (hrE.below hb1)
  have x1 := bx1.2 1 _ rfl
  have x2 := bx1.2 2 _ rfl
  have hz1 := hb1.size
  have hgb : w.heap.size < w1.heap.size := bx1.1
  clear hcon hS1 hS2 hmm hmS h0 hT htl htk hS hE hrS hrE hw1 hb1 bx1 hSS
  go_enter Try.func65, Try.ntmps65
  go_upto_region 1 with fail
  rw [← HW.out]
  go_wp2_with fail
  refine (HC.out _).mono ?_
  rintro e w' ⟨rfl, rfl⟩
  go_wp2_with fail
  go_loopw [8, 9] (fun v i wr => ∃ k : Nat, i = .int .i64 k ∧ k ≤ nE ∧ Hid (wr.ownsRow w1.heap.size 5 1 v k (u8s (T.take k))) ∧ Below w1.heap.size w1 wr) (fun _ i _ => nE - (intOf i).toNat)
  case atStart => exact ⟨0, rfl, by omega, World.ownsRow_nil _ _ _ _, Below.refl _ _⟩
  case round =>
    obtain ⟨k, rfl, hk, HO, hb⟩ := hrel
    clear x1 x2
    have bx := HBX.out.below hb hgb
    have x1 := bx.2 1 _ rfl
    have x2 := bx.2 2 _ rfl
    clear bx
    have i0 : (0 : Int) ≤ (k : Int) := by omega
    by_cases hlt : k < nE
    · have i1 : (k : Int) < (nE : Int) := by omega
      have hnx := HTK.out k hlt
      by_cases hkm : k < mm * 32
      · have j1 : (k : Int) < (mm : Int) * 32 := by omega
        rw [if_pos hkm] at hnx
        obtain ⟨x, hx⟩ : ∃ x, x = seen.getD k 0 := ⟨_, rfl⟩
        obtain ⟨b, off, hA, _, hcl⟩ := (HRE.out.below hb).open_ (by rw [u8s_length, HE.out]; omega)
        have y1 : wr.cell? ⟨b, off + k, none⟩ = some (.int .u8 x) := hcl k _ (by rw [u8s_at (by rw [HE.out]; exact hlt), hx, List.getD_eq_getElem?_getD])
        have HX : Hid (u8s (T.take k) ++ [.int .u8 x] = u8s (T.take (k + 1))) := by
          show _ = _
          rw [take_up hnx, u8s_append, hx]
          rfl
        rw [hA] at x2
        clear hcl hnx hx hA
        go_wp2_with (at_builtin; refine wpList_app_one _ rfl _ _ 39 rfl w1.heap.size 5 (.int .u8 0) 1 Try.underlying39 info_u8 rfl (by decide) _ k _ rfl (HO.out.alloc _) wr.heap.size (.int .u8 x) rfl (cell_new _ _ _) rfl (by omega) (by have := hb.size; simp; omega) ?_)
        intro v' w9 ho9 hb9
        have HO9 := Lib.hid (own_conv ho9 HX.out rfl)
        have hb10 : Below w1.heap.size w1 w9 := (hb.alloc hb.size _).trans hb9
        clear ho9 hb9
        go_wp2_with fail
        go_roundw
        case rel => exact ⟨k + 1, by go_num, by omega, HO9, hb10⟩
        case measure => simp [intOf]; omega
      · have j1 : ¬ ((k : Int) < (mm : Int) * 32) := by omega
        rw [if_neg hkm] at hnx
        by_cases hks : k < nS
        · have j2 : (k : Int) < (nS : Int) := by omega
          obtain ⟨x, hx⟩ : ∃ x, x = safe.getD k 0 := ⟨_, rfl⟩
          obtain ⟨b, off, hA, _, hcl⟩ := (HRS.out.below hb).open_ (by rw [u8s_length, HS.out]; omega)
          have y1 : wr.cell? ⟨b, off + k, none⟩ = some (.int .u8 x) := hcl k _ (by rw [u8s_at (by rw [HS.out]; exact hks), hx, List.getD_eq_getElem?_getD])
          have HX : Hid (u8s (T.take k) ++ [.int .u8 x] = u8s (T.take (k + 1))) := by
            show _ = _
            rw [take_up hnx, u8s_append, hx]
            rfl
          rw [hA] at x1
          clear hcl hnx hx hA
          go_wp2_with (at_builtin; refine wpList_app_one _ rfl _ _ 39 rfl w1.heap.size 5 (.int .u8 0) 1 Try.underlying39 info_u8 rfl (by decide) _ k _ rfl (HO.out.alloc _) wr.heap.size (.int .u8 x) rfl (cell_new _ _ _) rfl (by omega) (by have := hb.size; simp; omega) ?_)
          intro v' w9 ho9 hb9
          have HO9 := Lib.hid (own_conv ho9 HX.out rfl)
          have hb10 : Below w1.heap.size w1 w9 := (hb.alloc hb.size _).trans hb9
          clear ho9 hb9
          go_wp2_with fail
          go_roundw
          case rel => exact ⟨k + 1, by go_num, by omega, HO9, hb10⟩
          case measure => simp [intOf]; omega
        · have j2 : ¬ ((k : Int) < (nS : Int)) := by omega
          have HX : Hid (u8s (T.take k) ++ [.int .u8 0] = u8s (T.take (k + 1))) := by
            show _ = _
            rw [take_up hnx, u8s_append, List.getD_eq_getElem?_getD, List.getElem?_eq_none (by rw [HS.out]; omega)]
            rfl
          clear hnx
          go_wp2_with (at_builtin; refine wpList_app_one _ rfl _ _ 39 rfl w1.heap.size 5 (.int .u8 0) 1 Try.underlying39 info_u8 rfl (by decide) _ k _ rfl (HO.out.alloc _) wr.heap.size (.int .u8 0) rfl (cell_new _ _ _) rfl (by omega) (by have := hb.size; simp; omega) ?_)
          intro v' w9 ho9 hb9
          have HO9 := Lib.hid (own_conv ho9 HX.out rfl)
          have hb10 : Below w1.heap.size w1 w9 := (hb.alloc hb.size _).trans hb9
          clear ho9 hb9
          go_wp2_with fail
          go_roundw
          case rel => exact ⟨k + 1, by go_num, by omega, HO9, hb10⟩
          case measure => simp [intOf]; omega
    · have i1 : ¬ ((k : Int) < (nE : Int)) := by omega
      obtain rfl : k = nE := by omega
      go_wp2_with fail
      go_ret
      refine ⟨_, rfl, own_more (own_conv HO.out ?_ ?_) hz1, HB1.out.trans (hb.mono hz1)⟩
      · rw [List.take_of_length_le (by rw [HTL.out]; exact Nat.le_refl _)]
      · rw [u8s_length, HTL.out]

end Go.Proofs.Ytejfilphnebckaa
