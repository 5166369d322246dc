/-
  Package disk: Sync.
-/
import Derived.Test.YtecgagfpckaieaaDFile
import Derived.Test.YtecgagfpckaieaaDTake
namespace Go.Proofs.Ytecgagfpckaieaa
open Go.RowKit

theorem sync_facts {w1 : World} {g : Nat} {F : Nat → Prop} {T : PD} {l : Int} {ms : List MF} {m : MF} {p gr nL cap nV nD q : Nat} (h : DiskIn w1 g F T (.slice (some ⟨gr, 0, none⟩) nL cap) l ms) (hm : ms[p]? = some m) (hnV : m.vis.length = nV) (hnD : m.dur.length = nD) (hq : m.same = q) (hnb : ∀ m ∈ ms, gr ∉ m.blks) :
    ∃ AV cV AD cD A1 A2 c2 w2, m.vV = .slice AV nV cV ∧ m.dV = .slice AD nD cD ∧ nV ≤ cV ∧ nD ≤ cD ∧ cV ≤ maxLen ∧ cD ≤ maxLen ∧ ((cV = q → A1 = AV) ∧ (cV ≠ q → ∃ gv, AV = some ⟨gv, 0, none⟩ ∧ A1 = some ⟨gv, q, none⟩)) ∧
      (Builtin.append_ #[50, 50] 50 #[.slice AD q cD, .slice A1 (nV - q) (cV - q)]).run Try.prog w1.drew = .ok (.slice A2 nV c2) w2 ∧
      AtFile w2 gr p m ∧ (∀ o, w2.frozen? ⟨gr, o, none⟩ = false) ∧ w2.ownsRow 0 80 4 (.slice (some ⟨gr, 0, none⟩) nL cap) nL (cellsD ms) ∧ w2.ownsRow 0 5 1 (.slice A2 nV c2) nV (u8s m.vis) ∧ w1.grownBy w2 m.dV.ownBlock ∧ ((Value.slice A2 nV c2).ownBlock = m.dV.ownBlock ∨ (Value.slice A2 nV c2).ownBlock = some w1.heap.size) := by
  have hmem : m ∈ ms := List.mem_of_getElem? hm
  have hf := h.els m hmem
  obtain ⟨AV, cV, hvV, hcV, hmV, hrV⟩ := rd_own hf.rV
  obtain ⟨AD, cD, hdV, hcD, hmD, _⟩ := rd_own hf.rD
  have hs1 := hf.s1
  have hs2 := hf.s2
  have hz1 := hf.z1
  have hz2 := hf.z2
  rw [hnV] at hvV hcV hs1 hz1
  rw [hnD] at hdV hcD hs2 hz2
  rw [hq] at hs1 hs2
  have hrD : w1.ownsRow 0 5 1 (.slice AD nD cD) nD (u8s m.dur) := by have := hf.rD; rwa [hdV, hnD] at this
  have hcut := hrV.cut (k := q) (c := cV) (by rw [u8s_length, hnV]; exact hcV)
  have hown : w1.drew.ownsRow 0 5 1 (.slice AD q cD) q ((u8s m.dur).take q) := row_first hrD hs2
  have hobk : (Value.slice AD q cD).ownBlock = m.dV.ownBlock := by rw [hdV]; cases AD <;> rfl
  have hgr : gr < w1.heap.size := h.lt _ (h.rowF rfl)
  have hgrne : m.dV.ownBlock ≠ some gr := fun e => hnb m hmem (by simp [MF.blks, e])
  obtain ⟨A1, hA1⟩ : ∃ A1, A1 = (if cV = q then AV else AV.map (·.add q)) := ⟨_, rfl⟩
  rw [← hA1] at hcut
  have hlist : (u8s m.dur).take q ++ (u8s m.vis).drop q = u8s m.vis := by
    have h3 := hf.s3
    rw [hq] at h3
    rw [show (u8s m.dur).take q = (u8s m.vis).take q by rw [u8s, u8s, ← List.map_take, ← List.map_take, h3], List.take_append_drop]
  have hall : ∀ c, ∃ A' c' w', (Builtin.append_ #[50, 50] 50 #[.slice AD q cD, .slice A1 (nV - q) c]).run Try.prog w1.drew = .ok (.slice A' (q + (nV - q)) c') w' ∧ w'.ownsRow 0 5 1 (.slice A' (q + (nV - q)) c') (q + (nV - q)) ((u8s m.dur).take q ++ (u8s m.vis).drop q) ∧ w1.drew.grownBy w' (Value.slice AD q cD).ownBlock ∧ ((Value.slice A' (q + (nV - q)) c').ownBlock = (Value.slice AD q cD).ownBlock ∨ (Value.slice A' (q + (nV - q)) c').ownBlock = some w1.drew.heap.size) := fun c =>
    run_app_loc (P := Try.prog) w1.drew 50 50 0 5 (.int .u8 0) 1 Try.underlying50 info_u8 rfl (by decide) (.slice AD q cD) q _ hown A1 (nV - q) c ((u8s m.vis).drop q) (by rw [List.length_drop, u8s_length, hnV]) hcut (fun u hu => u8s_one _ u (List.mem_of_mem_drop hu)) (by omega) (by omega)
  obtain ⟨A2, c2, w2, hr0, ho, hg, hloc⟩ := hall (cV - q)
  have hqq : q + (nV - q) = nV := by omega
  rw [hqq, hlist] at ho
  rw [hqq] at hr0 hloc
  rw [hobk] at hg hloc
  have hg' : w1.grownBy w2 m.dV.ownBlock := ⟨hg.os, hg.tape, hg.output, hg.size, hg.block⟩
  have hgb : w2.heap[gr]? = w1.heap[gr]? := hg'.block gr hgr (fun e => hgrne e.symm)
  have hkf := h.file rfl hm
  refine ⟨AV, cV, AD, cD, A1, A2, c2, w2, hvV, hdV, hcV, hcD, hmV, hmD, ⟨fun e => by rw [hA1, if_pos e], fun e => ?_⟩, hr0, ?_, ?_, ?_, ho, hg', hloc⟩
  · rcases hf.rV.2 with ⟨hv, h0⟩ | ⟨gv, cap', cur, hv, _⟩
    · rw [hvV] at hv
      cases hv
      omega
    · rw [hvV] at hv
      cases hv
      exact ⟨gv, rfl, by rw [hA1, if_neg e]; simp [Addr.add_lit]⟩
  · exact ⟨(World.cell?_of_block (a := ⟨gr, p * 4, none⟩) hgb).trans hkf.a0, (World.cell?_of_block (a := ⟨gr, p * 4 + 1, none⟩) hgb).trans hkf.a1, (World.cell?_of_block (a := ⟨gr, p * 4 + 2, none⟩) hgb).trans hkf.a2, (World.cell?_of_block (a := ⟨gr, p * 4 + 3, none⟩) hgb).trans hkf.a3⟩
  · exact fun o => (World.frozen?_of_block (a := ⟨gr, o, none⟩) hgb).trans (h.rowfz rfl o)
  · have hn : nL = ms.length := by
      rcases h.row.2 with ⟨hv, _⟩ | ⟨_, _, _, hv, _⟩
      · cases hv
      · cases hv; rfl
    have hr := h.row
    rw [← hn] at hr
    exact own_kept hr fun k hk _ => by cases hk; exact hgb

theorem sync_done {w1 w2 : World} {g : Nat} {F : Nat → Prop} {T T' : PD} {l : Int} {ms : List MF} {m : MF} {p gr nL cap nV c2 : Nat} {A2 : Option Addr} (h : DiskIn w1 g F T (.slice (some ⟨gr, 0, none⟩) nL cap) l ms) (hm : ms[p]? = some m) (hnV : m.vis.length = nV) (hnb : ∀ m ∈ ms, gr ∉ m.blks)
    (hfin : AtFile w2 gr p m ∧ (∀ o, w2.frozen? ⟨gr, o, none⟩ = false) ∧ w2.ownsRow 0 80 4 (.slice (some ⟨gr, 0, none⟩) nL cap) nL (cellsD ms) ∧ w2.ownsRow 0 5 1 (.slice A2 nV c2) nV (u8s m.vis) ∧ w1.grownBy w2 m.dV.ownBlock ∧ ((Value.slice A2 nV c2).ownBlock = m.dV.ownBlock ∨ (Value.slice A2 nV c2).ownBlock = some w1.heap.size))
    (hL : T'.L = (ms.map MF.pf).set p { m.pf with dur := m.vis }) (hc : T'.calls = T.calls) (hl : T'.left = T.left) (ho : T'.off = T.off) :
    DiskTo g F T' w1 ((w2.setCell ⟨gr, p * 4 + 2, none⟩ (.slice A2 nV c2)).setCell ⟨gr, p * 4 + 3, none⟩ (.int .i64 (nV : Int))) := by
  obtain ⟨_, _, hrow, hown, hg, hloc⟩ := hfin
  have hmem : m ∈ ms := List.mem_of_getElem? hm
  have hf := h.els m hmem
  have hgr : gr < w1.heap.size := h.lt _ (h.rowF rfl)
  have hbm := hnb m hmem
  have hnd := blks_nd h.ndF hmem
  have s2 := (hrow.stored (p * 4 + 2) (.slice A2 nV c2)).1
  have s3 := (s2.stored (p * 4 + 3) (.int .i64 (nV : Int))).1
  have hset : ((cellsD ms).set (p * 4 + 2) (.slice A2 nV c2)).set (p * 4 + 3) (.int .i64 (nV : Int)) = cellsD (ms.set p { m with dur := m.vis, dV := .slice A2 nV c2, same := nV }) := by
    rw [← cellsD_set_at hm { m with dur := m.vis, dV := .slice A2 nV c2, same := nV } rfl]
    congr 2
    exact (set_same (cellsD_at hm (j := 1) rfl)).symm
  rw [hset] at s3
  obtain ⟨w4, hw4⟩ : ∃ w4, w4 = (w2.setCell ⟨gr, p * 4 + 2, none⟩ (.slice A2 nV c2)).setCell ⟨gr, p * 4 + 3, none⟩ (.int .i64 (nV : Int)) := ⟨_, rfl⟩
  have hset4 : ∀ k, k ≠ gr → w4.heap[k]? = w2.heap[k]? := fun k hk => by
    rw [hw4, heap_setCell_other _ ⟨gr, p * 4 + 3, none⟩ k _ hk, heap_setCell_other _ ⟨gr, p * 4 + 2, none⟩ k _ hk]
  have ht : Touch (fun k => k = gr ∨ k ∈ m.blks) w1 w4 := by
    rw [hw4]
    exact ((Touch.grown (F := fun k => k = gr ∨ k ∈ m.blks) hg fun k hk => .inr (by simp [MF.blks, hk])).set (.inl (.inl rfl)) _).set (.inl (.inl rfl)) _
  rw [← hw4] at s3 ⊢
  have hdg : m.dV.ownBlock ≠ some gr := fun e => hbm (by simp [MF.blks, e])
  have hAg : (Value.slice A2 nV c2).ownBlock ≠ some gr := by
    rcases hloc with e | e <;> rw [e]
    · exact hdg
    · intro e'; cases e'; omega
  have hdis : ∀ k, m.vV.ownBlock = some k → m.dV.ownBlock ≠ some k := by
    intro k hk hk'
    simp only [MF.blks, hk, hk', Option.toList_some, List.nodup_append, List.mem_singleton] at hnd
    exact hnd.2.2 k rfl k rfl rfl
  have hvlt : ∀ k, m.vV.ownBlock = some k → k < w1.heap.size := fun k hk => (own_lt hf.rV hk).1
  have hkV : ∀ k, m.vV.ownBlock = some k → w4.heap[k]? = w1.heap[k]? := fun k hk => by
    have hkg : k ≠ gr := fun e => hbm (by rw [← e]; simp [MF.blks, hk])
    rw [hset4 k hkg]
    exact hg.block k (hvlt k hk) (fun e => hdis k hk e.symm)
  refine h.fileTo (T' := T') hm (m' := { m with dur := m.vis, dV := .slice A2 nV c2, same := nV }) rfl ht s3 ?_ ?_ ?_ hL hc hl ho
  · exact
      { rV := own_kept hf.rV fun k hk _ => hkV k hk
        rD := by
          show w4.ownsRow 0 5 1 (.slice A2 nV c2) m.vis.length (u8s m.vis)
          rw [hnV]
          exact own_kept hown fun k hk _ => hset4 k (fun e => hAg (by rw [hk, e]))
        s1 := by show nV ≤ m.vis.length; omega
        s2 := by show nV ≤ m.vis.length; omega
        s3 := rfl
        b1 := hf.b1
        b2 := hf.b1
        z1 := hf.z1
        z2 := hf.z1
        ok := hf.ok }
  · intro k hk
    simp only [MF.blks, List.mem_append, Option.mem_toList] at hk ⊢
    rcases hk with hk | hk
    · exact .inl (.inl hk)
    · rcases hloc with e | e
      · exact .inl (.inr (by rw [← e]; exact hk))
      · rw [e] at hk; cases hk; exact .inr (Nat.le_refl _)
  · show (m.vV.ownBlock.toList ++ (Value.slice A2 nV c2).ownBlock.toList).Nodup
    rcases hloc with e | e
    · rw [e]; exact hnd
    · rw [e]
      simp only [List.nodup_append, Option.toList_some, List.mem_singleton, Option.mem_toList]
      refine ⟨by cases m.vV.ownBlock <;> simp, by simp, ?_⟩
      rintro a ha b rfl rfl
      exact absurd (hvlt _ ha) (by omega)

set_option maxRecDepth 100000 in
set_option maxHeartbeats 8000000 in
theorem sync_is {F : Nat → Prop} {D : PD} (g : Nat) (s : ByteArray) (w : World) (h : IsDisk w g F D) (hs : s.size ≤ maxLen) (hc : D.calls ≤ 1000000) :
    Calls Try.prog 32 #[.pointer (some ⟨g, 0, none⟩), .string s] w fun e w' => e = .returned (.int .i64 (dSync D s).2) ∧ DiskTo g F (dSync D s).1 w w' := by
  obtain ⟨vL, l, ms, h⟩ := h
  have HD := Lib.hid h
  cases hn : okName s with
  | false =>
    have hr : dSync D s = (D, 1) := by rw [dSync]; exact dOpen_no hn
    rw [hr]
    clear hr h
    go_enter Try.func32, Try.ntmps32
    go_wp2_with (go_at_call 41; refine (open_no _ _ _ hs hn).mono ?_; rintro e w' ⟨rfl, rfl⟩)
    go_ret
    exact ⟨rfl, DiskTo.same ⟨_, _, _, HD.out⟩⟩
  | true =>
    cases hoff : D.tick.off with
    | true =>
      have hr : dSync D s = (D.tick, 9) := by rw [dSync]; exact dOpen_off hn hoff
      rw [hr]
      clear hr h
      go_enter Try.func32, Try.ntmps32
      go_wp2_with (go_at_call 41; refine (open_off _ _ _ HD.out hs hn hc hoff).mono ?_; rintro e w' ⟨rfl, hto⟩)
      go_ret
      exact ⟨rfl, hto.done HD.out.here⟩
    | false =>
      cases hh : D.has s with
      | false =>
        have hr : dSync D s = (D.tick, 3) := by rw [dSync]; exact dOpen_none hn hoff hh
        rw [hr]
        clear hr h
        go_enter Try.func32, Try.ntmps32
        go_wp2_with (go_at_call 41; refine (open_on false _ _ _ _ HD.out hs hn hc hoff hh rfl).mono ?_; rintro e w' ⟨he, hto⟩; simp only [Bool.false_eq_true, if_false] at he; subst he)
        go_ret
        exact ⟨rfl, hto.done HD.out.here⟩
      | true =>
        obtain ⟨m, hm, hmn, hvis, hpl⟩ := h.there hh
        have hfa := h.fileAt hh hm
        have hfew := h.few
        obtain ⟨p, hp⟩ : ∃ p, D.pos s = p := ⟨_, rfl⟩
        rw [hp] at hm hpl
        obtain ⟨gr, cap, hvL, hnc, hcm, hne, hF, hnb⟩ := h.rowAt (by omega)
        have hmem : m ∈ ms := List.mem_of_getElem? hm
        obtain ⟨nL, hnL⟩ : ∃ nL, ms.length = nL := ⟨_, rfl⟩
        rw [hnL] at hvL hnc hpl hfew
        have hr : dSync D s = (D.with (D.L.set p { m.pf with dur := m.vis }), 0) := by rw [dSync, dOpen_yes hn hoff hfa, hp]; rfl
        rw [hr]
        have HVL := Lib.hid hvL
        have HNL := Lib.hid hnL
        have HM := Lib.hid hm
        have HMM := Lib.hid hmem
        have HP := Lib.hid hp
        have HH := Lib.hid hh
        have HBL := Lib.hid hnb
        have hz1 := (h.els m hmem).z1
        have hz2 := (h.els m hmem).z2
        have hs1 := (h.els m hmem).s1
        have hs2 := (h.els m hmem).s2
        obtain ⟨nV, hnV⟩ : ∃ nV, m.vis.length = nV := ⟨_, rfl⟩
        obtain ⟨nD, hnD⟩ : ∃ nD, m.dur.length = nD := ⟨_, rfl⟩
        obtain ⟨q, hq⟩ : ∃ q, m.same = q := ⟨_, rfl⟩
        rw [hnV] at hz1 hs1
        rw [hnD] at hz2 hs2
        rw [hq] at hs1 hs2
        have HNV := Lib.hid hnV
        have HND := Lib.hid hnD
        have HQ := Lib.hid hq
        subst hvL
        clear hr h hfa hvis hm hmem hmn hp hh hnb hnV hnL hnD hq
        have i0 : (0 : Int) ≤ (p : Int) := by omega
        have i1 : (p : Int) < (nL : Int) := by omega
        go_enter Try.func32, Try.ntmps32
        go_wp2_with fail
        refine (open_on true p _ _ _ HD.out hs hn hc hoff HH.out HP.out).mono ?_
        rintro e w1 ⟨he, hto⟩
        simp only [if_true] at he
        subst he
        have HT := Lib.hid (hto.touch HD.out.here)
        obtain ⟨l1, hd1, _⟩ := hto
        have HD1 := Lib.hid hd1
        have hsy := sync_facts hd1 HM.out HNV.out HND.out HQ.out HBL.out
        obtain ⟨AV, cV, AD, cD, A1, A2, c2, w2, hvV, hdV, hqV, hqD, hcV, hcD, hA1, hrun, hfin⟩ := hsy
        have k0 := hd1.c0
        have kf := hd1.file rfl HM.out
        have k1 := kf.a1
        have k2 := kf.a2
        have k3 := kf.a3
        rw [hvV] at k1
        rw [hdV] at k2
        rw [HQ.out] at k3
        have HRUN := Lib.hid hrun
        have HFIN := Lib.hid hfin
        have g1 := hfin.1.a1
        have g2 := hfin.1.a2
        have g3 := hfin.1.a3
        rw [hvV] at g1
        rw [hdV] at g2
        rw [HQ.out] at g3
        have f2 := hfin.2.1 (p * 4 + 2)
        have f3 := hfin.2.1 (p * 4 + 3)
        clear hvV hdV kf hd1 hrun hfin
        unfold maxLen at hcV hcD hcm
        have i2 : (0 : Int) ≤ (q : Int) := by omega
        have i3 : (q : Int) ≤ (cD : Int) := by omega
        have i4 : (q : Int) ≤ (nV : Int) := by omega
        have i5 : q ≤ nV := by omega
        have i6 : q ≤ cD := by omega
        by_cases hcq : cV = q
        · have hA1' := hA1.1 hcq
          obtain rfl : nV = q := by omega
          subst hA1' hcq
          have HRUN2 := HRUN.out
          simp only [Nat.sub_self] at HRUN2
          have HR := Lib.hid HRUN2
          clear HRUN HRUN2 hA1
          go_wp2_with fail
          refine wp_region_held_drew (S := fun w' => w'.cell? ⟨gr, p * 4 + 1, none⟩ = some (.slice A1 cV cV) ∧ w'.cell? ⟨gr, p * 4 + 3, none⟩ = some (.int .i64 cV)) (by kernel_rfl) ⟨k1, k3⟩ (fun _ => ?_)
          refine ytake_0 (v := ?vv21) (by kernel_rfl) (by kernel_rfl) (by kernel_rfl) (fun _ _ _ h => h) (Or.inl ⟨by rfl, ?hy21⟩) ⟨k1, k3⟩ ?_
          case hy21 =>
            intro wX hSw
            go_simp
            try with_reducible rfl
          try simp only [Act.put, List.setIfInBounds_toArray, List.set_cons_zero, List.set_cons_succ]
          refine ytake_1 (v := ?vv22) (by kernel_rfl) (by kernel_rfl) (by kernel_rfl) (fun _ _ _ h => h) (Or.inl ⟨by rfl, ?hy22⟩) ⟨k1, k3⟩ ?_
          case hy22 =>
            intro wX hSw
            go_simp
            try with_reducible rfl
          try simp only [Act.put, List.setIfInBounds_toArray, List.set_cons_zero, List.set_cons_succ]
          refine ytake_2 (v := ?vv23) (by kernel_rfl) (by kernel_rfl) (by kernel_rfl) (fun _ _ _ h => h) (Or.inl ⟨by rfl, ?hy23⟩) ⟨k1, k3⟩ ?_
          case hy23 =>
            intro wX hSw
            go_simp
            try with_reducible rfl
          try simp only [Act.put, List.setIfInBounds_toArray, List.set_cons_zero, List.set_cons_succ]
          refine ytake_3 (v := ?vv24) (by kernel_rfl) (by kernel_rfl) (by kernel_rfl) (fun _ _ _ h => h) (Or.inl ⟨by rfl, ?hy24⟩) ⟨k1, k3⟩ ?_
          case hy24 =>
            intro wX hSw
            go_simp
            try with_reducible rfl
          try simp only [Act.put, List.setIfInBounds_toArray, List.set_cons_zero, List.set_cons_succ]
          refine ytake_5 (v := ?vv25) (by kernel_rfl) (by kernel_rfl) (by kernel_rfl) (fun _ _ _ h => h) (Or.inl ⟨by rfl, ?hy25⟩) ⟨k1, k3⟩ ?_
          case hy25 =>
            intro wX hSw
            go_simp
            try with_reducible rfl
          try simp only [Act.put, List.setIfInBounds_toArray, List.set_cons_zero, List.set_cons_succ]
          refine ytake_6 (v := ?vv26) (by kernel_rfl) (by kernel_rfl) (by kernel_rfl) (fun _ _ _ h => h) (Or.inl ⟨by rfl, ?hy26⟩) ⟨k1, k3⟩ ?_
          case hy26 =>
            intro wX hSw
            go_simp
            try with_reducible rfl
          try simp only [Act.put, List.setIfInBounds_toArray, List.set_cons_zero, List.set_cons_succ]
          refine ytake_7 (v := ?vv27) (by kernel_rfl) (by kernel_rfl) (by kernel_rfl) (fun _ _ _ h => h) (Or.inl ⟨by rfl, ?hy27⟩) ⟨k1, k3⟩ ?_
          case hy27 =>
            intro wX hSw
            go_simp
            try with_reducible rfl
          try simp only [Act.put, List.setIfInBounds_toArray, List.set_cons_zero, List.set_cons_succ]
          refine ytake_8 (v := ?vv28) (by kernel_rfl) (by kernel_rfl) (by kernel_rfl) (fun _ _ _ h => h) (Or.inl ⟨by rfl, ?hy28⟩) ⟨k1, k3⟩ ?_
          case hy28 =>
            intro wX hSw
            have hcc := hSw.2
            go_simp
            try with_reducible rfl
          try simp only [Act.put, List.setIfInBounds_toArray, List.set_cons_zero, List.set_cons_succ]
          refine ytake_10 (v := ?vv29) (by kernel_rfl) (by kernel_rfl) (by kernel_rfl) (fun _ _ _ h => h) (Or.inl ⟨by rfl, ?hy29⟩) ⟨k1, k3⟩ ?_
          case hy29 =>
            intro wX hSw
            go_simp
            try with_reducible rfl
          try simp only [Act.put, List.setIfInBounds_toArray, List.set_cons_zero, List.set_cons_succ]
          refine ytake_11 (v := ?vv30) (by kernel_rfl) (by kernel_rfl) (by kernel_rfl) (fun _ _ _ h => h) (Or.inl ⟨by rfl, ?hy30⟩) ⟨k1, k3⟩ ?_
          case hy30 =>
            intro wX hSw
            go_simp
            try with_reducible rfl
          try simp only [Act.put, List.setIfInBounds_toArray, List.set_cons_zero, List.set_cons_succ]
          refine ytake_12 (v := ?vv31) (by kernel_rfl) (by kernel_rfl) (by kernel_rfl) (fun _ _ _ h => h) (Or.inl ⟨by rfl, ?hy31⟩) ⟨k1, k3⟩ ?_
          case hy31 =>
            intro wX hSw
            go_simp
            try with_reducible rfl
          try simp only [Act.put, List.setIfInBounds_toArray, List.set_cons_zero, List.set_cons_succ]
          refine ytake_13 (v := ?vv32) (by kernel_rfl) (by kernel_rfl) (by kernel_rfl) (fun _ _ _ h => h) (Or.inl ⟨by rfl, ?hy32⟩) ⟨k1, k3⟩ ?_
          case hy32 =>
            intro wX hSw
            have hcc := hSw.1
            go_simp
            try with_reducible rfl
          try simp only [Act.put, List.setIfInBounds_toArray, List.set_cons_zero, List.set_cons_succ]
          refine ytake_14 (v := ?vv33) (by kernel_rfl) (by kernel_rfl) (by kernel_rfl) (fun _ _ _ h => h) (Or.inl ⟨by rfl, ?hy33⟩) ⟨k1, k3⟩ ?_
          case hy33 =>
            intro wX hSw
            go_simp
            try with_reducible rfl
          try simp only [Act.put, List.setIfInBounds_toArray, List.set_cons_zero, List.set_cons_succ]
          refine ytake_15 (v := ?vv34) (by kernel_rfl) (by kernel_rfl) (by kernel_rfl) (fun _ _ _ h => h) (Or.inl ⟨by rfl, ?hy34⟩) ⟨k1, k3⟩ ?_
          case hy34 =>
            intro wX hSw
            go_simp
            try with_reducible rfl
          try simp only [Act.put, List.setIfInBounds_toArray, List.set_cons_zero, List.set_cons_succ]
          refine ytake_16 (v := ?vv35) (by kernel_rfl) (by kernel_rfl) (by kernel_rfl) (fun _ _ _ h => h) (Or.inl ⟨by rfl, ?hy35⟩) ⟨k1, k3⟩ ?_
          case hy35 =>
            intro wX hSw
            go_simp
            try with_reducible rfl
          try simp only [Act.put, List.setIfInBounds_toArray, List.set_cons_zero, List.set_cons_succ]
          refine ytake_17 (v := ?vv36) (by kernel_rfl) (by kernel_rfl) (by kernel_rfl) (fun _ _ _ h => h) (Or.inl ⟨by rfl, ?hy36⟩) ⟨k1, k3⟩ ?_
          case hy36 =>
            intro wX hSw
            have hcc := hSw.2
            go_simp
            try with_reducible rfl
          try simp only [Act.put, List.setIfInBounds_toArray, List.set_cons_zero, List.set_cons_succ]
          refine ytake_18 (v := ?vv37) (by kernel_rfl) (by kernel_rfl) (by kernel_rfl) (fun _ _ _ h => h) (Or.inl ⟨by rfl, ?hy37⟩) ⟨k1, k3⟩ ?_
          case hy37 =>
            intro wX hSw
            go_simp
            try with_reducible rfl
          try simp only [Act.put, List.setIfInBounds_toArray, List.set_cons_zero, List.set_cons_succ]
          refine yready_4 (by kernel_rfl) ?_
          intro KQ hK
          rw [if_pos (by rfl)]
          go_simp
          refine hK.out _ _ ⟨k1, k3⟩ (fun _ => ?_)
          clear hK KQ
          try simp only [Act.put, List.setIfInBounds_toArray, List.set_cons_zero, List.set_cons_succ]
          refine ytake_9 (v := ?vv38) (by kernel_rfl) (by kernel_rfl) (by kernel_rfl) (fun _ _ _ h => h) (Or.inl ⟨by rfl, ?hy38⟩) ⟨k1, k3⟩ ?_
          case hy38 =>
            intro wX hSw
            go_simp
            try with_reducible rfl
          try simp only [Act.put, List.setIfInBounds_toArray, List.set_cons_zero, List.set_cons_succ]
          refine yready_19 (by kernel_rfl) ?_
          intro KQ hK
          rw [if_pos (by rfl)]
          refine wp_call_run _ (.tmp 32) (.tmp 41) 50 50 rfl rfl rfl HR.out ?_
          refine hK.out _ _ ⟨g1, g3⟩ (fun _ => ?_)
          clear hK KQ
          try simp only [Act.put, List.setIfInBounds_toArray, List.set_cons_zero, List.set_cons_succ]
          refine ytake_20 (v := ?vv39) (by kernel_rfl) (by kernel_rfl) (by kernel_rfl) (fun _ _ _ h => h) (Or.inl ⟨by rfl, ?hy39⟩) ⟨g1, g3⟩ ?_
          case hy39 =>
            intro wX hSw
            go_simp
            try with_reducible rfl
          try simp only [Act.put, List.setIfInBounds_toArray, List.set_cons_zero, List.set_cons_succ]
          refine ytake_21 (v := ?vv40) (by kernel_rfl) (by kernel_rfl) (by kernel_rfl) (fun _ _ _ h => h) (Or.inl ⟨by rfl, ?hy40⟩) ⟨g1, g3⟩ ?_
          case hy40 =>
            intro wX hSw
            go_simp
            try with_reducible rfl
          try simp only [Act.put, List.setIfInBounds_toArray, List.set_cons_zero, List.set_cons_succ]
          refine yready_22 (by kernel_rfl) ?_
          intro KQ hK
          rw [if_pos (by rfl)]
          go_simp
          refine hK.out _ _ ⟨by go_simp, by go_simp⟩ (fun _ => ?_)
          clear hK KQ
          try simp only [Act.put, List.setIfInBounds_toArray, List.set_cons_zero, List.set_cons_succ]
          refine wpAnyH_done (by kernel_rfl) ?_ _
          go_wp2_with fail
          go_ret
          refine ⟨rfl, DiskTo.behind HT.out ?_⟩
          exact sync_done HD1.out HM.out HNV.out HBL.out HFIN.out (T' := D.with (D.L.set p { m.pf with dur := m.vis })) (by show D.L.set p _ = _; rw [HD.out.eqL]) rfl rfl rfl
        · obtain ⟨gv, hAV, hA1'⟩ := hA1.2 hcq
          have HCQ := Lib.hid hcq
          subst hAV hA1'
          have HR := Lib.hid HRUN.out
          clear HRUN hA1
          go_wp2_with fail
          refine wp_region_held_drew (S := fun w' => w'.cell? ⟨gr, p * 4 + 1, none⟩ = some (.slice (some ⟨gv, 0, none⟩) nV cV) ∧ w'.cell? ⟨gr, p * 4 + 3, none⟩ = some (.int .i64 q)) (by kernel_rfl) ⟨k1, k3⟩ (fun _ => ?_)
          refine ytake_0 (v := ?vv1) (by kernel_rfl) (by kernel_rfl) (by kernel_rfl) (fun _ _ _ h => h) (Or.inl ⟨by rfl, ?hy1⟩) ⟨k1, k3⟩ ?_
          case hy1 =>
            intro wX hSw
            go_simp
            try with_reducible rfl
          try simp only [Act.put, List.setIfInBounds_toArray, List.set_cons_zero, List.set_cons_succ]
          refine ytake_1 (v := ?vv2) (by kernel_rfl) (by kernel_rfl) (by kernel_rfl) (fun _ _ _ h => h) (Or.inl ⟨by rfl, ?hy2⟩) ⟨k1, k3⟩ ?_
          case hy2 =>
            intro wX hSw
            go_simp
            try with_reducible rfl
          try simp only [Act.put, List.setIfInBounds_toArray, List.set_cons_zero, List.set_cons_succ]
          refine ytake_2 (v := ?vv3) (by kernel_rfl) (by kernel_rfl) (by kernel_rfl) (fun _ _ _ h => h) (Or.inl ⟨by rfl, ?hy3⟩) ⟨k1, k3⟩ ?_
          case hy3 =>
            intro wX hSw
            go_simp
            try with_reducible rfl
          try simp only [Act.put, List.setIfInBounds_toArray, List.set_cons_zero, List.set_cons_succ]
          refine ytake_3 (v := ?vv4) (by kernel_rfl) (by kernel_rfl) (by kernel_rfl) (fun _ _ _ h => h) (Or.inl ⟨by rfl, ?hy4⟩) ⟨k1, k3⟩ ?_
          case hy4 =>
            intro wX hSw
            go_simp
            try with_reducible rfl
          try simp only [Act.put, List.setIfInBounds_toArray, List.set_cons_zero, List.set_cons_succ]
          refine ytake_5 (v := ?vv5) (by kernel_rfl) (by kernel_rfl) (by kernel_rfl) (fun _ _ _ h => h) (Or.inl ⟨by rfl, ?hy5⟩) ⟨k1, k3⟩ ?_
          case hy5 =>
            intro wX hSw
            go_simp
            try with_reducible rfl
          try simp only [Act.put, List.setIfInBounds_toArray, List.set_cons_zero, List.set_cons_succ]
          refine ytake_6 (v := ?vv6) (by kernel_rfl) (by kernel_rfl) (by kernel_rfl) (fun _ _ _ h => h) (Or.inl ⟨by rfl, ?hy6⟩) ⟨k1, k3⟩ ?_
          case hy6 =>
            intro wX hSw
            go_simp
            try with_reducible rfl
          try simp only [Act.put, List.setIfInBounds_toArray, List.set_cons_zero, List.set_cons_succ]
          refine ytake_7 (v := ?vv7) (by kernel_rfl) (by kernel_rfl) (by kernel_rfl) (fun _ _ _ h => h) (Or.inl ⟨by rfl, ?hy7⟩) ⟨k1, k3⟩ ?_
          case hy7 =>
            intro wX hSw
            go_simp
            try with_reducible rfl
          try simp only [Act.put, List.setIfInBounds_toArray, List.set_cons_zero, List.set_cons_succ]
          refine ytake_8 (v := ?vv8) (by kernel_rfl) (by kernel_rfl) (by kernel_rfl) (fun _ _ _ h => h) (Or.inl ⟨by rfl, ?hy8⟩) ⟨k1, k3⟩ ?_
          case hy8 =>
            intro wX hSw
            have hcc := hSw.2
            go_simp
            try with_reducible rfl
          try simp only [Act.put, List.setIfInBounds_toArray, List.set_cons_zero, List.set_cons_succ]
          refine ytake_10 (v := ?vv9) (by kernel_rfl) (by kernel_rfl) (by kernel_rfl) (fun _ _ _ h => h) (Or.inl ⟨by rfl, ?hy9⟩) ⟨k1, k3⟩ ?_
          case hy9 =>
            intro wX hSw
            go_simp
            try with_reducible rfl
          try simp only [Act.put, List.setIfInBounds_toArray, List.set_cons_zero, List.set_cons_succ]
          refine ytake_11 (v := ?vv10) (by kernel_rfl) (by kernel_rfl) (by kernel_rfl) (fun _ _ _ h => h) (Or.inl ⟨by rfl, ?hy10⟩) ⟨k1, k3⟩ ?_
          case hy10 =>
            intro wX hSw
            go_simp
            try with_reducible rfl
          try simp only [Act.put, List.setIfInBounds_toArray, List.set_cons_zero, List.set_cons_succ]
          refine ytake_12 (v := ?vv11) (by kernel_rfl) (by kernel_rfl) (by kernel_rfl) (fun _ _ _ h => h) (Or.inl ⟨by rfl, ?hy11⟩) ⟨k1, k3⟩ ?_
          case hy11 =>
            intro wX hSw
            go_simp
            try with_reducible rfl
          try simp only [Act.put, List.setIfInBounds_toArray, List.set_cons_zero, List.set_cons_succ]
          refine ytake_13 (v := ?vv12) (by kernel_rfl) (by kernel_rfl) (by kernel_rfl) (fun _ _ _ h => h) (Or.inl ⟨by rfl, ?hy12⟩) ⟨k1, k3⟩ ?_
          case hy12 =>
            intro wX hSw
            have hcc := hSw.1
            go_simp
            try with_reducible rfl
          try simp only [Act.put, List.setIfInBounds_toArray, List.set_cons_zero, List.set_cons_succ]
          refine ytake_14 (v := ?vv13) (by kernel_rfl) (by kernel_rfl) (by kernel_rfl) (fun _ _ _ h => h) (Or.inl ⟨by rfl, ?hy13⟩) ⟨k1, k3⟩ ?_
          case hy13 =>
            intro wX hSw
            go_simp
            try with_reducible rfl
          try simp only [Act.put, List.setIfInBounds_toArray, List.set_cons_zero, List.set_cons_succ]
          refine ytake_15 (v := ?vv14) (by kernel_rfl) (by kernel_rfl) (by kernel_rfl) (fun _ _ _ h => h) (Or.inl ⟨by rfl, ?hy14⟩) ⟨k1, k3⟩ ?_
          case hy14 =>
            intro wX hSw
            go_simp
            try with_reducible rfl
          try simp only [Act.put, List.setIfInBounds_toArray, List.set_cons_zero, List.set_cons_succ]
          refine ytake_16 (v := ?vv15) (by kernel_rfl) (by kernel_rfl) (by kernel_rfl) (fun _ _ _ h => h) (Or.inl ⟨by rfl, ?hy15⟩) ⟨k1, k3⟩ ?_
          case hy15 =>
            intro wX hSw
            go_simp
            try with_reducible rfl
          try simp only [Act.put, List.setIfInBounds_toArray, List.set_cons_zero, List.set_cons_succ]
          refine ytake_17 (v := ?vv16) (by kernel_rfl) (by kernel_rfl) (by kernel_rfl) (fun _ _ _ h => h) (Or.inl ⟨by rfl, ?hy16⟩) ⟨k1, k3⟩ ?_
          case hy16 =>
            intro wX hSw
            have hcc := hSw.2
            go_simp
            try with_reducible rfl
          try simp only [Act.put, List.setIfInBounds_toArray, List.set_cons_zero, List.set_cons_succ]
          refine ytake_18 (v := ?vv17) (by kernel_rfl) (by kernel_rfl) (by kernel_rfl) (fun _ _ _ h => h) (Or.inl ⟨by rfl, ?hy17⟩) ⟨k1, k3⟩ ?_
          case hy17 =>
            intro wX hSw
            go_simp
            try with_reducible rfl
          try simp only [Act.put, List.setIfInBounds_toArray, List.set_cons_zero, List.set_cons_succ]
          refine yready_4 (by kernel_rfl) ?_
          intro KQ hK
          rw [if_pos (by rfl)]
          go_simp
          refine hK.out _ _ ⟨k1, k3⟩ (fun _ => ?_)
          clear hK KQ
          try simp only [Act.put, List.setIfInBounds_toArray, List.set_cons_zero, List.set_cons_succ]
          refine ytake_9 (v := ?vv18) (by kernel_rfl) (by kernel_rfl) (by kernel_rfl) (fun _ _ _ h => h) (Or.inl ⟨by rfl, ?hy18⟩) ⟨k1, k3⟩ ?_
          case hy18 =>
            intro wX hSw
            go_simp
            try with_reducible rfl
          try simp only [Act.put, List.setIfInBounds_toArray, List.set_cons_zero, List.set_cons_succ]
          refine yready_19 (by kernel_rfl) ?_
          intro KQ hK
          rw [if_pos (by rfl)]
          refine wp_call_run _ (.tmp 32) (.tmp 41) 50 50 rfl rfl rfl HR.out ?_
          refine hK.out _ _ ⟨g1, g3⟩ (fun _ => ?_)
          clear hK KQ
          try simp only [Act.put, List.setIfInBounds_toArray, List.set_cons_zero, List.set_cons_succ]
          refine ytake_20 (v := ?vv19) (by kernel_rfl) (by kernel_rfl) (by kernel_rfl) (fun _ _ _ h => h) (Or.inl ⟨by rfl, ?hy19⟩) ⟨g1, g3⟩ ?_
          case hy19 =>
            intro wX hSw
            go_simp
            try with_reducible rfl
          try simp only [Act.put, List.setIfInBounds_toArray, List.set_cons_zero, List.set_cons_succ]
          refine ytake_21 (v := ?vv20) (by kernel_rfl) (by kernel_rfl) (by kernel_rfl) (fun _ _ _ h => h) (Or.inl ⟨by rfl, ?hy20⟩) ⟨g1, g3⟩ ?_
          case hy20 =>
            intro wX hSw
            go_simp
            try with_reducible rfl
          try simp only [Act.put, List.setIfInBounds_toArray, List.set_cons_zero, List.set_cons_succ]
          refine yready_22 (by kernel_rfl) ?_
          intro KQ hK
          rw [if_pos (by rfl)]
          go_simp
          refine hK.out _ _ ⟨by go_simp, by go_simp⟩ (fun _ => ?_)
          clear hK KQ
          try simp only [Act.put, List.setIfInBounds_toArray, List.set_cons_zero, List.set_cons_succ]
          refine wpAnyH_done (by kernel_rfl) ?_ _
          go_wp2_with fail
          go_ret
          refine ⟨rfl, DiskTo.behind HT.out ?_⟩
          exact sync_done HD1.out HM.out HNV.out HBL.out HFIN.out (T' := D.with (D.L.set p { m.pf with dur := m.vis })) (by show D.L.set p _ = _; rw [HD.out.eqL]) rfl rfl rfl

end Go.Proofs.Ytecgagfpckaieaa
