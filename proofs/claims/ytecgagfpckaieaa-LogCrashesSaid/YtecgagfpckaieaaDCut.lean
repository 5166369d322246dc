/-
  Package disk: Cut.
-/
import Derived.Test.YtecgagfpckaieaaDFile
namespace Go.Proofs.Ytecgagfpckaieaa
open Go.RowKit

set_option maxHeartbeats 4000000 in
theorem cut_is {F : Nat → Prop} {D : PD} (g : Nat) (s : ByteArray) (n : Int) (w : World) (h : IsDisk w g F D) (hs : s.size ≤ maxLen) (hc : D.calls ≤ 1000000) :
    Calls Try.prog 44 #[.pointer (some ⟨g, 0, none⟩), .string s, .int .i64 n] w fun e w' => e = .returned (.int .i64 (dCut D s n).2) ∧ DiskTo g F (dCut D s n).1 w w' := by
  by_cases hn0 : n < 0
  · have hr : dCut D s n = (D, 1) := by rw [dCut, if_pos hn0]
    rw [hr]
    have HD := Lib.hid h
    clear hr h
    go_enter Try.func44, Try.ntmps44
    go_wp2
    go_ret
    exact ⟨rfl, DiskTo.same HD.out⟩
  have hcut : dCut D s n = dOpen D s fun f => if (f.vis.length : Int) < n then (D.tick, 1) else (D.with (D.L.set (D.pos s) { f with vis := f.vis.take n.toNat }), 0) := by rw [dCut, if_neg hn0]
  obtain ⟨vL, l, ms, h⟩ := h
  have HD := Lib.hid h
  cases hn : okName s with
  | false =>
    have hr : dCut D s n = (D, 1) := by rw [hcut]; exact dOpen_no hn
    rw [hr]
    clear hr h hcut
    go_enter Try.func44, Try.ntmps44
    go_wp2_with (go_at_call 41; refine (open_no _ _ _ hs hn).mono ?_; rintro e w' ⟨rfl, rfl⟩)
    go_ret
    exact ⟨rfl, DiskTo.same ⟨_, _, _, HD.out⟩⟩
  | true =>
    cases hoff : D.tick.off with
    | true =>
      have hr : dCut D s n = (D.tick, 9) := by rw [hcut]; exact dOpen_off hn hoff
      rw [hr]
      clear hr h hcut
      go_enter Try.func44, Try.ntmps44
      go_wp2_with (go_at_call 41; refine (open_off _ _ _ HD.out hs hn hc hoff).mono ?_; rintro e w' ⟨rfl, hto⟩)
      go_ret
      exact ⟨rfl, hto.done HD.out.here⟩
    | false =>
      cases hh : D.has s with
      | false =>
        have hr : dCut D s n = (D.tick, 3) := by rw [hcut]; exact dOpen_none hn hoff hh
        rw [hr]
        clear hr h hcut
        go_enter Try.func44, Try.ntmps44
        go_wp2_with (go_at_call 41; refine (open_on false _ _ _ _ HD.out hs hn hc hoff hh rfl).mono ?_; rintro e w' ⟨he, hto⟩; simp only [Bool.false_eq_true, if_false] at he; subst he)
        go_ret
        exact ⟨rfl, hto.done HD.out.here⟩
      | true =>
        obtain ⟨m, hm, hmn, hvis, hpl⟩ := h.there hh
        have hfa := h.fileAt hh hm
        have hfew := h.few
        obtain ⟨p, hp⟩ : ∃ p, D.pos s = p := ⟨_, rfl⟩
        rw [hp] at hm hpl
        obtain ⟨gr, cap, hvL, hnc, hcm, hne, hF, hnb⟩ := h.rowAt (by omega)
        have hmem : m ∈ ms := List.mem_of_getElem? hm
        obtain ⟨nL, hnL⟩ : ∃ nL, ms.length = nL := ⟨_, rfl⟩
        rw [hnL] at hvL hnc hpl hfew
        have HVL := Lib.hid hvL
        have HNL := Lib.hid hnL
        have HM := Lib.hid hm
        have HMM := Lib.hid hmem
        have HP := Lib.hid hp
        have HH := Lib.hid hh
        have HFA := Lib.hid hfa
        have HCUT := Lib.hid hcut
        have HBL := Lib.hid hnb
        have hz1 := (h.els m hmem).z1
        have hs1 := (h.els m hmem).s1
        have hs2 := (h.els m hmem).s2
        obtain ⟨nV, hnV⟩ : ∃ nV, m.vis.length = nV := ⟨_, rfl⟩
        rw [hnV] at hz1 hs1
        have HNV := Lib.hid hnV
        subst hvL
        clear h hfa hvis hm hmem hmn hp hh hcut hnb hnV hnL
        have i0 : (0 : Int) ≤ (p : Int) := by omega
        have i1 : (p : Int) < (nL : Int) := by omega
        by_cases hlt : (nV : Int) < n
        · have hr : dCut D s n = (D.tick, 1) := by
            rw [HCUT.out, dOpen_yes hn hoff HFA.out, if_pos (by show (m.vis.length : Int) < n; rw [HNV.out]; exact hlt)]
          rw [hr]
          clear hr
          go_enter Try.func44, Try.ntmps44
          go_wp2_with fail
          refine (open_on true p _ _ _ HD.out hs hn hc hoff HH.out HP.out).mono ?_
          rintro e w1 ⟨he, hto⟩
          simp only [if_true] at he
          subst he
          have HTO := Lib.hid hto
          obtain ⟨l1, hd1, _⟩ := hto
          have k0 := hd1.c0
          have k1 := (hd1.file rfl HM.out).a1
          obtain ⟨AV, cV, hvV, hcV, hmV, _⟩ := rd_own (hd1.els m HMM.out).rV
          rw [HNV.out] at hvV
          rw [hvV] at k1
          clear hvV hd1
          go_wp2_with fail
          go_ret
          exact ⟨rfl, HTO.out.done HD.out.here⟩
        · obtain ⟨q, hq⟩ : ∃ q : Nat, n = (q : Int) := ⟨n.toNat, by omega⟩
          subst hq
          have hqn : q ≤ nV := by omega
          have hr : dCut D s (q : Int) = (D.with (D.L.set p { m.pf with vis := m.vis.take q }), 0) := by
            rw [HCUT.out, dOpen_yes hn hoff HFA.out, if_neg (by show ¬ ((m.vis.length : Int) < (q : Int)); rw [HNV.out]; exact hlt), HP.out, Int.toNat_natCast]
            rfl
          rw [hr]
          clear hr
          have hmin : min (m.same : Int) (q : Int) = ((min m.same q : Nat) : Int) := by omega
          obtain ⟨mq, hmq⟩ : ∃ mq, mq = min m.same q := ⟨_, rfl⟩
          have HMIN : Hid (min (m.same : Int) (q : Int) = (mq : Int)) := by show _ = _; rw [hmq]; exact hmin
          have HMQ := Lib.hid hmq
          clear hmin hmq
          have j1 : ¬ ((nV : Int) < (q : Int)) := hlt
          clear hlt
          go_enter Try.func44, Try.ntmps44
          go_wp2_with fail
          refine (open_on true p _ _ _ HD.out hs hn hc hoff HH.out HP.out).mono ?_
          rintro e w1 ⟨he, hto⟩
          simp only [if_true] at he
          subst he
          have HT := Lib.hid (hto.touch HD.out.here)
          obtain ⟨l1, hd1, _⟩ := hto
          have HD1 := Lib.hid hd1
          have k0 := hd1.c0
          have kf := hd1.file rfl HM.out
          have k1 := kf.a1
          have k3 := kf.a3
          have f1 := hd1.rowfz rfl (p * 4 + 1)
          have f3 := hd1.rowfz rfl (p * 4 + 3)
          obtain ⟨AV, cV, hvV, hcV, hmV, _⟩ := rd_own (hd1.els m HMM.out).rV
          rw [HNV.out] at hvV hcV
          rw [hvV] at k1
          have HVV := Lib.hid hvV
          clear kf hvV hd1
          unfold maxLen at hmV hcm
          have i2 : (0 : Int) ≤ (q : Int) := by omega
          have i3 : (q : Int) ≤ (cV : Int) := by omega
          go_wp2_with fail
          go_ret
          refine ⟨rfl, DiskTo.behind HT.out ?_⟩
          have hfi := HD1.out.els m HMM.out
          have hrow := HD1.out.row
          rw [HNL.out] at hrow
          have hm' : ({ m with vis := m.vis.take q, vV := .slice AV q cV, same := mq } : MF).blks = m.blks := by
            show (Value.slice AV q cV).ownBlock.toList ++ m.dV.ownBlock.toList = m.vV.ownBlock.toList ++ m.dV.ownBlock.toList
            rw [HVV.out]
            cases AV <;> rfl
          have s1 := (hrow.stored (p * 4 + 1) (.slice AV q cV)).1
          have s3 := (s1.stored (p * 4 + 3) (.int .i64 (mq : Int))).1
          have hset : ((cellsD ms).set (p * 4 + 1) (.slice AV q cV)).set (p * 4 + 3) (.int .i64 (mq : Int)) = cellsD (ms.set p { m with vis := m.vis.take q, vV := .slice AV q cV, same := mq }) := by
            rw [← cellsD_set_at HM.out { m with vis := m.vis.take q, vV := .slice AV q cV, same := mq } rfl]
            congr 1
            exact (set_same (by rw [List.getElem?_set_ne (by omega)]; exact cellsD_at HM.out (j := 2) rfl)).symm
          rw [hset] at s3
          have ht : Touch (fun k => k = gr ∨ k ∈ m.blks) w1 ((w1.setCell ⟨gr, p * 4 + 1, none⟩ (.slice AV q cV)).setCell ⟨gr, p * 4 + 3, none⟩ (.int .i64 (mq : Int))) := ((Touch.refl _ _).set (.inl (.inl rfl)) _).set (.inl (.inl rfl)) _
          have hfar : ∀ k ∈ m.blks, ((w1.setCell ⟨gr, p * 4 + 1, none⟩ (.slice AV q cV)).setCell ⟨gr, p * 4 + 3, none⟩ (.int .i64 (mq : Int))).heap[k]? = w1.heap[k]? := fun k hk => by
            have hkg : k ≠ gr := fun e => HBL.out m HMM.out (e ▸ hk)
            rw [heap_setCell_other _ ⟨gr, p * 4 + 3, none⟩ k _ hkg, heap_setCell_other _ ⟨gr, p * 4 + 1, none⟩ k _ hkg]
          have hk := hfi.kept hfar
          have hrV : ((w1.setCell ⟨gr, p * 4 + 1, none⟩ (.slice AV q cV)).setCell ⟨gr, p * 4 + 3, none⟩ (.int .i64 (mq : Int))).ownsRow 0 5 1 (.slice AV nV cV) nV (u8s m.vis) := by
            have := hk.rV
            rwa [HVV.out, HNV.out] at this
          rw [HMIN.out]
          have hml : mq ≤ q := by rw [HMQ.out]; exact Nat.min_le_right _ _
          have hml2 : mq ≤ m.same := by rw [HMQ.out]; exact Nat.min_le_left _ _
          have htl : (m.vis.take q).length = q := by rw [List.length_take, HNV.out]; omega
          refine HD1.out.fileTo (T' := D.with (D.L.set p { m.pf with vis := m.vis.take q })) HM.out (m' := { m with vis := m.vis.take q, vV := .slice AV q cV, same := mq }) rfl ht s3 ?_ (fun k hk => .inl (by rw [hm'] at hk; exact hk)) (by rw [hm']; exact blks_nd HD1.out.ndF HMM.out) ?_ rfl rfl rfl
          · exact
              { rV := by
                  have h0 := row_first hrV hqn
                  show World.ownsRow _ 0 5 1 (.slice AV q cV) (m.vis.take q).length (u8s (m.vis.take q))
                  rw [htl, show u8s (m.vis.take q) = (u8s m.vis).take q by simp [u8s, List.map_take]]
                  exact h0
                rD := hk.rD
                s1 := by show mq ≤ (m.vis.take q).length; omega
                s2 := by show mq ≤ m.dur.length; omega
                s3 := by
                  show (m.vis.take q).take mq = m.dur.take mq
                  rw [List.take_take, Nat.min_eq_left hml]
                  have h0 := congrArg (List.take mq) hk.s3
                  rwa [List.take_take, List.take_take, Nat.min_eq_left hml2] at h0
                b1 := hk.b1.take q
                b2 := hk.b2
                z1 := by show (m.vis.take q).length ≤ 1048576; omega
                z2 := hk.z2
                ok := hk.ok }
          · show D.L.set p _ = _
            rw [HD.out.eqL]
            rfl

end Go.Proofs.Ytecgagfpckaieaa
