/-
  Package disk: Rename.
-/
import Derived.Test.YtecgagfpckaieaaDRename
namespace Go.Proofs.Ytecgagfpckaieaa
open Go.RowKit

set_option maxRecDepth 100000 in
set_option maxHeartbeats 8000000 in
theorem rename_is {F : Nat → Prop} {D : PD} (g : Nat) (s b : ByteArray) (w : World) (h : IsDisk w g F D) (hs : s.size ≤ maxLen) (hsb : b.size ≤ maxLen) (hc : D.calls ≤ 1000000) :
    Calls Try.prog 50 #[.pointer (some ⟨g, 0, none⟩), .string s, .string b] w fun e w' => e = .returned (.int .i64 (dRename D s b).2) ∧ DiskTo g F (dRename D s b).1 w w' := by
  cases hnb0 : okName b with
  | false =>
    have hr : dRename D s b = (D, 1) := by rw [dRename, if_pos hnb0]
    rw [hr]
    have HD := Lib.hid h
    clear hr h
    go_enter Try.func50, Try.ntmps50
    go_wp2_with (go_at_call 39; refine (isName_is false _ _ hsb hnb0).mono ?_; rintro e w' ⟨rfl, rfl⟩)
    go_ret
    exact ⟨rfl, DiskTo.same HD.out⟩
  | true =>
  have hren : dRename D s b = dOpen D s fun f => (D.with (putL (D.L.take (D.pos s) ++ D.L.drop (D.pos s + 1)) { f with nm := b }), 0) := by rw [dRename, if_neg (by rw [hnb0]; decide)]
  obtain ⟨vL, l, ms, h⟩ := h
  have HD := Lib.hid h
  cases hn : okName s with
  | false =>
    have hr : dRename D s b = (D, 1) := by rw [hren, dOpen_no hn]
    rw [hr]
    clear hr h hren
    go_enter Try.func50, Try.ntmps50
    go_wp2_with (first | (go_at_call 39; refine (isName_is true _ _ hsb hnb0).mono ?_; rintro e w' ⟨rfl, rfl⟩) | (go_at_call 41; refine (open_no _ _ _ hs hn).mono ?_; rintro e w' ⟨rfl, rfl⟩))
    go_ret
    exact ⟨rfl, DiskTo.same ⟨_, _, _, HD.out⟩⟩
  | true =>
    cases hoff : D.tick.off with
    | true =>
      have hr : dRename D s b = (D.tick, 9) := by rw [hren, dOpen_off hn hoff]
      rw [hr]
      clear hr h hren
      go_enter Try.func50, Try.ntmps50
      go_wp2_with (first | (go_at_call 39; refine (isName_is true _ _ hsb hnb0).mono ?_; rintro e w' ⟨rfl, rfl⟩) | (go_at_call 41; refine (open_off _ _ _ HD.out hs hn hc hoff).mono ?_; rintro e w' ⟨rfl, hto⟩))
      go_ret
      exact ⟨rfl, hto.done HD.out.here⟩
    | false =>
      cases hh : D.has s with
      | false =>
        have hr : dRename D s b = (D.tick, 3) := by rw [hren, dOpen_none hn hoff hh]
        rw [hr]
        clear hr h hren
        go_enter Try.func50, Try.ntmps50
        go_wp2_with (first | (go_at_call 39; refine (isName_is true _ _ hsb hnb0).mono ?_; rintro e w' ⟨rfl, rfl⟩) | (go_at_call 41; refine (open_on false _ _ _ _ HD.out hs hn hc hoff hh rfl).mono ?_; rintro e w' ⟨he, hto⟩; simp only [Bool.false_eq_true, if_false] at he; subst he))
        go_ret
        exact ⟨rfl, hto.done HD.out.here⟩
      | true =>
        obtain ⟨m, hm, hmn, hvis, hpl⟩ := h.there hh
        have hfa := h.fileAt hh hm
        have hfew := h.few
        obtain ⟨p, hp⟩ : ∃ p, D.pos s = p := ⟨_, rfl⟩
        rw [hp] at hm hpl
        obtain ⟨gr, cap, hvL, hnc, hcm, hne, hF, hnb⟩ := h.rowAt (by omega)
        have hmem : m ∈ ms := List.mem_of_getElem? hm
        have hr : dRename D s b = (D.with (putL (D.L.take p ++ D.L.drop (p + 1)) { m.pf with nm := b }), 0) := by rw [hren, dOpen_yes hn hoff hfa, hp]
        rw [hr]
        obtain ⟨n, hnL⟩ : ∃ n, ms.length = n + 1 := ⟨ms.length - 1, by omega⟩
        rw [hnL] at hvL hnc
        obtain ⟨AV, nV, cV, AD, nD, cD, hvV, hdV⟩ := (h.els m hmem).vals
        have HNL := Lib.hid hnL
        have HM := Lib.hid hm
        have HMM := Lib.hid hmem
        have HP := Lib.hid hp
        have HH := Lib.hid hh
        have HVV := Lib.hid hvV
        have HDV := Lib.hid hdV
        have hpn : p ≤ n := by omega
        have hn15 : n ≤ 15 := by omega
        subst hvL
        have hbz := okName_size hnb0
        clear hr h hfa hvis hm hmem hmn hp hh hren hnb hvV hdV hnL hpl hfew
        have i0 : (0 : Int) ≤ (p : Int) := by omega
        have i1 : (p : Int) < (n : Int) + 1 := by omega
        go_enter Try.func50, Try.ntmps50
        go_wp2_with (go_at_call 39; refine (isName_is true _ _ hsb hnb0).mono ?_; rintro e w' ⟨rfl, rfl⟩)
        refine (open_on true p _ _ _ HD.out hs hn hc hoff HH.out HP.out).mono ?_
        rintro e w1 ⟨he, hto⟩
        simp only [if_true] at he
        subst he
        have HT := Lib.hid (hto.touch HD.out.here)
        obtain ⟨l1, hd1, _⟩ := hto
        have k0 := hd1.c0
        have kf := hd1.file rfl HM.out
        have k1 := kf.a0
        have k2 := kf.a1
        have k3 := kf.a2
        have k4 := kf.a3
        rw [HVV.out] at k2
        rw [HDV.out] at k3
        have HD1 := Lib.hid hd1
        clear hd1 kf
        obtain ⟨gb, hgb⟩ : ∃ gb, gb = w1.heap.size := ⟨_, rfl⟩
        obtain ⟨w2, hw2⟩ : ∃ w2, w2 = w1.alloc (.cells #[.string m.nm, .slice AV nV cV, .slice AD nD cD, .int .i64 m.same] 80) := ⟨_, rfl⟩
        have hbk2 : w2.heap[gb]? = some (.cells #[.string m.nm, .slice AV nV cV, .slice AD nD cD, .int .i64 m.same] 80 (0, 0)) := by rw [hw2, hgb]; exact heap_alloc_new w1 _
        have hb2 : Below w1.heap.size w1 w2 := by rw [hw2]; exact (Below.refl _ _).alloc (Nat.le_refl _) _
        have hbgF : ¬ F gb := fun hf => by have := HD1.out.lt _ hf; omega
        have hgb2 : gb < w2.heap.size := (Array.getElem?_eq_some_iff.1 hbk2).1
        have HW2 := Lib.hid hw2
        have HBK2 := Lib.hid hbk2
        have HB2 := Lib.hid hb2
        have HGB := Lib.hid hgb
        have HGF := Lib.hid hbgF
        go_upto_region 7 with fail
        rw [← HW2.out, ← hgb]
        clear hgb hw2 hb2 hbk2 hbgF k0 k1 k2 k3 k4
        go_wp2_with fail
        refine (clone_any b _ (by omega)).mono ?_
        rintro e w3 ⟨rfl, hb3⟩
        have hbk3 : w3.heap[gb]? = _ := (hb3.block gb hgb2).trans HBK2.out
        have q0 : w3.cell? ⟨gb, 0, none⟩ = some (.string m.nm) := cell_of_row w3 gb 0 _ _ _ hbk3
        have q1 : w3.frozen? ⟨gb, 0, none⟩ = false := frozen_of_row w3 gb 0 _ _ hbk3
        obtain ⟨w4, hw4⟩ : ∃ w4, w4 = w3.setCell ⟨gb, 0, none⟩ (.string b) := ⟨_, rfl⟩
        have hbk4 : w4.heap[gb]? = some (.cells #[.string b, .slice AV nV cV, .slice AD nD cD, .int .i64 m.same] 80 (0, 0)) := by rw [hw4]; exact heap_setCell_same w3 gb 0 _ _ _ hbk3
        have hT4 : Touch F w1 w4 := by
          rw [hw4]
          exact ((Touch.of HB2.out).then hb3).set (.inr (by rw [HGB.out]; exact Nat.le_refl _)) _
        have hk4 : ∀ k, F k → w4.heap[k]? = w1.heap[k]? := fun k hk => by
          have hkl := HD1.out.lt k hk
          have hkg : k ≠ gb := fun e => HGF.out (e ▸ hk)
          rw [hw4, heap_setCell_other w3 ⟨gb, 0, none⟩ k _ hkg, hb3.block k (Nat.lt_of_lt_of_le hkl HB2.out.size)]
          exact HB2.out.block k hkl
        have hd4 := HD1.out.kept hT4.size hk4
        have HW4 := Lib.hid hw4
        have HBK4 := Lib.hid hbk4
        have HT4 := Lib.hid hT4
        have HD4 := Lib.hid hd4
        clear hbk3 hbk4 hT4 hk4 hd4 hb3 hw4
        go_upto_region 8 with fail
        rw [← HW4.out]
        clear q0 q1
        have k0 := HD4.out.c0
        have hrow := HD4.out.row
        rw [HNL.out] at hrow
        have e1 : IntKind.i64.wrap ((p : Int) + 1) = (p : Int) + 1 := IntWalk.i64_in _ (by omega)
        go_wp2_with fail
        refine (delete_any 0 gr cap n p (cellsD ms) _ hrow hpn (by omega) (cells_one HD4.out.els)).mono ?_
        rintro e w5 ⟨rfl, hrow5, hg5⟩
        have hgl : g < w4.heap.size := HD4.out.lt _ HD4.out.here
        have k5 : w5.cell? ⟨g, 0, none⟩ = some (.slice (some ⟨gr, 0, none⟩) (n + 1) cap) := (World.cell?_of_block (a := ⟨g, 0, none⟩) (hg5.block g hgl (by simp; omega))).trans k0
        have f5 : w5.frozen? ⟨g, 0, none⟩ = false := (World.frozen?_of_block (a := ⟨g, 0, none⟩) (hg5.block g hgl (by simp; omega))).trans (HD4.out.fz 0)
        have hsub := erase_sub ms p
        have hlen : (ms.take p ++ ms.drop (p + 1)).length = n := by
          have := HNL.out
          simp only [List.length_append, List.length_take, List.length_drop]
          omega
        obtain ⟨w6, hw6⟩ : ∃ w6, w6 = w5.setCell ⟨g, 0, none⟩ (.slice (some ⟨gr, 0, none⟩) n cap) := ⟨_, rfl⟩
        have hd6 : DiskIn w6 g F (D.with (D.L.take p ++ D.L.drop (p + 1))) (.slice (some ⟨gr, 0, none⟩) n cap) l1 (ms.take p ++ ms.drop (p + 1)) := by
          rw [hw6]
          refine HD4.out.rowIn (T' := D.with (D.L.take p ++ D.L.drop (p + 1))) (ms2 := ms.take p ++ ms.drop (p + 1)) hg5 ?_ rfl hsub ?_ ?_ rfl rfl rfl
          · rw [hlen, ← cellsD_del]; exact hrow5
          · rw [map_erase, ← HD.out.eqL]; rfl
          · show RiseN (namesF (D.L.take p ++ D.L.drop (p + 1)))
            rw [names_erase]
            exact rise_erase HD.out.rise p
        have hblk : ∀ k, k ≠ g → k ≠ gr → k < w4.heap.size → w6.heap[k]? = w4.heap[k]? := fun k h1 h2 h3 => by
          rw [hw6, heap_setCell_other w5 ⟨g, 0, none⟩ k _ h1]
          exact hg5.block k h3 (fun e => h2 (by cases e; rfl))
        have hgbl4 : gb < w4.heap.size := (Array.getElem?_eq_some_iff.1 HBK4.out).1
        have hbk6 : w6.heap[gb]? = _ := (hblk gb (fun e => HGF.out (e ▸ HD1.out.here)) (fun e => HGF.out (e ▸ hF)) hgbl4).trans HBK4.out
        have hmF : ∀ k ∈ m.blks, F k ∧ k ≠ g ∧ k ≠ gr := fun k hk => ⟨HD4.out.elF HMM.out hk, (HD4.out.apart HMM.out hk).1, fun e => (HD4.out.apart HMM.out hk).2 (by rw [e]; rfl)⟩
        have hf6 : FileIn w6 { m with nm := b } := by
          have h0 := (HD4.out.els m HMM.out).kept (w' := w6) fun k hk => hblk k (hmF k hk).2.1 (hmF k hk).2.2 (HD4.out.lt _ (hmF k hk).1)
          exact ⟨h0.rV, h0.rD, h0.s1, h0.s2, h0.s3, h0.b1, h0.b2, h0.z1, h0.z2, hnb0⟩
        have hnd6 : (({ m with nm := b } : MF).blks ++ (ms.take p ++ ms.drop (p + 1)).flatMap MF.blks).Nodup := by
          have h1 : ms.Perm (m :: (ms.take p ++ ms.drop (p + 1))) := by
            have h2 := List.take_append_drop p ms
            have hi := (List.getElem?_eq_some_iff.1 HM.out).1
            have h3 : ms.drop p = m :: ms.drop (p + 1) := by
              rw [List.drop_eq_getElem_cons hi]
              congr 1
              exact (List.getElem?_eq_some_iff.1 HM.out).2
            rw [h3] at h2
            have h4 : (ms.take p ++ m :: ms.drop (p + 1)).Perm (m :: (ms.take p ++ ms.drop (p + 1))) := List.perm_middle
            rwa [h2] at h4
          have h5 := h1.flatMap_right MF.blks
          rw [List.flatMap_cons] at h5
          exact h5.nodup_iff.1 HD4.out.ndF
        have hput := put_is (m := { m with nm := b }) g w6 hd6 (by omega) hf6 (fun k hk => ⟨(hmF k hk).1, (hmF k hk).2.1, fun e => (hmF k hk).2.2 (by cases e; rfl)⟩) hnd6
        have hT6 : Touch F w4 w6 := by
          rw [hw6]
          exact (Touch.grown (F := F) hg5 fun k hk => by cases hk; exact hF).set (.inl HD4.out.here) _
        have hv1 : ({ m with nm := b } : MF).vV = .slice AV nV cV := HVV.out
        have hv2 : ({ m with nm := b } : MF).dV = .slice AD nD cD := HDV.out
        rw [hv1, hv2] at hput
        have q0 : w6.cell? ⟨gb, 0, none⟩ = some (.string b) := cell_of_row w6 gb 0 _ _ _ hbk6
        have q1 : w6.cell? ⟨gb, 1, none⟩ = some (.slice AV nV cV) := cell_of_row w6 gb 1 _ _ _ hbk6
        have q2 : w6.cell? ⟨gb, 2, none⟩ = some (.slice AD nD cD) := cell_of_row w6 gb 2 _ _ _ hbk6
        have q3 : w6.cell? ⟨gb, 3, none⟩ = some (.int .i64 m.same) := cell_of_row w6 gb 3 _ _ _ hbk6
        have HPT := Lib.hid hput
        have HW6 := Lib.hid hw6
        have HTW := Lib.hid ((HT.out.trans (HT4.out.trans hT6 (fun k hk => .inl hk)) (fun k hk => .inl hk)) : Touch F w w6)
        clear hput hw6 hd6 hblk hbk6 hmF hf6 hnd6 hT6 hrow hrow5 hg5 hsub hlen hv1 hv2 e1 k0
        go_upto_region 9 with fail
        rw [← HW6.out]
        clear k5 f5
        go_wp2_with fail
        refine HPT.out.mono ?_
        rintro e w7 ⟨rfl, hto7⟩
        go_wp2_with fail
        go_ret
        exact ⟨rfl, DiskTo.behind HTW.out (hto7 _ rfl rfl rfl rfl)⟩

end Go.Proofs.Ytecgagfpckaieaa
