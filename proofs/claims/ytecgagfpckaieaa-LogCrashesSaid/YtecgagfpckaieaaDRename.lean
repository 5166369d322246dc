/-
  Package disk: put, Rename.
-/
import Derived.Test.YtecgagfpckaieaaDAppend
namespace Go.Proofs.Ytecgagfpckaieaa
open Go.RowKit

def putL (L : List PF) (f : PF) : List PF := if hasN (namesF L) f.nm = true then L.set (posN (namesF L) f.nm) f else L.take (posN (namesF L) f.nm) ++ f :: L.drop (posN (namesF L) f.nm)
def dRename (D : PD) (a b : ByteArray) : PD × Int := if okName b = false then (D, 1) else dOpen D a fun f => (D.with (putL (D.L.take (D.pos a) ++ D.L.drop (D.pos a + 1)) { f with nm := b }), 0)

theorem flat_set {ms : List MF} {p : Nat} (hp : p < ms.length) {m : MF} (h : (m.blks ++ ms.flatMap MF.blks).Nodup) : ((ms.set p m).flatMap MF.blks).Nodup := by
  have e : ms.set p m = ms.take p ++ m :: ms.drop (p + 1) := by rw [List.set_eq_take_append_cons_drop, if_pos hp]
  have h1 : (ms.take p ++ m :: ms.drop (p + 1)).Perm (m :: (ms.take p ++ ms.drop (p + 1))) := List.perm_middle
  have h2 := h1.flatMap_right MF.blks
  rw [List.flatMap_cons] at h2
  rw [e]
  refine h2.nodup_iff.2 (h.sublist ((List.Sublist.refl _).append (flat_sub (erase_sub ms p))))

section
variable {w w1 w2 w4 w' w'' : World} {g : Nat} {F F1 F' : Nat → Prop} {D D' T T' : PD} {vL vL' v2 : Value} {l l' : Int} {ms ms' ms2 : List MF} {s : ByteArray} {m m' : MF} {i gx gr nL cap p : Nat} {f : PF}
/-- its row has turned within its block -/
theorem DiskIn.rowIn (h : DiskIn w1 g F T vL l ms) (hg : w1.grownBy w2 vL.ownBlock) (hrow : w2.ownsRow 0 80 4 v2 ms2.length (cellsD ms2)) (hv2 : v2.ownBlock = vL.ownBlock)
    (hsub : ms2.Sublist ms) (hL : T'.L = ms2.map MF.pf) (hr : RiseN (namesF T'.L)) (hc : T'.calls = T.calls) (hl : T'.left = T.left) (ho : T'.off = T.off) : DiskIn (w2.setCell ⟨g, 0, none⟩ v2) g F T' v2 l ms2 := by
  have hgl : g < w1.heap.size := h.lt _ h.here
  have hbg : w2.heap[g]? = w1.heap[g]? := hg.block g hgl (fun e => h.rowNe e.symm)
  have hvg : v2.ownBlock ≠ some g := by rw [hv2]; exact h.rowNe
  have hkeep : ∀ k, k ≠ g → (w2.setCell ⟨g, 0, none⟩ v2).heap[k]? = w2.heap[k]? := fun k hk => heap_setCell_other w2 ⟨g, 0, none⟩ k v2 hk
  have hsize : w1.heap.size ≤ (w2.setCell ⟨g, 0, none⟩ v2).heap.size := by simpa using hg.size
  have hblk : ∀ k ∈ dblks g v2 ms2, k ∈ dblks g vL ms := by
    intro k hk
    simp only [dblks, List.mem_cons, List.mem_append, List.mem_flatMap, Option.mem_toList] at hk ⊢
    rcases hk with hk | hk | ⟨x, hx, hk⟩
    · exact .inl hk
    · exact .inr (.inl (by rw [← hv2]; exact hk))
    · exact .inr (.inr ⟨x, hsub.subset hx, hk⟩)
  exact
    { blk := by rw [hc, ho]; exact heap_setCell_same _ g 0 _ _ _ (hbg.trans h.blk)
      row := own_kept hrow fun k hk _ => hkeep k (fun e => hvg (by rw [hk, e]))
      els := fun x hx => (h.els x (hsub.subset hx)).kept fun k hk => by
        obtain ⟨h1, h2⟩ := h.apart (hsub.subset hx) hk
        rw [hkeep k h1]
        exact hg.block k (h.lt _ (h.elF (hsub.subset hx) hk)) (fun e => h2 e.symm)
      nd := by
        refine h.nd.sublist ?_
        simp only [dblks]
        rw [hv2]
        exact ((List.Sublist.refl _).append (flat_sub hsub)).cons_cons g
      inF := fun k hk => h.inF k (hblk k hk)
      lt := fun k hk => Nat.lt_of_lt_of_le (h.lt k hk) hsize
      eqL := hL
      rise := hr
      few := Nat.le_trans hsub.length_le h.few
      okl := by rw [ho, hl]; exact h.okl
      lr := h.lr }

/-- another file stands in a file's place -/
theorem DiskIn.fileIn (h : DiskIn w1 g F T (.slice (some ⟨gr, 0, none⟩) nL cap) l ms) (hp : p < ms.length) (hf : FileIn w1 m) (hb : ∀ k ∈ m.blks, F k ∧ k ≠ g ∧ (Value.slice (some ⟨gr, 0, none⟩) nL cap).ownBlock ≠ some k) (hnd : (m.blks ++ ms.flatMap MF.blks).Nodup)
    (ht : Touch (fun k => k = gr) w1 w2) (hrow : w2.ownsRow 0 80 4 (.slice (some ⟨gr, 0, none⟩) nL cap) ms.length (cellsD (ms.set p m))) (hL : T'.L = (ms.map MF.pf).set p m.pf) (hr : RiseN (namesF T'.L)) (hc : T'.calls = T.calls) (hl : T'.left = T.left) (ho : T'.off = T.off) : DiskTo g F T' w1 w2 := by
  have hgr : F gr := h.rowF rfl
  have hne : gr ≠ g := fun e => h.rowNe (by rw [← e]; rfl)
  have hel : ∀ x ∈ ms.set p m, FileIn w1 x ∧ ∀ k ∈ x.blks, F k ∧ k ≠ g ∧ k ≠ gr := by
    intro x hx
    rcases List.mem_or_eq_of_mem_set hx with hx | rfl
    · exact ⟨h.els x hx, fun k hk => ⟨h.elF hx hk, (h.apart hx hk).1, fun e => (h.apart hx hk).2 (by rw [e]; rfl)⟩⟩
    · exact ⟨hf, fun k hk => ⟨(hb k hk).1, (hb k hk).2.1, fun e => (hb k hk).2.2 (by rw [e]; rfl)⟩⟩
  have htF : Touch F w1 w2 := ht.mono fun k hk => by rw [hk]; exact hgr
  refine DiskTo.make (vL' := .slice (some ⟨gr, 0, none⟩) nL cap) (l' := l) (ms' := ms.set p m) htF ?_ ?_ ?_ ?_ ?_ (by rw [hL, List.map_set]) hr (by rw [List.length_set]; exact h.few) (by rw [ho, hl]; exact h.okl) h.lr
  · rw [hc, ho]
    exact (ht.block g (h.lt _ h.here) (fun e => hne e.symm)).trans h.blk
  · rw [List.length_set]; exact hrow
  · intro x hx
    obtain ⟨h1, h2⟩ := hel x hx
    exact h1.kept fun k hk => ht.block k (h.lt _ (h2 k hk).1) (h2 k hk).2.2
  · simp only [dblks, List.nodup_cons, List.nodup_append, List.mem_append, List.mem_flatMap, Option.mem_toList, Value.ownBlock, Option.some.injEq]
    refine ⟨?_, by simp, flat_set hp hnd, ?_⟩
    · rintro (e | ⟨x, hx, hk⟩)
      · exact hne e
      · exact ((hel x hx).2 g hk).2.1 rfl
    · rintro a rfl b ⟨x, hx, hk⟩ rfl
      exact ((hel x hx).2 _ hk).2.2 rfl
  · intro k hk
    simp only [dblks, List.mem_cons, List.mem_append, List.mem_flatMap, Option.mem_toList, Value.ownBlock, Option.some.injEq] at hk
    rcases hk with rfl | rfl | ⟨x, hx, hk⟩
    · exact .inl h.here
    · exact .inl hgr
    · exact .inl ((hel x hx).2 k hk).1
end

theorem cellsD_all {ms : List MF} {i : Nat} (hi : i < ms.length) (m : MF) : ((((cellsD ms).set (i * 4) (.string m.nm)).set (i * 4 + 1) m.vV).set (i * 4 + 2) m.dV).set (i * 4 + 3) (.int .i64 m.same) = cellsD (ms.set i m) := by
  have e : cellsD ms = cellsD (ms.take i) ++ (ms[i].cells ++ cellsD (ms.drop (i + 1))) := by
    have h1 : ms = ms.take i ++ ms[i] :: ms.drop (i + 1) := by
      have h2 := List.take_append_drop i ms
      rw [List.drop_eq_getElem_cons hi] at h2
      exact h2.symm
    conv => lhs; rw [h1]
    rw [cellsD_append]
    rfl
  have hl : (cellsD (ms.take i)).length = i * 4 := by rw [cellsD_length, List.length_take]; omega
  rw [cellsD_set hi, cellsD_take, cellsD_drop, e]
  rw [List.set_append_right _ _ (by omega), List.set_append_right _ _ (by omega), List.set_append_right _ _ (by omega), List.set_append_right _ _ (by omega), hl]
  congr 1
  rw [show i * 4 - i * 4 = 0 by omega, show i * 4 + 1 - i * 4 = 1 by omega, show i * 4 + 2 - i * 4 = 2 by omega, show i * 4 + 3 - i * 4 = 3 by omega]
  simp [MF.cells]

set_option maxRecDepth 100000 in
set_option maxHeartbeats 8000000 in
theorem put_is {F : Nat → Prop} {D : PD} {vL : Value} {l : Int} {ms : List MF} {m : MF} (g : Nat) (w : World) (h : DiskIn w g F D vL l ms) (hfew : ms.length < 16) (hf : FileIn w m) (hb : ∀ k ∈ m.blks, F k ∧ k ≠ g ∧ vL.ownBlock ≠ some k) (hnd : (m.blks ++ ms.flatMap MF.blks).Nodup) :
    Calls Try.prog 59 #[.pointer (some ⟨g, 0, none⟩), .agg #[.string m.nm, m.vV, m.dV, .int .i64 m.same]] w fun e w' => e = .returned (.tuple #[]) ∧ ∀ T' : PD, T'.L = putL D.L m.pf → T'.calls = D.calls → T'.left = D.left → T'.off = D.off → DiskTo g F T' w w' := by
  obtain ⟨AV, nV, cV, AD, nD, cD, hvV, hdV⟩ := hf.vals
  obtain ⟨w1, hw1⟩ : ∃ w1, w1 = w.alloc (.cells #[.string m.nm, .slice AV nV cV, .slice AD nD cD, .int .i64 m.same] 80) := ⟨_, rfl⟩
  have hb1 : Below w.heap.size w w1 := by rw [hw1]; exact (Below.refl _ _).alloc (Nat.le_refl _) _
  obtain ⟨gb, hgb⟩ : ∃ gb, gb = w.heap.size := ⟨_, rfl⟩
  have hbx : ∀ o, w1.cell? ⟨gb, o, none⟩ = #[.string m.nm, .slice AV nV cV, .slice AD nD cD, .int .i64 m.same][o]? := fun o => by rw [hw1, hgb, World.cell?_alloc_at _ _ _ _ rfl]
  have hgl1 : gb < w1.heap.size := by rw [hw1, hgb]; simp
  have HBX := Lib.hid hbx
  have HB1 := Lib.hid hb1
  have HD1 := Lib.hid (h.below hb1)
  have HF1 := Lib.hid (hf.kept fun k hk => hb1.block k (h.lt _ (hb k hk).1))
  have HBB := Lib.hid hb
  have HND := Lib.hid hnd
  have HVV := Lib.hid hvV
  have HDV := Lib.hid hdV
  rw [hvV, hdV]
  obtain ⟨p, hp⟩ : ∃ p, D.pos m.nm = p := ⟨_, rfl⟩
  have HP := Lib.hid hp
  have HW := Lib.hid hw1
  clear h hf hb hnd hvV hdV hb1 hbx hp hw1
  cases hh : D.has m.nm with
  | true =>
    have hput : putL D.L m.pf = D.L.set p m.pf := by rw [putL, if_pos (show hasN (namesF D.L) m.pf.nm = true from hh)]; rw [show posN (namesF D.L) m.pf.nm = p from HP.out]
    have HPUT := Lib.hid hput
    have HH := Lib.hid hh
    clear hput hh
    go_enter Try.func59, Try.ntmps59
    go_upto_region 1 with fail
    rw [← HW.out, ← hgb]
    clear hgb
    have q0 := HBX.out 0
    simp only [List.getElem?_toArray, List.getElem?_cons_zero] at q0
    go_wp2_with fail
    refine (find_any g m.nm _ HD1.out).mono ?_
    rintro e w2 ⟨he, hb2⟩
    rw [HH.out, HP.out] at he
    subst he
    have hd2 := HD1.out.below hb2
    have hbx2 : ∀ o, w2.cell? ⟨gb, o, none⟩ = #[.string m.nm, .slice AV nV cV, .slice AD nD cD, .int .i64 m.same][o]? := fun o => (hb2.cell (p := ⟨gb, o, none⟩) hgl1).trans (HBX.out o)
    obtain ⟨m1, hm1, hmn1, _, hpl1⟩ := hd2.there HH.out
    rw [HP.out] at hm1 hpl1
    obtain ⟨gr, cap, hvL, hnc, hcm, hne, hF, hnb⟩ := hd2.rowAt (by omega)
    obtain ⟨nL, hnL⟩ : ∃ nL, ms.length = nL := ⟨_, rfl⟩
    rw [hnL] at hvL hnc
    have hpn : p < nL := by omega
    subst hvL
    have k0 := hd2.c0
    have kf := hd2.file rfl hm1
    obtain ⟨AV1, nV1, cV1, AD1, nD1, cD1, hvV1, hdV1⟩ := (hd2.els m1 (List.mem_of_getElem? hm1)).vals
    have k1 := kf.a0
    have k2 := kf.a1
    have k3 := kf.a2
    have k4 := kf.a3
    rw [hvV1] at k2
    rw [hdV1] at k3
    have z0 := hd2.rowfz rfl (p * 4)
    have z1 := hd2.rowfz rfl (p * 4 + 1)
    have z2 := hd2.rowfz rfl (p * 4 + 2)
    have z3 := hd2.rowfz rfl (p * 4 + 3)
    have b0 := hbx2 0
    have b1 := hbx2 1
    have b2 := hbx2 2
    have b3 := hbx2 3
    simp only [List.getElem?_toArray, List.getElem?_cons_zero, List.getElem?_cons_succ] at b0 b1 b2 b3
    have HD2 := Lib.hid hd2
    have HB2 := Lib.hid hb2
    have HNL := Lib.hid hnL
    have i0 : (0 : Int) ≤ (p : Int) := by omega
    have i1 : (p : Int) < (nL : Int) := by omega
    clear hd2 hb2 hbx2 hm1 kf hvV1 hdV1 hnL q0 hmn1 hnb
    go_wp2_with fail
    go_still_tail 7, (by kernel_rfl)
    change wpList _ _ _ _ _ w2.drew
    go_wp2_with fail
    refine bodyPost_ret (v := .tuple #[]) (results_none rfl _ _ _) rfl ⟨rfl, fun T' hL hc hl ho => ?_⟩
    rw [HPUT.out] at hL
    have hrow := HD2.out.row
    rw [HNL.out] at hrow
    have s0 := (hrow.stored (p * 4) (.string m.nm)).1
    have s1 := (s0.stored (p * 4 + 1) (.slice AV nV cV)).1
    have s2 := (s1.stored (p * 4 + 2) (.slice AD nD cD)).1
    have s3 := (s2.stored (p * 4 + 3) (.int .i64 (m.same : Int))).1
    have hall := cellsD_all (ms := ms) (i := p) (by rw [HNL.out]; exact hpn) m
    rw [HVV.out, HDV.out] at hall
    rw [hall] at s3
    have ht : Touch (fun k => k = gr) w2 (((((w2.setCell ⟨gr, p * 4, none⟩ (.string m.nm)).setCell ⟨gr, p * 4 + 1, none⟩ (.slice AV nV cV)).setCell ⟨gr, p * 4 + 2, none⟩ (.slice AD nD cD)).setCell ⟨gr, p * 4 + 3, none⟩ (.int .i64 (m.same : Int))).drew) := by
      have h0 := ((((Touch.refl (fun k => k = gr) w2).set (b := gr) (o := p * 4) (.inl rfl) (.string m.nm)).set (b := gr) (o := p * 4 + 1) (.inl rfl) (.slice AV nV cV)).set (b := gr) (o := p * 4 + 2) (.inl rfl) (.slice AD nD cD)).set (b := gr) (o := p * 4 + 3) (.inl rfl) (.int .i64 (m.same : Int))
      exact ⟨h0.os, h0.tape, h0.output, h0.size, h0.block⟩
    have hpp : (namesF D.L).set p m.nm = namesF D.L := set_same (by have := hasN_at (show hasN (namesF D.L) m.nm = true from HH.out); rwa [show posN (namesF D.L) m.nm = p from HP.out] at this)
    refine DiskTo.behind (Touch.of (HB1.out.trans (HB2.out.mono HB1.out.size))) (HD2.out.fileIn (T' := T') (by rw [HNL.out]; exact hpn) (HF1.out.kept fun k hk => HB2.out.block k (HD1.out.lt _ (HBB.out k hk).1)) HBB.out HND.out ht (by rw [HNL.out]; exact s3) (by rw [hL, HD2.out.eqL]) ?_ hc hl ho)
    rw [hL, namesF, List.map_set]
    show RiseN ((namesF D.L).set p m.nm)
    rw [hpp]
    exact HD2.out.rise
  | false =>
    have hput : putL D.L m.pf = D.L.take p ++ m.pf :: D.L.drop p := by rw [putL, if_neg (show ¬ hasN (namesF D.L) m.pf.nm = true by rw [show hasN (namesF D.L) m.pf.nm = false from hh]; decide)]; rw [show posN (namesF D.L) m.pf.nm = p from HP.out]
    have HPUT := Lib.hid hput
    have HH := Lib.hid hh
    clear hput hh
    go_enter Try.func59, Try.ntmps59
    go_upto_region 1 with fail
    rw [← HW.out, ← hgb]
    clear hgb
    have q0 := HBX.out 0
    simp only [List.getElem?_toArray, List.getElem?_cons_zero] at q0
    go_wp2_with fail
    refine (find_any g m.nm _ HD1.out).mono ?_
    rintro e w2 ⟨he, hb2⟩
    rw [HH.out, HP.out] at he
    subst he
    obtain ⟨w3, hw3⟩ : ∃ w3, w3 = w2.drew := ⟨_, rfl⟩
    have hb23 : Below w1.heap.size w1 w3 := by rw [hw3]; exact hb2.trans ((Below.refl w2.heap.size w2).drew.mono hb2.size)
    have hd3 := HD1.out.below hb23
    have hbx3 : ∀ o, w3.cell? ⟨gb, o, none⟩ = #[.string m.nm, .slice AV nV cV, .slice AD nD cD, .int .i64 m.same][o]? := fun o => (hb23.cell (p := ⟨gb, o, none⟩) hgl1).trans (HBX.out o)
    obtain ⟨AL, cL, hvL, hnc, hcm, _⟩ := hd3.slice rfl
    obtain ⟨nL, hnL⟩ : ∃ nL, ms.length = nL := ⟨_, rfl⟩
    rw [hnL] at hvL hnc
    subst hvL
    have k0 := hd3.c0
    have b0 := hbx3 0
    have b1 := hbx3 1
    have b2 := hbx3 2
    have b3 := hbx3 3
    simp only [List.getElem?_toArray, List.getElem?_cons_zero, List.getElem?_cons_succ] at b0 b1 b2 b3
    have HD3 := Lib.hid hd3
    have HB3 := Lib.hid hb23
    have HNL := Lib.hid hnL
    have HF3 := Lib.hid (HF1.out.kept fun k hk => hb23.block k (HD1.out.lt _ (HBB.out k hk).1))
    have HW3 := Lib.hid hw3
    clear hd3 hb2 hb23 hbx3 hnL q0 hw3
    go_wp2_with fail
    refine wp_region_held_drew (S := fun _ => True) (by kernel_rfl) trivial (fun _ => ?_)
    rw [← HW3.out]
    refine ytake_0 (v := ?vv3) (by kernel_rfl) (by kernel_rfl) (by kernel_rfl) (fun _ _ _ h => h) (Or.inl ⟨by rfl, ?hy3⟩) trivial ?_
    case hy3 =>
      intro wX hSw
      go_simp
      try with_reducible rfl
    try simp only [Act.put, List.setIfInBounds_toArray, List.set_cons_zero, List.set_cons_succ]
    refine ytake_1 (v := ?vv4) (by kernel_rfl) (by kernel_rfl) (by kernel_rfl) (fun _ _ _ h => h) (Or.inl ⟨by rfl, ?hy4⟩) trivial ?_
    case hy4 =>
      intro wX hSw
      go_simp
      try with_reducible rfl
    try simp only [Act.put, List.setIfInBounds_toArray, List.set_cons_zero, List.set_cons_succ]
    refine ytake_2 (v := ?vv5) (by kernel_rfl) (by kernel_rfl) (by kernel_rfl) (fun _ _ _ h => h) (Or.inl ⟨by rfl, ?hy5⟩) trivial ?_
    case hy5 =>
      intro wX hSw
      go_simp
      try with_reducible rfl
    try simp only [Act.put, List.setIfInBounds_toArray, List.set_cons_zero, List.set_cons_succ]
    refine ytake_3 (v := ?vv6) (by kernel_rfl) (by kernel_rfl) (by kernel_rfl) (fun _ _ _ h => h) (Or.inl ⟨by rfl, ?hy6⟩) trivial ?_
    case hy6 =>
      intro wX hSw
      go_simp
      try with_reducible rfl
    try simp only [Act.put, List.setIfInBounds_toArray, List.set_cons_zero, List.set_cons_succ]
    refine ytake_5 (v := ?vv7) (by kernel_rfl) (by kernel_rfl) (by kernel_rfl) (fun _ _ _ h => h) (Or.inl ⟨by rfl, ?hy7⟩) trivial ?_
    case hy7 =>
      intro wX hSw
      go_simp
      try with_reducible rfl
    try simp only [Act.put, List.setIfInBounds_toArray, List.set_cons_zero, List.set_cons_succ]
    refine yready_4_6 (by kernel_rfl) ?_ ?_
    · intro KQ hK
      rw [if_pos (by rfl)]
      go_simp
      refine hK.out _ _ trivial (fun _ => ?_)
      clear hK KQ
      try simp only [Act.put, List.setIfInBounds_toArray, List.set_cons_zero, List.set_cons_succ]
      refine yready_6 (by kernel_rfl) ?_
      intro KQ hK
      rw [if_pos (by rfl)]
      go_simp
      refine hK.out _ _ trivial (fun _ => ?_)
      clear hK KQ
      try simp only [Act.put, List.setIfInBounds_toArray, List.set_cons_zero, List.set_cons_succ]
      refine yready_7 (by kernel_rfl) ?_
      intro KQ hK
      rw [if_pos (by rfl)]
      go_simp
      refine hK.out _ _ trivial (fun _ => ?_)
      clear hK KQ
      try simp only [Act.put, List.setIfInBounds_toArray, List.set_cons_zero, List.set_cons_succ]
      obtain ⟨w4, hw4⟩ : ∃ w4, w4 = w3.alloc (.cells #[.string m.nm, .slice AV nV cV, .slice AD nD cD, .int .i64 m.same] 80) := ⟨_, rfl⟩
      have hb4 : Below w3.heap.size w3 w4 := by rw [hw4]; exact (Below.refl _ _).alloc (Nat.le_refl _) _
      have hgx : w4.heap[w3.heap.size]? = some (.cells m.cells.toArray 80 (0, 0)) := by rw [hw4, show m.cells = [.string m.nm, .slice AV nV cV, .slice AD nD cD, .int .i64 m.same] by rw [MF.cells, HVV.out, HDV.out]]; exact heap_alloc_new w3 _
      rw [← hw4]
      clear hw4
      have k4 : w4.cell? ⟨g, 0, none⟩ = some (.slice AL nL cL) := (hb4.cell (p := ⟨g, 0, none⟩) (HD3.out.lt _ HD3.out.here)).trans k0
      have hd4 := HD3.out.below hb4
      have hgF : ¬ F w3.heap.size := fun hf => absurd (HD3.out.lt _ hf) (Nat.lt_irrefl _)
      have hins := ins_file (m := m) hd4 hfew (HF3.out.kept fun k hk => hb4.block k (HD3.out.lt _ (HBB.out k hk).1)) HBB.out HND.out HH.out hgx hgF
      rw [HP.out] at hins
      have HB4 := Lib.hid (HB1.out.trans ((HB3.out.trans (hb4.mono HB3.out.size)).mono HB1.out.size))
      clear hd4 hgF hgx hb4
      refine yready_8 (by kernel_rfl) ?_
      intro KQ hK
      rw [if_pos (by rfl)]
      try go_simp
      refine hins.mono ?_
      rintro e w5 ⟨A5, c5, rfl, k5, f5, hto5⟩
      try go_simp
      refine hK.out _ _ trivial (fun _ => ?_)
      clear hK KQ
      try simp only [Act.put, List.setIfInBounds_toArray, List.set_cons_zero, List.set_cons_succ]
      refine ytake_9 (v := ?vv1) (by kernel_rfl) (by kernel_rfl) (by kernel_rfl) (fun _ _ _ h => h) (Or.inl ⟨by rfl, ?hy1⟩) trivial ?_
      case hy1 =>
        intro wX hSw
        go_simp
        try with_reducible rfl
      try simp only [Act.put, List.setIfInBounds_toArray, List.set_cons_zero, List.set_cons_succ]
      refine ytake_10 (v := ?vv2) (by kernel_rfl) (by kernel_rfl) (by kernel_rfl) (fun _ _ _ h => h) (Or.inl ⟨by rfl, ?hy2⟩) trivial ?_
      case hy2 =>
        intro wX hSw
        go_simp
        try with_reducible rfl
      try simp only [Act.put, List.setIfInBounds_toArray, List.set_cons_zero, List.set_cons_succ]
      refine yready_11 (by kernel_rfl) ?_
      intro KQ hK
      rw [if_pos (by rfl)]
      go_simp
      refine hK.out _ _ trivial (fun _ => ?_)
      clear hK KQ
      try simp only [Act.put, List.setIfInBounds_toArray, List.set_cons_zero, List.set_cons_succ]
      refine wpAnyH_done (by kernel_rfl) ?_ _
      go_wp2_with fail
      go_end0
      refine ⟨rfl, fun T' hL hc hl ho => ?_⟩
      rw [HPUT.out] at hL
      exact DiskTo.behind (Touch.of HB4.out) (hto5 T' hL hc hl ho)
    · intro KQ hK
      rw [if_pos (by rfl)]
      go_simp
      refine hK.out _ _ trivial (fun _ => ?_)
      clear hK KQ
      try simp only [Act.put, List.setIfInBounds_toArray, List.set_cons_zero, List.set_cons_succ]
      refine yready_4_7 (by kernel_rfl) ?_ ?_
      · intro KQ hK
        rw [if_pos (by rfl)]
        go_simp
        refine hK.out _ _ trivial (fun _ => ?_)
        clear hK KQ
        try simp only [Act.put, List.setIfInBounds_toArray, List.set_cons_zero, List.set_cons_succ]
        refine yready_7 (by kernel_rfl) ?_
        intro KQ hK
        rw [if_pos (by rfl)]
        go_simp
        refine hK.out _ _ trivial (fun _ => ?_)
        clear hK KQ
        try simp only [Act.put, List.setIfInBounds_toArray, List.set_cons_zero, List.set_cons_succ]
        obtain ⟨w4, hw4⟩ : ∃ w4, w4 = w3.alloc (.cells #[.string m.nm, .slice AV nV cV, .slice AD nD cD, .int .i64 m.same] 80) := ⟨_, rfl⟩
        have hb4 : Below w3.heap.size w3 w4 := by rw [hw4]; exact (Below.refl _ _).alloc (Nat.le_refl _) _
        have hgx : w4.heap[w3.heap.size]? = some (.cells m.cells.toArray 80 (0, 0)) := by rw [hw4, show m.cells = [.string m.nm, .slice AV nV cV, .slice AD nD cD, .int .i64 m.same] by rw [MF.cells, HVV.out, HDV.out]]; exact heap_alloc_new w3 _
        rw [← hw4]
        clear hw4
        have k4 : w4.cell? ⟨g, 0, none⟩ = some (.slice AL nL cL) := (hb4.cell (p := ⟨g, 0, none⟩) (HD3.out.lt _ HD3.out.here)).trans k0
        have hd4 := HD3.out.below hb4
        have hgF : ¬ F w3.heap.size := fun hf => absurd (HD3.out.lt _ hf) (Nat.lt_irrefl _)
        have hins := ins_file (m := m) hd4 hfew (HF3.out.kept fun k hk => hb4.block k (HD3.out.lt _ (HBB.out k hk).1)) HBB.out HND.out HH.out hgx hgF
        rw [HP.out] at hins
        have HB4 := Lib.hid (HB1.out.trans ((HB3.out.trans (hb4.mono HB3.out.size)).mono HB1.out.size))
        clear hd4 hgF hgx hb4
        refine yready_8 (by kernel_rfl) ?_
        intro KQ hK
        rw [if_pos (by rfl)]
        try go_simp
        refine hins.mono ?_
        rintro e w5 ⟨A5, c5, rfl, k5, f5, hto5⟩
        try go_simp
        refine hK.out _ _ trivial (fun _ => ?_)
        clear hK KQ
        try simp only [Act.put, List.setIfInBounds_toArray, List.set_cons_zero, List.set_cons_succ]
        refine ytake_9 (v := ?vv1) (by kernel_rfl) (by kernel_rfl) (by kernel_rfl) (fun _ _ _ h => h) (Or.inl ⟨by rfl, ?hy1⟩) trivial ?_
        case hy1 =>
          intro wX hSw
          go_simp
          try with_reducible rfl
        try simp only [Act.put, List.setIfInBounds_toArray, List.set_cons_zero, List.set_cons_succ]
        refine ytake_10 (v := ?vv2) (by kernel_rfl) (by kernel_rfl) (by kernel_rfl) (fun _ _ _ h => h) (Or.inl ⟨by rfl, ?hy2⟩) trivial ?_
        case hy2 =>
          intro wX hSw
          go_simp
          try with_reducible rfl
        try simp only [Act.put, List.setIfInBounds_toArray, List.set_cons_zero, List.set_cons_succ]
        refine yready_11 (by kernel_rfl) ?_
        intro KQ hK
        rw [if_pos (by rfl)]
        go_simp
        refine hK.out _ _ trivial (fun _ => ?_)
        clear hK KQ
        try simp only [Act.put, List.setIfInBounds_toArray, List.set_cons_zero, List.set_cons_succ]
        refine wpAnyH_done (by kernel_rfl) ?_ _
        go_wp2_with fail
        go_end0
        refine ⟨rfl, fun T' hL hc hl ho => ?_⟩
        rw [HPUT.out] at hL
        exact DiskTo.behind (Touch.of HB4.out) (hto5 T' hL hc hl ho)
      · intro KQ hK
        rw [if_pos (by rfl)]
        go_simp
        refine hK.out _ _ trivial (fun _ => ?_)
        clear hK KQ
        try simp only [Act.put, List.setIfInBounds_toArray, List.set_cons_zero, List.set_cons_succ]
        obtain ⟨w4, hw4⟩ : ∃ w4, w4 = w3.alloc (.cells #[.string m.nm, .slice AV nV cV, .slice AD nD cD, .int .i64 m.same] 80) := ⟨_, rfl⟩
        have hb4 : Below w3.heap.size w3 w4 := by rw [hw4]; exact (Below.refl _ _).alloc (Nat.le_refl _) _
        have hgx : w4.heap[w3.heap.size]? = some (.cells m.cells.toArray 80 (0, 0)) := by rw [hw4, show m.cells = [.string m.nm, .slice AV nV cV, .slice AD nD cD, .int .i64 m.same] by rw [MF.cells, HVV.out, HDV.out]]; exact heap_alloc_new w3 _
        rw [← hw4]
        clear hw4
        have k4 : w4.cell? ⟨g, 0, none⟩ = some (.slice AL nL cL) := (hb4.cell (p := ⟨g, 0, none⟩) (HD3.out.lt _ HD3.out.here)).trans k0
        refine yready_4 (by kernel_rfl) ?_
        intro KQ hK
        rw [if_pos (by rfl)]
        go_simp
        refine hK.out _ _ trivial (fun _ => ?_)
        clear hK KQ
        try simp only [Act.put, List.setIfInBounds_toArray, List.set_cons_zero, List.set_cons_succ]
        have hd4 := HD3.out.below hb4
        have hgF : ¬ F w3.heap.size := fun hf => absurd (HD3.out.lt _ hf) (Nat.lt_irrefl _)
        have hins := ins_file (m := m) hd4 hfew (HF3.out.kept fun k hk => hb4.block k (HD3.out.lt _ (HBB.out k hk).1)) HBB.out HND.out HH.out hgx hgF
        rw [HP.out] at hins
        have HB4 := Lib.hid (HB1.out.trans ((HB3.out.trans (hb4.mono HB3.out.size)).mono HB1.out.size))
        clear hd4 hgF hgx hb4
        refine yready_8 (by kernel_rfl) ?_
        intro KQ hK
        rw [if_pos (by rfl)]
        try go_simp
        refine hins.mono ?_
        rintro e w5 ⟨A5, c5, rfl, k5, f5, hto5⟩
        try go_simp
        refine hK.out _ _ trivial (fun _ => ?_)
        clear hK KQ
        try simp only [Act.put, List.setIfInBounds_toArray, List.set_cons_zero, List.set_cons_succ]
        refine ytake_9 (v := ?vv1) (by kernel_rfl) (by kernel_rfl) (by kernel_rfl) (fun _ _ _ h => h) (Or.inl ⟨by rfl, ?hy1⟩) trivial ?_
        case hy1 =>
          intro wX hSw
          go_simp
          try with_reducible rfl
        try simp only [Act.put, List.setIfInBounds_toArray, List.set_cons_zero, List.set_cons_succ]
        refine ytake_10 (v := ?vv2) (by kernel_rfl) (by kernel_rfl) (by kernel_rfl) (fun _ _ _ h => h) (Or.inl ⟨by rfl, ?hy2⟩) trivial ?_
        case hy2 =>
          intro wX hSw
          go_simp
          try with_reducible rfl
        try simp only [Act.put, List.setIfInBounds_toArray, List.set_cons_zero, List.set_cons_succ]
        refine yready_11 (by kernel_rfl) ?_
        intro KQ hK
        rw [if_pos (by rfl)]
        go_simp
        refine hK.out _ _ trivial (fun _ => ?_)
        clear hK KQ
        try simp only [Act.put, List.setIfInBounds_toArray, List.set_cons_zero, List.set_cons_succ]
        refine wpAnyH_done (by kernel_rfl) ?_ _
        go_wp2_with fail
        go_end0
        refine ⟨rfl, fun T' hL hc hl ho => ?_⟩
        rw [HPUT.out] at hL
        exact DiskTo.behind (Touch.of HB4.out) (hto5 T' hL hc hl ho)

end Go.Proofs.Ytecgagfpckaieaa
