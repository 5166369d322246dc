/-
  Package disk: a disk with another row of files, or another file in its place.
-/
import Derived.Test.YtecgagfpckaieaaDRead
namespace Go.Proofs.Ytecgagfpckaieaa
open Go.RowKit

/-! ### what the calls do, on plain data -/
def PD.fileAt (D : PD) (s : ByteArray) : Option PF := if D.has s = true then D.L[D.pos s]? else none
def dOpen (D : PD) (s : ByteArray) (k : PF → PD × Int) : PD × Int :=
  if okName s = false then (D, 1) else if D.tick.off = true then (D.tick, 9) else match D.fileAt s with
    | none => (D.tick, 3)
    | some f => k f
def PD.with (D : PD) (L : List PF) : PD := { D.tick with L := L }
def dRemove (D : PD) (s : ByteArray) : PD × Int := dOpen D s fun _ => (D.with (D.L.take (D.pos s) ++ D.L.drop (D.pos s + 1)), 0)
def dCut (D : PD) (s : ByteArray) (n : Int) : PD × Int :=
  if n < 0 then (D, 1) else dOpen D s fun f => if (f.vis.length : Int) < n then (D.tick, 1) else (D.with (D.L.set (D.pos s) { f with vis := f.vis.take n.toNat }), 0)
def dSync (D : PD) (s : ByteArray) : PD × Int := dOpen D s fun f => (D.with (D.L.set (D.pos s) { f with dur := f.vis }), 0)
theorem dOpen_no {D : PD} {s : ByteArray} {k : PF → PD × Int} (h : okName s = false) : dOpen D s k = (D, 1) := by rw [dOpen, if_pos h]
theorem dOpen_off {D : PD} {s : ByteArray} {k : PF → PD × Int} (h : okName s = true) (ho : D.tick.off = true) : dOpen D s k = (D.tick, 9) := by rw [dOpen, if_neg (by rw [h]; decide), if_pos ho]
theorem dOpen_none {D : PD} {s : ByteArray} {k : PF → PD × Int} (h : okName s = true) (ho : D.tick.off = false) (hh : D.has s = false) : dOpen D s k = (D.tick, 3) := by
  rw [dOpen, if_neg (by rw [h]; decide), if_neg (by rw [ho]; decide), PD.fileAt, if_neg (by rw [hh]; decide)]
theorem dOpen_yes {D : PD} {s : ByteArray} {k : PF → PD × Int} {f : PF} (h : okName s = true) (ho : D.tick.off = false) (hh : D.fileAt s = some f) : dOpen D s k = k f := by
  rw [dOpen, if_neg (by rw [h]; decide), if_neg (by rw [ho]; decide), hh]

section
variable {w w1 w2 w' : World} {g : Nat} {F F' : Nat → Prop} {D D' T T' : PD} {vL vL' v2 : Value} {l l' : Int} {ms ms' ms2 : List MF} {s : ByteArray} {m m' : MF} {i : Nat}
theorem DiskIn.fileAt (h : DiskIn w g F D vL l ms) (hh : D.has s = true) (hm : ms[D.pos s]? = some m) : D.fileAt s = some m.pf := by
  rw [PD.fileAt, if_pos hh, h.eqL, List.getElem?_map, hm]
  rfl
theorem DiskIn.apart (h : DiskIn w g F D vL l ms) (hm : m ∈ ms) {k : Nat} (hk : k ∈ m.blks) : k ≠ g ∧ vL.ownBlock ≠ some k := by
  have hnd := h.nd
  simp only [dblks, List.nodup_cons, List.nodup_append, List.mem_append, List.mem_flatMap, Option.mem_toList] at hnd
  refine ⟨fun e => hnd.1 (.inr ⟨m, hm, by rw [← e]; exact hk⟩), fun e => hnd.2.2.2 k e k ⟨m, hm, hk⟩ rfl⟩
theorem DiskIn.ndF (h : DiskIn w g F D vL l ms) : (ms.flatMap MF.blks).Nodup := by
  have hnd := h.nd
  simp only [dblks, List.nodup_cons, List.nodup_append] at hnd
  exact hnd.2.2.1
theorem DiskIn.rowNe (h : DiskIn w g F D vL l ms) : vL.ownBlock ≠ some g := by
  have hnd := h.nd
  simp only [dblks, List.nodup_cons, List.mem_append, Option.mem_toList] at hnd
  exact fun e => hnd.1 (.inl e)

/-- another row -/
theorem DiskIn.rowTo (h : DiskIn w1 g F T vL l ms) (hg : w1.grownBy w2 vL.ownBlock) (hrow : w2.ownsRow 0 80 4 v2 ms2.length (cellsD ms2)) (hv2 : v2.ownBlock = vL.ownBlock ∨ v2.ownBlock = some w1.heap.size)
    (hel : ∀ m ∈ ms2, FileIn w1 m) (hbl : ∀ m ∈ ms2, ∀ k ∈ m.blks, F k ∧ k ≠ g ∧ vL.ownBlock ≠ some k) (hnd : (ms2.flatMap MF.blks).Nodup) (hL : T'.L = ms2.map MF.pf) (hr : RiseN (namesF T'.L)) (hf : ms2.length ≤ 16)
    (hc : T'.calls = T.calls) (hl : T'.left = T.left) (ho : T'.off = T.off) : DiskTo g F T' w1 (w2.setCell ⟨g, 0, none⟩ v2) := by
  have hgl : g < w1.heap.size := h.lt _ h.here
  have hbg : w2.heap[g]? = w1.heap[g]? := hg.block g hgl (fun e => h.rowNe e.symm)
  have ht : Touch F w1 (w2.setCell ⟨g, 0, none⟩ v2) := (Touch.grown (F := F) hg fun k hk => h.rowF hk).set (.inl h.here) _
  have hvg : v2.ownBlock ≠ some g := by
    rcases hv2 with e | e <;> rw [e]
    · exact h.rowNe
    · intro e'; cases e'; omega
  have hkeep : ∀ k, k ≠ g → (w2.setCell ⟨g, 0, none⟩ v2).heap[k]? = w2.heap[k]? := fun k hk => heap_setCell_other w2 ⟨g, 0, none⟩ k v2 hk
  refine DiskTo.make (vL' := v2) (l' := l) (ms' := ms2) ht ?_ ?_ ?_ ?_ ?_ hL hr hf ?_ h.lr
  · rw [hc, ho]
    exact heap_setCell_same _ g 0 _ _ _ (hbg.trans h.blk)
  · exact own_kept hrow fun k hk _ => hkeep k (fun e => hvg (by rw [hk, e]))
  · intro m hm
    refine (hel m hm).kept fun k hk => ?_
    obtain ⟨h1, h2, h3⟩ := hbl m hm k hk
    rw [hkeep k h2]
    exact hg.block k (h.lt k h1) (fun e => h3 e.symm)
  · simp only [dblks, List.nodup_cons, List.nodup_append, List.mem_append, List.mem_flatMap, Option.mem_toList]
    refine ⟨?_, ?_, hnd, ?_⟩
    · rintro (e | ⟨m, hm, hk⟩)
      · exact hvg e
      · exact (hbl m hm g hk).2.1 rfl
    · cases v2.ownBlock <;> simp
    · rintro a ha b ⟨m, hm, hk⟩ rfl
      obtain ⟨h1, _, h3⟩ := hbl m hm a hk
      rcases hv2 with e | e
      · exact h3 (by rw [← e]; exact ha)
      · rw [e] at ha
        cases ha
        exact absurd (h.lt _ h1) (by omega)
  · intro k hk
    simp only [dblks, List.mem_cons, List.mem_append, List.mem_flatMap, Option.mem_toList] at hk
    rcases hk with rfl | hk | ⟨m, hm, hk⟩
    · exact .inl h.here
    · rcases hv2 with e | e
      · exact .inl (h.rowF (by rw [← e]; exact hk))
      · rw [e] at hk; cases hk; exact .inr (Nat.le_refl _)
    · exact .inl (hbl m hm k hk).1
  · rw [ho, hl]; exact h.okl

theorem cells_one {w : World} {ms : List MF} (h : ∀ m ∈ ms, FileIn w m) : ∀ v ∈ cellsD ms, v.oneCell' = true := by
  intro v hv
  simp only [cellsD, List.mem_flatMap] at hv
  obtain ⟨m, hm, hv⟩ := hv
  obtain ⟨AV, nV, cV, AD, nD, cD, h1, h2⟩ := (h m hm).vals
  simp only [MF.cells, h1, h2, List.mem_cons, List.not_mem_nil, or_false] at hv
  rcases hv with rfl | rfl | rfl | rfl <;> rfl
theorem flat_sub {a b : List MF} (h : a.Sublist b) : (a.flatMap MF.blks).Sublist (b.flatMap MF.blks) := by
  induction h with
  | slnil => exact List.Sublist.refl _
  | cons x _ ih => rw [List.flatMap_cons]; exact ih.trans (List.sublist_append_right _ _)
  | cons_cons x _ ih => rw [List.flatMap_cons, List.flatMap_cons]; exact (List.Sublist.refl _).append ih
theorem erase_sub (ms : List MF) (i : Nat) : (ms.take i ++ ms.drop (i + 1)).Sublist ms := by
  rw [← List.eraseIdx_eq_take_drop_succ]
  exact List.eraseIdx_sublist ms i
theorem map_erase (ms : List MF) (i : Nat) : (ms.take i ++ ms.drop (i + 1)).map MF.pf = (ms.map MF.pf).take i ++ (ms.map MF.pf).drop (i + 1) := by
  rw [List.map_append, List.map_take, List.map_drop]
theorem names_erase (L : List PF) (i : Nat) : namesF (L.take i ++ L.drop (i + 1)) = (namesF L).take i ++ (namesF L).drop (i + 1) := by
  rw [namesF, namesF, List.map_append, List.map_take, List.map_drop]
end

end Go.Proofs.Ytecgagfpckaieaa
