/-
  A disk on plain data, and as it lies in memory.
-/
import Derived.Test.YtecgagfpckaieaaDInsA
import Derived.Test.YtecgagfpckaieaaDPlain
namespace Go.Proofs.Ytecgagfpckaieaa
open Go.RowKit

/-- a file: what is seen of it, what is sure to last -/
structure PF where
  nm : ByteArray
  vis : List Int
  dur : List Int
structure PD where
  L : List PF
  calls : Nat
  left : Nat
  off : Bool
def namesF (L : List PF) : List ByteArray := L.map PF.nm
def PD.pos (D : PD) (s : ByteArray) : Nat := posN (namesF D.L) s
def PD.has (D : PD) (s : ByteArray) : Bool := hasN (namesF D.L) s
/-- one more call -/
def PD.tick (D : PD) : PD :=
  if D.off = true then { D with calls := D.calls + 1 }
  else if D.left = 0 then { D with calls := D.calls + 1 }
  else if D.left = 1 then { D with calls := D.calls + 1, left := 0, off := true }
  else { D with calls := D.calls + 1, left := D.left - 1 }
theorem tick_L (D : PD) : D.tick.L = D.L := by unfold PD.tick; (repeat' split) <;> rfl
theorem tick_calls (D : PD) : D.tick.calls = D.calls + 1 := by unfold PD.tick; (repeat' split) <;> rfl

/-! ### in memory -/
structure MF where
  nm : ByteArray
  vis : List Int
  dur : List Int
  vV : Value
  dV : Value
  same : Nat
def MF.pf (m : MF) : PF := ⟨m.nm, m.vis, m.dur⟩
def MF.cells (m : MF) : List Value := [.string m.nm, m.vV, m.dV, .int .i64 m.same]
def MF.blks (m : MF) : List Nat := m.vV.ownBlock.toList ++ m.dV.ownBlock.toList
def cellsD (ms : List MF) : List Value := ms.flatMap MF.cells

theorem cellsD_length (ms : List MF) : (cellsD ms).length = ms.length * 4 := by
  induction ms with
  | nil => rfl
  | cons m ms ih => simp only [cellsD, List.flatMap_cons, List.length_append] at ih ⊢; rw [ih]; simp [MF.cells]; omega
theorem cellsD_append (a b : List MF) : cellsD (a ++ b) = cellsD a ++ cellsD b := by simp [cellsD]
theorem cellsD_take (ms : List MF) (i : Nat) : (cellsD ms).take (i * 4) = cellsD (ms.take i) := by
  rcases Nat.lt_or_ge i ms.length with h | h
  · have e : cellsD ms = cellsD (ms.take i) ++ cellsD (ms.drop i) := by rw [← cellsD_append, List.take_append_drop]
    rw [e, List.take_append_of_le_length (by rw [cellsD_length, List.length_take]; omega), List.take_of_length_le (by rw [cellsD_length, List.length_take]; omega)]
  · rw [List.take_of_length_le h, List.take_of_length_le (by rw [cellsD_length]; omega)]
theorem cellsD_drop (ms : List MF) (i : Nat) : (cellsD ms).drop (i * 4) = cellsD (ms.drop i) := by
  rcases Nat.lt_or_ge i ms.length with h | h
  · have e : cellsD ms = cellsD (ms.take i) ++ cellsD (ms.drop i) := by rw [← cellsD_append, List.take_append_drop]
    have hl : (cellsD (ms.take i)).length = i * 4 := by rw [cellsD_length, List.length_take]; omega
    rw [e, List.drop_append_of_le_length (by omega), List.drop_of_length_le (by omega), List.nil_append]
  · rw [List.drop_of_length_le h, List.drop_of_length_le (by rw [cellsD_length]; omega)]; rfl
theorem cellsD_at {ms : List MF} {i : Nat} {m : MF} (h : ms[i]? = some m) {j : Nat} {v : Value} (hv : m.cells[j]? = some v) : (cellsD ms)[i * 4 + j]? = some v := by
  have hi := (List.getElem?_eq_some_iff.1 h).1
  have e : ms.drop i = m :: ms.drop (i + 1) := by
    rw [List.drop_eq_getElem_cons hi]
    congr 1
    exact (List.getElem?_eq_some_iff.1 h).2
  have hd : ((cellsD ms).drop (i * 4))[j]? = some v := by
    rw [cellsD_drop, e]
    show (m.cells ++ cellsD (ms.drop (i + 1)))[j]? = some v
    rw [List.getElem?_append_left (List.getElem?_eq_some_iff.1 hv).1]
    exact hv
  rwa [List.getElem?_drop] at hd
theorem cellsD_put (ms : List MF) (m : MF) (i : Nat) : putIn (cellsD ms) m.cells i = cellsD (ms.take i ++ m :: ms.drop i) := by
  rw [putIn, cellsD_take, cellsD_drop, cellsD_append, List.append_assoc]
  rfl
theorem cellsD_del (ms : List MF) (i : Nat) : (cellsD ms).take (i * 4) ++ (cellsD ms).drop ((i + 1) * 4) = cellsD (ms.take i ++ ms.drop (i + 1)) := by
  rw [cellsD_take, cellsD_drop, cellsD_append]
theorem cellsD_set {ms : List MF} {i : Nat} (hi : i < ms.length) (m : MF) : cellsD (ms.set i m) = (cellsD ms).take (i * 4) ++ (m.cells ++ (cellsD ms).drop ((i + 1) * 4)) := by
  rw [cellsD_take, cellsD_drop, List.set_eq_take_append_cons_drop, if_pos hi, cellsD_append]
  rfl

structure FileIn (w : World) (m : MF) : Prop where
  rV : w.ownsRow 0 5 1 m.vV m.vis.length (u8s m.vis)
  rD : w.ownsRow 0 5 1 m.dV m.dur.length (u8s m.dur)
  s1 : m.same ≤ m.vis.length
  s2 : m.same ≤ m.dur.length
  s3 : m.vis.take m.same = m.dur.take m.same
  b1 : Byts m.vis
  b2 : Byts m.dur
  z1 : m.vis.length ≤ 1048576
  z2 : m.dur.length ≤ 1048576
  ok : okName m.nm = true

/-- the blocks of a disk -/
def dblks (g : Nat) (vL : Value) (ms : List MF) : List Nat := g :: (vL.ownBlock.toList ++ ms.flatMap MF.blks)

structure DiskIn (w : World) (g : Nat) (F : Nat → Prop) (D : PD) (vL : Value) (l : Int) (ms : List MF) : Prop where
  blk : w.heap[g]? = some (.cells #[vL, .int .i64 D.calls, .int .i64 l, .bool D.off] 67 (0, 0))
  row : w.ownsRow 0 80 4 vL ms.length (cellsD ms)
  els : ∀ m ∈ ms, FileIn w m
  nd : (dblks g vL ms).Nodup
  inF : ∀ k ∈ dblks g vL ms, F k
  lt : ∀ k, F k → k < w.heap.size
  eqL : D.L = ms.map MF.pf
  rise : RiseN (namesF D.L)
  few : ms.length ≤ 16
  okl : D.off = false → l = D.left
  lr : -9223372036854775808 ≤ l ∧ l ≤ 9223372036854775807
def IsDisk (w : World) (g : Nat) (F : Nat → Prop) (D : PD) : Prop := ∃ vL l ms, DiskIn w g F D vL l ms
/-- what a call leaves of it -/
def DiskTo (g : Nat) (F : Nat → Prop) (D : PD) (w w' : World) : Prop := ∃ F' : Nat → Prop, IsDisk w' g F' D ∧ Touch F w w' ∧ ∀ k, F' k → F k ∨ w.heap.size ≤ k

section
variable {w w' : World} {g : Nat} {F F' : Nat → Prop} {D : PD} {vL : Value} {l : Int} {ms : List MF} {m : MF}

theorem FileIn.kept (h : FileIn w m) (hk : ∀ k ∈ m.blks, w'.heap[k]? = w.heap[k]?) : FileIn w' m where
  rV := own_kept h.rV fun k hb _ => hk k (by simp [MF.blks, hb])
  rD := own_kept h.rD fun k hb _ => hk k (by simp [MF.blks, hb])
  s1 := h.s1
  s2 := h.s2
  s3 := h.s3
  b1 := h.b1
  b2 := h.b2
  z1 := h.z1
  z2 := h.z2
  ok := h.ok
theorem DiskIn.here (h : DiskIn w g F D vL l ms) : F g := h.inF g (by simp [dblks])
theorem DiskIn.rowF (h : DiskIn w g F D vL l ms) {k : Nat} (hk : vL.ownBlock = some k) : F k := h.inF k (by simp [dblks, hk])
theorem DiskIn.elF (h : DiskIn w g F D vL l ms) (hm : m ∈ ms) {k : Nat} (hk : k ∈ m.blks) : F k :=
  h.inF k (by simp only [dblks, List.mem_cons, List.mem_append, List.mem_flatMap]; exact .inr (.inr ⟨m, hm, hk⟩))
theorem DiskIn.kept (h : DiskIn w g F D vL l ms) (hs : w.heap.size ≤ w'.heap.size) (hk : ∀ k, F k → w'.heap[k]? = w.heap[k]?) : DiskIn w' g F D vL l ms where
  blk := (hk g h.here).trans h.blk
  row := own_kept h.row fun k hb _ => hk k (h.rowF hb)
  els := fun m hm => (h.els m hm).kept fun k hb => hk k (h.elF hm hb)
  nd := h.nd
  inF := h.inF
  lt := fun k hf => Nat.lt_of_lt_of_le (h.lt k hf) hs
  eqL := h.eqL
  rise := h.rise
  few := h.few
  okl := h.okl
  lr := h.lr
theorem DiskIn.below (h : DiskIn w g F D vL l ms) (hb : Below w.heap.size w w') : DiskIn w' g F D vL l ms := h.kept hb.size fun k hk => hb.block k (h.lt k hk)
theorem IsDisk.kept (h : IsDisk w g F D) (hs : w.heap.size ≤ w'.heap.size) (hk : ∀ k, F k → w'.heap[k]? = w.heap[k]?) : IsDisk w' g F D := by
  obtain ⟨a, b, c, h⟩ := h
  exact ⟨a, b, c, h.kept hs hk⟩
theorem IsDisk.lt (h : IsDisk w g F D) : ∀ k, F k → k < w.heap.size := by
  obtain ⟨a, b, c, h⟩ := h
  exact h.lt
theorem DiskIn.cell (h : DiskIn w g F D vL l ms) (o : Nat) : w.cell? ⟨g, o, none⟩ = #[vL, .int .i64 D.calls, .int .i64 l, .bool D.off][o]? := cell_of_row w g o _ _ _ h.blk
theorem DiskIn.c0 (h : DiskIn w g F D vL l ms) : w.cell? ⟨g, 0, none⟩ = some vL := h.cell 0
theorem DiskIn.c1 (h : DiskIn w g F D vL l ms) : w.cell? ⟨g, 1, none⟩ = some (.int .i64 D.calls) := h.cell 1
theorem DiskIn.c2 (h : DiskIn w g F D vL l ms) : w.cell? ⟨g, 2, none⟩ = some (.int .i64 l) := h.cell 2
theorem DiskIn.c3 (h : DiskIn w g F D vL l ms) : w.cell? ⟨g, 3, none⟩ = some (.bool D.off) := h.cell 3
theorem DiskIn.fz (h : DiskIn w g F D vL l ms) (o : Nat) : w.frozen? ⟨g, o, none⟩ = false := frozen_of_row w g o _ _ h.blk
theorem DiskIn.lenL (h : DiskIn w g F D vL l ms) : D.L.length = ms.length := by rw [h.eqL, List.length_map]
theorem DiskIn.nmL (h : DiskIn w g F D vL l ms) : namesF D.L = ms.map MF.nm := by rw [h.eqL, namesF, List.map_map]; rfl
/-- the row's slice -/
theorem DiskIn.slice (h : DiskIn w g F D vL l ms) {n : Nat} (hn : ms.length = n) : ∃ A c, vL = .slice A n c ∧ n ≤ c ∧ c ≤ maxLen ∧ Rd w A (cellsD ms) := by
  subst hn
  obtain ⟨A, c, h1, h2, h3, h4, _⟩ := ownS_slice h.row
  exact ⟨A, c, h1, h2, h3, h4⟩
/-- where the row lies, if there is a file -/
theorem DiskIn.rowAt (h : DiskIn w g F D vL l ms) (h0 : 0 < ms.length) : ∃ gr cap, vL = .slice (some ⟨gr, 0, none⟩) ms.length cap ∧ ms.length ≤ cap ∧ cap ≤ maxLen ∧ gr ≠ g ∧ F gr ∧ (∀ m ∈ ms, gr ∉ m.blks) := by
  rcases h.row.2 with ⟨_, h1⟩ | ⟨gr, cap, cur, rfl, hb, hg, hnc, hcm, hcs, ht⟩
  · omega
  · have hnd := h.nd
    simp only [dblks, Value.ownBlock, Option.toList_some, List.nodup_cons, List.mem_flatMap, List.singleton_append] at hnd
    refine ⟨gr, cap, rfl, hnc, hcm, fun e => hnd.1 (by simp [e]), h.rowF rfl, fun m hm hk => hnd.2.1 ⟨m, hm, hk⟩⟩
end

end Go.Proofs.Ytecgagfpckaieaa
