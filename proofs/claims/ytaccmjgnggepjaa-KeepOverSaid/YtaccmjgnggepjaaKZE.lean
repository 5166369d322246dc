/-
  A disk on plain data, and as it lies in memory.
-/
import Derived.Test.YtaccmjgnggepjaaKZC
import Derived.Test.YtaccmjgnggepjaaDPlain
import Derived.Test.YtaccmjgnggepjaaShelf
import Derived.Test.YtaccmjgnggepjaaHelp
import Derived.Deep.CutBlock
namespace Go.Proofs.Ytaccmjgnggepjaa
open Go.RowKit

/-- a file: what is seen of it, what is sure to last -/
structure PF where
  nm : ByteArray
  vis : List Int
  dur : List Int
structure PD where
  L : List PF
  calls : Nat
  left : Nat
  off : Bool
def namesF (L : List PF) : List ByteArray := L.map PF.nm
def PD.pos (D : PD) (s : ByteArray) : Nat := posN (namesF D.L) s
def PD.has (D : PD) (s : ByteArray) : Bool := hasN (namesF D.L) s
/-- one more call -/
def PD.tick (D : PD) : PD :=
  if D.off = true then { D with calls := D.calls + 1 }
  else if D.left = 0 then { D with calls := D.calls + 1 }
  else if D.left = 1 then { D with calls := D.calls + 1, left := 0, off := true }
  else { D with calls := D.calls + 1, left := D.left - 1 }
theorem tick_L (D : PD) : D.tick.L = D.L := by unfold PD.tick; (repeat' split) <;> rfl
theorem tick_calls (D : PD) : D.tick.calls = D.calls + 1 := by unfold PD.tick; (repeat' split) <;> rfl

/-! ### in memory -/
structure MF where
  nm : ByteArray
  vis : List Int
  dur : List Int
  vV : Value
  dV : Value
  same : Nat
def MF.pf (m : MF) : PF := ⟨m.nm, m.vis, m.dur⟩
def MF.cells (m : MF) : List Value := [.string m.nm, m.vV, m.dV, .int .i64 m.same]
def MF.blks (m : MF) : List Nat := m.vV.ownBlock.toList ++ m.dV.ownBlock.toList
def cellsD (ms : List MF) : List Value := ms.flatMap MF.cells

theorem cellsD_length (ms : List MF) : (cellsD ms).length = ms.length * 4 := by
  induction ms with
  | nil => rfl
  | cons m ms ih => simp only [cellsD, List.flatMap_cons, List.length_append] at ih ⊢; rw [ih]; simp [MF.cells]; omega
theorem cellsD_append (a b : List MF) : cellsD (a ++ b) = cellsD a ++ cellsD b := by simp [cellsD]
theorem cellsD_take (ms : List MF) (i : Nat) : (cellsD ms).take (i * 4) = cellsD (ms.take i) := by
  rcases Nat.lt_or_ge i ms.length with h | h
  · have e : cellsD ms = cellsD (ms.take i) ++ cellsD (ms.drop i) := by rw [← cellsD_append, List.take_append_drop]
    rw [e, List.take_append_of_le_length (by rw [cellsD_length, List.length_take]; omega), List.take_of_length_le (by rw [cellsD_length, List.length_take]; omega)]
  · rw [List.take_of_length_le h, List.take_of_length_le (by rw [cellsD_length]; omega)]
theorem cellsD_drop (ms : List MF) (i : Nat) : (cellsD ms).drop (i * 4) = cellsD (ms.drop i) := by
  rcases Nat.lt_or_ge i ms.length with h | h
  · have e : cellsD ms = cellsD (ms.take i) ++ cellsD (ms.drop i) := by rw [← cellsD_append, List.take_append_drop]
    have hl : (cellsD (ms.take i)).length = i * 4 := by rw [cellsD_length, List.length_take]; omega
    rw [e, List.drop_append_of_le_length (by omega), List.drop_of_length_le (by omega), List.nil_append]
  · rw [List.drop_of_length_le h, List.drop_of_length_le (by rw [cellsD_length]; omega)]; rfl
theorem cellsD_at {ms : List MF} {i : Nat} {m : MF} (h : ms[i]? = some m) {j : Nat} {v : Value} (hv : m.cells[j]? = some v) : (cellsD ms)[i * 4 + j]? = some v := by
  have hi := (List.getElem?_eq_some_iff.1 h).1
  have e : ms.drop i = m :: ms.drop (i + 1) := by
    rw [List.drop_eq_getElem_cons hi]
    congr 1
    exact (List.getElem?_eq_some_iff.1 h).2
  have hd : ((cellsD ms).drop (i * 4))[j]? = some v := by
    rw [cellsD_drop, e]
    show (m.cells ++ cellsD (ms.drop (i + 1)))[j]? = some v
    rw [List.getElem?_append_left (List.getElem?_eq_some_iff.1 hv).1]
    exact hv
  rwa [List.getElem?_drop] at hd
theorem cellsD_put (ms : List MF) (m : MF) (i : Nat) : putIn (cellsD ms) m.cells i = cellsD (ms.take i ++ m :: ms.drop i) := by
  rw [putIn, cellsD_take, cellsD_drop, cellsD_append, List.append_assoc]
  rfl
theorem cellsD_del (ms : List MF) (i : Nat) : (cellsD ms).take (i * 4) ++ (cellsD ms).drop ((i + 1) * 4) = cellsD (ms.take i ++ ms.drop (i + 1)) := by
  rw [cellsD_take, cellsD_drop, cellsD_append]
theorem cellsD_set {ms : List MF} {i : Nat} (hi : i < ms.length) (m : MF) : cellsD (ms.set i m) = (cellsD ms).take (i * 4) ++ (m.cells ++ (cellsD ms).drop ((i + 1) * 4)) := by
  rw [cellsD_take, cellsD_drop, List.set_eq_take_append_cons_drop, if_pos hi, cellsD_append]
  rfl

structure FileIn (w : World) (m : MF) : Prop where
  rV : w.ownsRow 0 5 1 m.vV m.vis.length (u8s m.vis)
  rD : w.ownsRow 0 5 1 m.dV m.dur.length (u8s m.dur)
  s1 : m.same ≤ m.vis.length
  s2 : m.same ≤ m.dur.length
  s3 : m.vis.take m.same = m.dur.take m.same
  b1 : Byts m.vis
  b2 : Byts m.dur
  z1 : m.vis.length ≤ 1048576
  z2 : m.dur.length ≤ 1048576
  ok : okName m.nm = true

/-- the blocks of a disk -/
def dblks (g : Nat) (vL : Value) (ms : List MF) : List Nat := g :: (vL.ownBlock.toList ++ ms.flatMap MF.blks)

structure DiskIn (w : World) (g : Nat) (F : Nat → Prop) (D : PD) (vL : Value) (l : Int) (ms : List MF) : Prop where
  blk : w.heap[g]? = some (.cells #[vL, .int .i64 D.calls, .int .i64 l, .bool D.off] 76 (0, 0))
  row : w.ownsRow 0 82 4 vL ms.length (cellsD ms)
  els : ∀ m ∈ ms, FileIn w m
  nd : (dblks g vL ms).Nodup
  inF : ∀ k ∈ dblks g vL ms, F k
  lt : ∀ k, F k → k < w.heap.size
  eqL : D.L = ms.map MF.pf
  rise : RiseN (namesF D.L)
  few : ms.length ≤ 16
  okl : D.off = false → l = D.left
  lr : -9223372036854775808 ≤ l ∧ l ≤ 9223372036854775807
def IsDisk (w : World) (g : Nat) (F : Nat → Prop) (D : PD) : Prop := ∃ vL l ms, DiskIn w g F D vL l ms
/-- what a call leaves of it -/
def DiskTo (g : Nat) (F : Nat → Prop) (D : PD) (w w' : World) : Prop := ∃ F' : Nat → Prop, IsDisk w' g F' D ∧ Touch F w w' ∧ ∀ k, F' k → F k ∨ w.heap.size ≤ k

section
variable {w w' : World} {g : Nat} {F F' : Nat → Prop} {D : PD} {vL : Value} {l : Int} {ms : List MF} {m : MF}

theorem FileIn.kept (h : FileIn w m) (hk : ∀ k ∈ m.blks, w'.heap[k]? = w.heap[k]?) : FileIn w' m where
  rV := own_kept h.rV fun k hb _ => hk k (by simp [MF.blks, hb])
  rD := own_kept h.rD fun k hb _ => hk k (by simp [MF.blks, hb])
  s1 := h.s1
  s2 := h.s2
  s3 := h.s3
  b1 := h.b1
  b2 := h.b2
  z1 := h.z1
  z2 := h.z2
  ok := h.ok
theorem DiskIn.here (h : DiskIn w g F D vL l ms) : F g := h.inF g (by simp [dblks])
theorem DiskIn.rowF (h : DiskIn w g F D vL l ms) {k : Nat} (hk : vL.ownBlock = some k) : F k := h.inF k (by simp [dblks, hk])
theorem DiskIn.elF (h : DiskIn w g F D vL l ms) (hm : m ∈ ms) {k : Nat} (hk : k ∈ m.blks) : F k :=
  h.inF k (by simp only [dblks, List.mem_cons, List.mem_append, List.mem_flatMap]; exact .inr (.inr ⟨m, hm, hk⟩))
theorem DiskIn.kept (h : DiskIn w g F D vL l ms) (hs : w.heap.size ≤ w'.heap.size) (hk : ∀ k, F k → w'.heap[k]? = w.heap[k]?) : DiskIn w' g F D vL l ms where
  blk := (hk g h.here).trans h.blk
  row := own_kept h.row fun k hb _ => hk k (h.rowF hb)
  els := fun m hm => (h.els m hm).kept fun k hb => hk k (h.elF hm hb)
  nd := h.nd
  inF := h.inF
  lt := fun k hf => Nat.lt_of_lt_of_le (h.lt k hf) hs
  eqL := h.eqL
  rise := h.rise
  few := h.few
  okl := h.okl
  lr := h.lr
theorem DiskIn.below (h : DiskIn w g F D vL l ms) (hb : Below w.heap.size w w') : DiskIn w' g F D vL l ms := h.kept hb.size fun k hk => hb.block k (h.lt k hk)
theorem IsDisk.kept (h : IsDisk w g F D) (hs : w.heap.size ≤ w'.heap.size) (hk : ∀ k, F k → w'.heap[k]? = w.heap[k]?) : IsDisk w' g F D := by
  obtain ⟨a, b, c, h⟩ := h
  exact ⟨a, b, c, h.kept hs hk⟩
theorem IsDisk.lt (h : IsDisk w g F D) : ∀ k, F k → k < w.heap.size := by
  obtain ⟨a, b, c, h⟩ := h
  exact h.lt
theorem DiskIn.cell (h : DiskIn w g F D vL l ms) (o : Nat) : w.cell? ⟨g, o, none⟩ = #[vL, .int .i64 D.calls, .int .i64 l, .bool D.off][o]? := cell_of_row w g o _ _ _ h.blk
theorem DiskIn.c0 (h : DiskIn w g F D vL l ms) : w.cell? ⟨g, 0, none⟩ = some vL := h.cell 0
theorem DiskIn.c1 (h : DiskIn w g F D vL l ms) : w.cell? ⟨g, 1, none⟩ = some (.int .i64 D.calls) := h.cell 1
theorem DiskIn.c2 (h : DiskIn w g F D vL l ms) : w.cell? ⟨g, 2, none⟩ = some (.int .i64 l) := h.cell 2
theorem DiskIn.c3 (h : DiskIn w g F D vL l ms) : w.cell? ⟨g, 3, none⟩ = some (.bool D.off) := h.cell 3
theorem DiskIn.fz (h : DiskIn w g F D vL l ms) (o : Nat) : w.frozen? ⟨g, o, none⟩ = false := frozen_of_row w g o _ _ h.blk
theorem DiskIn.lenL (h : DiskIn w g F D vL l ms) : D.L.length = ms.length := by rw [h.eqL, List.length_map]
theorem DiskIn.nmL (h : DiskIn w g F D vL l ms) : namesF D.L = ms.map MF.nm := by rw [h.eqL, namesF, List.map_map]; rfl
/-- the row's slice -/
theorem DiskIn.slice (h : DiskIn w g F D vL l ms) {n : Nat} (hn : ms.length = n) : ∃ A c, vL = .slice A n c ∧ n ≤ c ∧ c ≤ maxLen ∧ Rd w A (cellsD ms) := by
  subst hn
  obtain ⟨A, c, h1, h2, h3, h4, _⟩ := ownS_slice h.row
  exact ⟨A, c, h1, h2, h3, h4⟩
/-- where the row lies, if there is a file -/
theorem DiskIn.rowAt (h : DiskIn w g F D vL l ms) (h0 : 0 < ms.length) : ∃ gr cap, vL = .slice (some ⟨gr, 0, none⟩) ms.length cap ∧ ms.length ≤ cap ∧ cap ≤ maxLen ∧ gr ≠ g ∧ F gr ∧ (∀ m ∈ ms, gr ∉ m.blks) := by
  rcases h.row.2 with ⟨_, h1⟩ | ⟨gr, cap, cur, rfl, hb, hg, hnc, hcm, hcs, ht⟩
  · omega
  · have hnd := h.nd
    simp only [dblks, Value.ownBlock, Option.toList_some, List.nodup_cons, List.mem_flatMap, List.singleton_append] at hnd
    refine ⟨gr, cap, rfl, hnc, hcm, fun e => hnd.1 (by simp [e]), h.rowF rfl, fun m hm hk => hnd.2.1 ⟨m, hm, hk⟩⟩
end

end Go.Proofs.Ytaccmjgnggepjaa
/-
  Where a file stands: the search of package disk.
-/
namespace Go.Proofs.Ytaccmjgnggepjaa
open Go.RowKit

set_option maxHeartbeats 1000000 in
theorem closure_any (a s : ByteArray) (v1 v2 : Value) (k : Int) (w : World) :
    Calls Try.prog 78 #[.agg #[.string a, v1, v2, .int .i64 k], .string s] w fun e w' => e = .returned (.int .i64 (cmpN a s)) ∧ Below w.heap.size w w' := by
  go_enter Try.func78, Try.ntmps78
  go_wp2_with (go_at_call 52; refine (Try.strings_Compare _ _ _).mono ?_; rintro e w' ⟨rfl, rfl⟩)
  go_ret
  exact ⟨rfl, (Below.refl _ _).alloc (Nat.le_refl _) _⟩

set_option maxRecDepth 100000 in
set_option maxHeartbeats 4000000 in
theorem search_any (g cap n : Nat) (ms : List MF) (s : ByteArray) (w : World) (hn : ms.length = n) (hn1 : n ≤ 1000000) (hc : ∀ i v, (cellsD ms)[i]? = some v → w.cell? ⟨g, i, none⟩ = some v) (hg : 0 < n → g < w.heap.size) (hr : RiseN (ms.map MF.nm)) :
    Calls Try.prog 77 #[.slice (some ⟨g, 0, none⟩) n cap, .string s, .func (.func 78) #[] #[]] w fun e w' =>
      e = .returned (.tuple #[.int .i64 (posN (ms.map MF.nm) s), .bool (hasN (ms.map MF.nm) s)]) ∧ Below w.heap.size w w' := by
  have HN := Lib.hid hn
  have HC := Lib.hid hc
  have HR := Lib.hid hr
  clear hn hc hr
  go_enter Try.func77, Try.ntmps77
  go_wp2
  go_loopw [9, 10] (fun i j wr => ∃ lo hi : Nat, i = .int .i64 lo ∧ j = .int .i64 hi ∧ lo ≤ hi ∧ hi ≤ n ∧ Hid (∀ k a, k < lo → (ms.map MF.nm)[k]? = some a → ltN a s = true) ∧ Hid (∀ k a, hi ≤ k → (ms.map MF.nm)[k]? = some a → ltN a s = false) ∧ Below w.heap.size w wr) (fun i j _ => ((intOf j) - (intOf i)).toNat)
  case atStart => exact ⟨0, n, rfl, rfl, by omega, by omega, fun k a hk => by omega, fun k a hk ha => by
    have := (List.getElem?_eq_some_iff.1 ha).1
    rw [List.length_map, HN.out] at this
    omega, Below.refl _ _⟩
  case round =>
    obtain ⟨lo, hi, rfl, rfl, hlh, hin, HA, HB, hb⟩ := hrel
    by_cases hlt : lo < hi
    · obtain ⟨m, hm⟩ : ∃ m, ms[(lo + hi) / 2]? = some m := ⟨_, List.getElem?_eq_getElem (by rw [HN.out]; omega)⟩
      have hgl := hg (by omega)
      have k0 : wr.cell? ⟨g, (lo + hi) / 2 * 4, none⟩ = some (.string m.nm) := (hb.cell (p := ⟨g, (lo + hi) / 2 * 4, none⟩) hgl).trans (HC.out _ _ (cellsD_at hm (j := 0) rfl))
      have k1 : wr.cell? ⟨g, (lo + hi) / 2 * 4 + 1, none⟩ = some m.vV := (hb.cell (p := ⟨g, (lo + hi) / 2 * 4 + 1, none⟩) hgl).trans (HC.out _ _ (cellsD_at hm (j := 1) rfl))
      have k2 : wr.cell? ⟨g, (lo + hi) / 2 * 4 + 2, none⟩ = some m.dV := (hb.cell (p := ⟨g, (lo + hi) / 2 * 4 + 2, none⟩) hgl).trans (HC.out _ _ (cellsD_at hm (j := 2) rfl))
      have k3 : wr.cell? ⟨g, (lo + hi) / 2 * 4 + 3, none⟩ = some (.int .i64 m.same) := (hb.cell (p := ⟨g, (lo + hi) / 2 * 4 + 3, none⟩) hgl).trans (HC.out _ _ (cellsD_at hm (j := 3) rfl))
      have HM := Lib.hid hm
      clear hm
      have hcr := cmpN_range m.nm s
      cases hls : ltN m.nm s with
      | true =>
        have hc0 : cmpN m.nm s < 0 := by have := cmpN_lt m.nm s; rw [hls] at this; simpa using this
        have HLS := Lib.hid hls
        clear hls
        go_wp2_with (go_at_call 78; refine (closure_any _ _ _ _ _ _).mono ?_; rintro e w' ⟨rfl, hb1⟩)
        go_roundw
        case rel =>
          refine ⟨(lo + hi) / 2 + 1, hi, ?_, rfl, by omega, hin, fun k a hk ha => ?_, HB.out, hb.trans (hb1.mono hb.size)⟩
          · rw [show ((lo : Int) + (hi : Int)) / 2 + 1 = (((lo + hi) / 2 + 1 : Nat) : Int) by omega]
          · rcases Nat.lt_or_ge k ((lo + hi) / 2) with h2 | h2
            · exact ltN_trans (rise_at HR.out h2 ha (by rw [List.getElem?_map, HM.out]; rfl)) HLS.out
            · have : k = (lo + hi) / 2 := by omega
              subst this
              rw [List.getElem?_map, HM.out] at ha
              cases ha
              exact HLS.out
        case measure => simp [intOf]; omega
      | false =>
        have hc0 : ¬ (cmpN m.nm s < 0) := by have := cmpN_lt m.nm s; rw [hls] at this; simpa using this
        have HLS := Lib.hid hls
        clear hls
        go_wp2_with (go_at_call 78; refine (closure_any _ _ _ _ _ _).mono ?_; rintro e w' ⟨rfl, hb1⟩)
        go_roundw
        case rel =>
          refine ⟨lo, (lo + hi) / 2, rfl, ?_, by omega, by omega, HA.out, fun k a hk ha => ?_, hb.trans (hb1.mono hb.size)⟩
          · rw [show ((lo : Int) + (hi : Int)) / 2 = (((lo + hi) / 2 : Nat) : Int) by omega]
          · rcases Nat.lt_or_ge ((lo + hi) / 2) k with h2 | h2
            · have h3 := rise_at HR.out h2 (show (ms.map MF.nm)[(lo + hi) / 2]? = some m.nm by rw [List.getElem?_map, HM.out]; rfl) ha
              cases hak : ltN a s with
              | false => rfl
              | true => have := ltN_trans h3 hak; rw [HLS.out] at this; cases this
            · have : k = (lo + hi) / 2 := by omega
              subst this
              rw [List.getElem?_map, HM.out] at ha
              cases ha
              exact HLS.out
        case measure => simp [intOf]; omega
    · obtain rfl : lo = hi := by omega
      have i0 : ¬ ((lo : Int) < (lo : Int)) := by omega
      clear hlt hlh
      have hp : lo = posN (ms.map MF.nm) s := posN_unique (by rw [List.length_map, HN.out]; exact hin) (fun k a hk ha => HA.out k a hk ha) (fun a ha => HB.out lo a (Nat.le_refl _) ha)
      have HP := Lib.hid hp
      clear hp
      by_cases hn2 : lo < n
      · obtain ⟨m, hm⟩ : ∃ m, ms[lo]? = some m := ⟨_, List.getElem?_eq_getElem (by rw [HN.out]; omega)⟩
        have hgl := hg (by omega)
        have k0 : wr.cell? ⟨g, lo * 4, none⟩ = some (.string m.nm) := (hb.cell (p := ⟨g, lo * 4, none⟩) hgl).trans (HC.out _ _ (cellsD_at hm (j := 0) rfl))
        have k1 : wr.cell? ⟨g, lo * 4 + 1, none⟩ = some m.vV := (hb.cell (p := ⟨g, lo * 4 + 1, none⟩) hgl).trans (HC.out _ _ (cellsD_at hm (j := 1) rfl))
        have k2 : wr.cell? ⟨g, lo * 4 + 2, none⟩ = some m.dV := (hb.cell (p := ⟨g, lo * 4 + 2, none⟩) hgl).trans (HC.out _ _ (cellsD_at hm (j := 2) rfl))
        have k3 : wr.cell? ⟨g, lo * 4 + 3, none⟩ = some (.int .i64 m.same) := (hb.cell (p := ⟨g, lo * 4 + 3, none⟩) hgl).trans (HC.out _ _ (cellsD_at hm (j := 3) rfl))
        have i1 : (lo : Int) < (n : Int) := by omega
        have hcr := cmpN_range m.nm s
        have hh : Hid (hasN (ms.map MF.nm) s = (cmpN m.nm s == 0)) := by
          show hasN (ms.map MF.nm) s = (cmpN m.nm s == 0)
          rw [hasN, ← HP.out, List.getElem?_map, hm]
          simp only [Option.map_some, Option.some.injEq]
          rw [Bool.eq_iff_iff]
          simp only [decide_eq_true_eq, beq_iff_eq]
          exact (cmpN_eq m.nm s).symm
        clear hm
        go_wp2_with (go_at_call 78; refine (closure_any _ _ _ _ _ _).mono ?_; rintro e w' ⟨rfl, hb1⟩)
        go_ret2
        refine ⟨?_, hb.trans (hb1.mono hb.size)⟩
        rw [hh.out, ← HP.out]
        rfl
      · have i1 : ¬ ((lo : Int) < (n : Int)) := by omega
        have hh : Hid (hasN (ms.map MF.nm) s = false) := by
          show hasN (ms.map MF.nm) s = false
          rw [hasN, ← HP.out, List.getElem?_eq_none (by rw [List.length_map, HN.out]; omega)]
          rfl
        go_wp2_with (go_at_call 78; refine (closure_any _ _ _ _ _ _).mono ?_; rintro e w' ⟨rfl, hb1⟩)
        go_ret2
        refine ⟨?_, hb⟩
        rw [hh.out, ← HP.out]
        rfl

set_option maxHeartbeats 1000000 in
theorem search_none (s : ByteArray) (w : World) (c : Nat) :
    Calls Try.prog 77 #[.slice none 0 c, .string s, .func (.func 78) #[] #[]] w fun e w' =>
      e = .returned (.tuple #[.int .i64 (0 : Nat), .bool false]) ∧ Below w.heap.size w w' := by
  go_enter Try.func77, Try.ntmps77
  go_wp2
  go_loopw [9, 10] (fun i j wr => i = .int .i64 0 ∧ j = .int .i64 0 ∧ wr = w) (fun i j _ => ((intOf j) - (intOf i)).toNat)
  case atStart => exact ⟨rfl, rfl, rfl⟩
  case round =>
    obtain ⟨rfl, rfl, rfl⟩ := hrel
    go_wp2
    go_ret2
    exact ⟨rfl, Below.refl _ _⟩

/-- (*Disk).find -/
theorem find_any {F : Nat → Prop} {D : PD} {vL : Value} {l : Int} {ms : List MF} (g : Nat) (s : ByteArray) (w : World) (h : DiskIn w g F D vL l ms) :
    Calls Try.prog 64 #[.pointer (some ⟨g, 0, none⟩), .string s] w fun e w' => e = .returned (.tuple #[.int .i64 (D.pos s), .bool (D.has s)]) ∧ Below w.heap.size w w' := by
  have c0 := h.c0
  have hp : D.pos s = posN (ms.map MF.nm) s := by rw [PD.pos, h.nmL]
  have hh : D.has s = hasN (ms.map MF.nm) s := by rw [PD.has, h.nmL]
  rw [hp, hh]
  obtain ⟨p, hp1⟩ : ∃ p, p = posN (ms.map MF.nm) s := ⟨_, rfl⟩
  obtain ⟨b, hb1⟩ : ∃ b, b = hasN (ms.map MF.nm) s := ⟨_, rfl⟩
  have hf := h.few
  have hcon : Calls Try.prog 77 #[vL, .string s, .func (.func 78) #[] #[]] w fun e w' => e = .returned (.tuple #[.int .i64 p, .bool b]) ∧ Below w.heap.size w w' := by
    rw [hp1, hb1]
    rcases Nat.eq_zero_or_pos ms.length with h0 | h0
    · have hms : ms = [] := List.eq_nil_of_length_eq_zero h0
      subst hms
      obtain ⟨A, c, rfl, _, _, _⟩ := h.slice (n := 0) rfl
      rcases h.row.2 with ⟨hv, _⟩ | ⟨gr, cap, cur, hv, hb, hg, hnc, hcm, hcs, ht⟩
      · cases hv
        exact search_none s w 0
      · simp only [List.length_nil, Value.slice.injEq, true_and] at hv
        obtain ⟨rfl, rfl⟩ := hv
        exact search_any gr c 0 [] s w rfl (by omega) (fun i v hv => by simp [cellsD] at hv) (fun h => by omega) rise_nil
    · obtain ⟨gr, cap, rfl, hnc, hcm, hne, hF, _⟩ := h.rowAt h0
      exact search_any gr cap ms.length ms s w rfl (by omega) (fun i v hv => by have := h.row.cells (g := gr) rfl i v hv; rwa [Addr.add_lit, Nat.zero_add] at this) (fun _ => h.lt _ hF) (by rw [← h.nmL]; exact h.rise)
  have HC := Lib.hid hcon
  rw [← hp1, ← hb1]
  clear hcon hp hh hp1 hb1 h hf
  go_enter Try.func64, Try.ntmps64
  go_wp2_with (go_at_call 77; refine HC.out.mono ?_; rintro e w' ⟨rfl, hb⟩)
  go_ret2
  exact ⟨rfl, hb⟩

end Go.Proofs.Ytaccmjgnggepjaa
/-
  Package disk's small functions: names, copies, the count of calls.
-/
namespace Go.Proofs.Ytaccmjgnggepjaa
open Go.RowKit

set_option maxHeartbeats 2000000 in
theorem isNameByte_any (c : Int) (w : World) : Calls Try.prog 60 #[.int .u8 c] w fun e w' => e = .returned (.bool (okC c)) ∧ w = w' := by
  have key : ∀ b : Bool, okC c = b → Calls Try.prog 60 #[.int .u8 c] w fun e w' => e = .returned (.bool b) ∧ w = w' := by
    intro b hb
    unfold okC at hb
    by_cases h1 : (97 : Int) ≤ c <;> by_cases h2 : c ≤ 122 <;> by_cases h3 : (48 : Int) ≤ c <;> by_cases h4 : c ≤ 57 <;> by_cases h5 : c = 46 <;> by_cases h6 : c = 45
    all_goals first | (exfalso; omega) | skip
    all_goals
      simp [h1, h2, h3, h4, h5, h6] at hb
      subst hb
      go_enter Try.func60, Try.ntmps60
      go_wp2
      go_ret
      first | exact ⟨rfl, rfl⟩ | (refine ⟨?_, rfl⟩; show Ending.returned (.bool (c == 46 || c == 45)) = _; simp [h5, h6])
  exact key _ rfl

theorem byt_at {s : ByteArray} {k : Nat} (h : k < s.size) : (byt s)[k]? = some ((s[k]'h).toNat : Int) := by
  have hl : k < s.data.toList.length := by simpa using h
  simp only [byt, List.getElem?_map, List.getElem?_eq_getElem hl, Option.map_some]
  rfl
theorem all_drop {l : List Int} {p : Int → Bool} {k : Nat} {x : Int} (h : l[k]? = some x) : (l.drop k).all p = (p x && (l.drop (k + 1)).all p) := by
  obtain ⟨hk, rfl⟩ := List.getElem?_eq_some_iff.1 h
  rw [List.drop_eq_getElem_cons hk, List.all_cons]

/-- what holds at the label -/
inductive NameJ (p : Prop) (w : World) : Act → World → Prop
  | mk (u0 u1 u2 u3 u4 u5 u6 u7 u8 u9 u10 u11 u12 u13 u14 u15 u16 u17 u18 u19 u20 u21 u22 : Value) (h : p) : NameJ p w { tmps := #[u0, u1, u2, u3, u4, u5, u6, u7, u8, u9, u10, u11, u12, u13, u14, u15, u16, u17, u18, u19, u20, u21, u22], defers := [] } w
theorem NameJ_elim {p : Prop} {w : World} {G : Act → World → Prop} (h : ∀ (u0 u1 u2 u3 u4 u5 u6 u7 u8 u9 u10 u11 u12 u13 u14 u15 u16 u17 u18 u19 u20 u21 u22 : Value), p → G { tmps := #[u0, u1, u2, u3, u4, u5, u6, u7, u8, u9, u10, u11, u12, u13, u14, u15, u16, u17, u18, u19, u20, u21, u22], defers := [] } w) : ∀ a' w', NameJ p w a' w' → G a' w' := fun a' w' k => by
  cases k with
  | mk u0 u1 u2 u3 u4 u5 u6 u7 u8 u9 u10 u11 u12 u13 u14 u15 u16 u17 u18 u19 u20 u21 u22 hp => exact h _ _ _ _ _ _ _ _ _ _ _ _ _ _ _ _ _ _ _ _ _ _ _ hp

set_option maxHeartbeats 2000000 in
theorem isName_is (b : Bool) (s : ByteArray) (w : World) (hs : s.size ≤ maxLen) (hb : okName s = b) : Calls Try.prog 38 #[.string s] w fun e w' => e = .returned (.bool b) ∧ w = w' := by
  unfold maxLen at hs
  have HB := Lib.hid hb
  clear hb
  go_enter Try.func38, Try.ntmps38
  go_wp2_with fail
  refine wp_scope_jumps 0 (NameJ (b = false) w) (fun _ _ => 0) rfl ?_ ?_
  · by_cases h1 : s.size < 1
    · have j1 : (s.size : Int) < 1 := by omega
      have HN : Hid (b = false) := by
        show b = false
        rw [← HB.out]
        simp only [okName, Bool.and_eq_false_imp, decide_eq_true_eq]
        intro h; omega
      go_wp2_with fail
      go_step3
      show 0 = 0 ∧ NameJ (b = false) w _ _
      exact ⟨rfl, .mk _ _ _ _ _ _ _ _ _ _ _ _ _ _ _ _ _ _ _ _ _ _ _ HN.out⟩
    · have j1 : ¬ ((s.size : Int) < 1) := by omega
      by_cases h2 : 32 < s.size
      · have j2 : (32 : Int) < (s.size : Int) := by omega
        have HN : Hid (b = false) := by
          show b = false
          rw [← HB.out]
          simp only [okName, Bool.and_eq_false_imp, decide_eq_true_eq]
          intro h h'; omega
        go_wp2_with fail
        go_step3
        show 0 = 0 ∧ NameJ (b = false) w _ _
        exact ⟨rfl, .mk _ _ _ _ _ _ _ _ _ _ _ _ _ _ _ _ _ _ _ _ _ _ _ HN.out⟩
      · have j2 : ¬ ((32 : Int) < (s.size : Int)) := by omega
        have HA : Hid ((byt s).all okC = b) := by
          show _ = b
          rw [← HB.out]
          simp only [okName]
          rw [decide_eq_true (by omega : 1 ≤ s.size), decide_eq_true (by omega : s.size ≤ 32), Bool.true_and, Bool.true_and]
        go_wp2_with fail
        go_loop [3, 14] (fun _ i => ∃ k : Nat, i = .int .i64 k ∧ k ≤ s.size ∧ Hid (((byt s).drop k).all okC = b)) (fun _ i => s.size - (intOf i).toNat)
        case atStart => exact ⟨0, rfl, by omega, by rw [List.drop_zero]; exact HA.out⟩
        case round =>
          obtain ⟨k, rfl, hk, HR⟩ := hrel
          by_cases hlt : k < s.size
          · have hx := all_drop (p := okC) (byt_at hlt)
            rw [HR.out] at hx
            have HX := Lib.hid hx
            clear hx
            have i0 : (0 : Int) ≤ (k : Int) := by omega
            have i1 : (k : Int) < (s.size : Int) := by omega
            cases hoc : okC ((s[k]'hlt).toNat : Int) with
            | true =>
              have HN : Hid (((byt s).drop (k + 1)).all okC = b) := by
                show _ = b
                have h3 := HX.out
                rw [hoc, Bool.true_and] at h3
                exact h3.symm
              have HO := Lib.hid hoc
              clear hoc
              go_wp2_with (go_at_call 60; refine (isNameByte_any _ _).mono ?_; rintro e w' ⟨he, rfl⟩; rw [HO.out] at he; subst he)
              go_round
              case rel => exact ⟨k + 1, by go_num, by omega, HN⟩
              case measure => simp [intOf]; omega
            | false =>
              have HN : Hid (b = false) := by
                show b = false
                have h3 := HX.out
                rw [hoc, Bool.false_and] at h3
                exact h3
              have HO := Lib.hid hoc
              clear hoc
              go_wp2_with (go_at_call 60; refine (isNameByte_any _ _).mono ?_; rintro e w' ⟨he, rfl⟩; rw [HO.out] at he; subst he)
              go_step3
              show 0 = 0 ∧ NameJ (b = false) w _ _
              exact ⟨rfl, .mk _ _ _ _ _ _ _ _ _ _ _ _ _ _ _ _ _ _ _ _ _ _ _ HN.out⟩
          · have HN : Hid (b = true) := by
              show b = true
              rw [← HR.out, List.drop_eq_nil_of_le (by rw [byt_length]; omega)]
              rfl
            have i1 : ¬ ((k : Int) < (s.size : Int)) := by omega
            go_wp2_with fail
            simp only [Exit.jump]
            go_ret
            exact ⟨ret_bool HN.out.symm, rfl⟩
  · refine NameJ_elim ?_
    intro u0 u1 u2 u3 u4 u5 u6 u7 u8 u9 u10 u11 u12 u13 u14 u15 u16 u17 u18 u19 u20 u21 u22 hno
    have HN := Lib.hid hno
    clear hno
    go_wp2_with fail
    simp only [Exit.jump]
    go_ret
    exact ⟨ret_bool HN.out.symm, rfl⟩

theorem isName_any (s : ByteArray) (w : World) (hs : s.size ≤ maxLen) : Calls Try.prog 38 #[.string s] w fun e w' => e = .returned (.bool (okName s)) ∧ w = w' := isName_is _ s w hs rfl

/-- strings.Clone -/
theorem clone_any (s : ByteArray) (w : World) (hs : s.size ≤ 1000000) : Calls Try.prog 39 #[.string s] w fun e w' => e = .returned (.string s) ∧ Below w.heap.size w w' := by
  go_enter Try.func39, Try.ntmps39
  go_wp2_with (go_at_call 61; refine (Try.stringslite_Clone _ _ (by omega)).mono ?_; rintro e w' ⟨rfl, hb⟩)
  go_ret
  exact ⟨rfl, hb⟩
/-- bytes.Clone -/
theorem bclone_any (A : Option Addr) (n c : Nat) (zs : List Int) (w : World) (hz : zs.length = n) (hr : Rd w A (u8s zs)) (hn : n ≤ 1073741824) : Calls Try.prog 40 #[.slice A n c] w (Made w.heap.size 5 w (u8s zs)) := by
  cases A with
  | none =>
    refine (Try.bytes_Clone_nil n c w).mono ?_
    rintro e w' ⟨rfl, rfl⟩
    have : zs = [] := by
      rcases Nat.eq_zero_or_pos zs.length with h0 | h0
      · exact List.eq_nil_of_length_eq_zero h0
      · obtain ⟨b, off, he, _⟩ := hr.open_ (by rw [u8s_length]; omega)
        cases he
    subst this
    exact ⟨_, rfl, World.ownsRow_nil _ _ _ _, Below.refl _ _⟩
  | some a =>
    refine (Try.bytes_Clone_at a n c zs w hz (by omega) fun i hi => ?_).mono ?_
    · obtain ⟨b, off, he, _, hc⟩ := hr.open_ (by rw [u8s_length]; omega)
      cases he
      rw [Addr.add_lit, hc i _ (u8s_at (by omega)), List.getD_eq_getElem?_getD]
    · rintro e w' ⟨v', rfl, ho, _, hb⟩
      exact ⟨v', rfl, own_cast ho (by rw [u8s_length, hz]), hb⟩

end Go.Proofs.Ytaccmjgnggepjaa
/-
  Package disk: the count of calls, the power; open.
-/
namespace Go.Proofs.Ytaccmjgnggepjaa
open Go.RowKit

section
variable {w w' : World} {g : Nat} {F F' : Nat → Prop} {D D' : PD} {vL : Value} {l l' : Int} {ms : List MF}
/-- only its own block has turned, but not its files -/
theorem DiskIn.turn (h : DiskIn w g F D vL l ms) (ht : Touch (fun k => k = g) w w') (hb : w'.heap[g]? = some (.cells #[vL, .int .i64 D'.calls, .int .i64 l', .bool D'.off] 76 (0, 0))) (hL : D'.L = D.L)
    (ho : D'.off = false → l' = D'.left) (hl : -9223372036854775808 ≤ l' ∧ l' ≤ 9223372036854775807) : DiskIn w' g F D' vL l' ms where
  blk := hb
  row := own_kept h.row fun k hk hl => ht.block k hl (fun e => by
    subst e
    have hnd := h.nd
    simp only [dblks, List.nodup_cons, List.mem_append, hk, Option.toList_some, List.mem_singleton, true_or, not_true_eq_false, false_and] at hnd)
  els := fun m hm => (h.els m hm).kept fun k hk => ht.block k (h.lt _ (h.elF hm hk)) (fun e => by
    subst e
    have hnd := h.nd
    simp only [dblks, List.nodup_cons, List.mem_append, List.mem_flatMap] at hnd
    exact hnd.1 (.inr ⟨m, hm, hk⟩))
  nd := h.nd
  inF := h.inF
  lt := fun k hf => Nat.lt_of_lt_of_le (h.lt k hf) ht.size
  eqL := by rw [hL]; exact h.eqL
  rise := by rw [hL]; exact h.rise
  few := h.few
  okl := ho
  lr := hl
end

theorem begin_no (g : Nat) (s : ByteArray) (w : World) (hs : s.size ≤ maxLen) (hn : okName s = false) :
    Calls Try.prog 76 #[.pointer (some ⟨g, 0, none⟩), .string s] w fun e w' => e = .returned (.int .i64 1) ∧ w = w' := by
  go_enter Try.func76, Try.ntmps76
  go_wp2_with (go_at_call 38; refine (isName_is false _ _ hs hn).mono ?_; rintro e w' ⟨rfl, rfl⟩)
  go_ret
  exact ⟨rfl, rfl⟩

def BeginTo (g : Nat) (F : Nat → Prop) (D : PD) (vL : Value) (ms : List MF) (w w' : World) : Prop := ∃ l, DiskIn w' g F D vL l ms ∧ Touch (fun k => k = g) w w'

set_option maxHeartbeats 2000000 in
theorem begin_yes {F : Nat → Prop} {D : PD} {vL : Value} {l : Int} {ms : List MF} (b : Bool) (g : Nat) (s : ByteArray) (w : World) (h : DiskIn w g F D vL l ms) (hs : s.size ≤ maxLen) (hn : okName s = true) (hc : D.calls ≤ 1000000) (hb : D.tick.off = b) :
    Calls Try.prog 76 #[.pointer (some ⟨g, 0, none⟩), .string s] w fun e w' => e = .returned (.int .i64 (if b = true then 9 else 0)) ∧ BeginTo g F D.tick vL ms w w' := by
  have c1 := h.c1
  have c2 := h.c2
  have c3 := h.c3
  have f1 := h.fz 1
  have f2 := h.fz 2
  have f3 := h.fz 3
  have hlr := h.lr
  have hcc : ((D.calls : Int) + 1) = ((D.calls + 1 : Nat) : Int) := by omega
  -- what the block holds behind it
  have fin : ∀ (w' : World) (D' : PD) (l' : Int), D' = D.tick → Touch (fun k => k = g) w w' → w'.heap[g]? = some (.cells #[vL, .int .i64 ((D.calls : Int) + 1), .int .i64 l', .bool D'.off] 76 (0, 0)) → (D'.off = false → l' = D'.left) → (-9223372036854775808 ≤ l' ∧ l' ≤ 9223372036854775807) → BeginTo g F D.tick vL ms w w' := by
    intro w' D' l' e ht hb ho hl
    subst e
    exact ⟨l', h.turn ht (by rw [tick_calls, ← hcc]; exact hb) (tick_L D) ho hl, ht⟩
  have HF := Lib.hid fin
  have HBLK := Lib.hid h.blk
  have HT : Hid (Touch (fun k => k = g) w w) := Touch.refl _ _
  clear fin hcc
  cases hoff : D.off with
  | true =>
    have htk : D.tick = { D with calls := D.calls + 1 } := by unfold PD.tick; rw [if_pos hoff]
    have hb1 : b = true := by rw [← hb, htk]; exact hoff
    subst hb1
    rw [hoff] at c3
    have HTK := Lib.hid htk
    have HOFF := Lib.hid hoff
    clear htk hoff hb
    have hne : Hid ((D.tick).off = true) := by show _ = true; rw [HTK.out]; exact HOFF.out
    by_cases hl : 0 < l
    · go_enter Try.func76, Try.ntmps76
      go_wp2_with (go_at_call 38; refine (isName_is true _ _ hs hn).mono ?_; rintro e w' ⟨rfl, rfl⟩)
      go_ret
      refine ⟨rfl, HF.out _ D.tick (l - 1) rfl ?_ ?_ (fun h => by rw [hne.out] at h; cases h) ⟨by omega, by omega⟩⟩
      · exact ((HT.out.set (.inl rfl) _).set (.inl rfl) _).set (.inl rfl) _
      · rw [hne.out]
        exact heap_setCell_same _ g 3 _ _ _ (heap_setCell_same _ g 2 _ _ _ (heap_setCell_same _ g 1 _ _ _ HBLK.out))
    · go_enter Try.func76, Try.ntmps76
      go_wp2_with (go_at_call 38; refine (isName_is true _ _ hs hn).mono ?_; rintro e w' ⟨rfl, rfl⟩)
      go_ret
      refine ⟨rfl, HF.out _ D.tick l rfl ?_ ?_ (fun h => by rw [hne.out] at h; cases h) ⟨by omega, by omega⟩⟩
      · exact HT.out.set (.inl rfl) _
      · have := heap_setCell_same w g 1 _ _ (.int .i64 ((D.calls : Int) + 1)) HBLK.out
        rw [hne.out]
        rw [HOFF.out] at this
        exact this
  | false =>
    have hl0 := h.okl hoff
    subst hl0
    rw [hoff] at c3
    rcases Nat.eq_zero_or_pos D.left with h0 | h0
    · have htk : D.tick = { D with calls := D.calls + 1 } := by unfold PD.tick; rw [if_neg (by rw [hoff]; decide), if_pos h0]
      have hb1 : b = false := by rw [← hb, htk]; exact hoff
      subst hb1
      have i0 : ¬ ((0 : Int) < (D.left : Int)) := by omega
      have hne : Hid ((D.tick).off = false) := by show _ = false; rw [htk]; exact hoff
      have hlf : Hid ((D.tick).left = D.left) := by show _ = _; rw [htk]
      have HOFF := Lib.hid hoff
      clear hoff hb htk h0
      go_enter Try.func76, Try.ntmps76
      go_wp2_with (go_at_call 38; refine (isName_is true _ _ hs hn).mono ?_; rintro e w' ⟨rfl, rfl⟩)
      go_ret
      refine ⟨rfl, HF.out _ D.tick D.left rfl ?_ ?_ (fun h => by rw [hlf.out]) ⟨by omega, by omega⟩⟩
      · exact HT.out.set (.inl rfl) _
      · have := heap_setCell_same w g 1 _ _ (.int .i64 ((D.calls : Int) + 1)) HBLK.out
        rw [hne.out]
        rw [HOFF.out] at this
        exact this
    · by_cases h1 : D.left = 1
      · have htk : D.tick = { D with calls := D.calls + 1, left := 0, off := true } := by unfold PD.tick; rw [if_neg (by rw [hoff]; decide), if_neg (by omega), if_pos h1]
        have hb1 : b = true := by rw [← hb, htk]
        subst hb1
        have i0 : (0 : Int) < (D.left : Int) := by omega
        have hne : Hid ((D.tick).off = true) := by show _ = true; rw [htk]
        have i1 : ((D.left : Int) - 1 == 0) = true := by simp; omega
        have i2 : (D.left : Int) - 1 = 0 := by omega
        have HOFF := Lib.hid hoff
        have HI2 := Lib.hid i2
        have HI1 := Lib.hid i1
        clear hoff hb htk h1 i1 h0
        go_enter Try.func76, Try.ntmps76
        go_wp2_with (go_at_call 38; refine (isName_is true _ _ hs hn).mono ?_; rintro e w' ⟨rfl, rfl⟩)
        go_ret
        refine ⟨rfl, HF.out _ D.tick 0 rfl ?_ ?_ (fun h => by rw [hne.out] at h; cases h) ⟨by omega, by omega⟩⟩
        · exact ((HT.out.set (.inl rfl) _).set (.inl rfl) _).set (.inl rfl) _
        · rw [hne.out]
          exact heap_setCell_same _ g 3 _ _ _ (heap_setCell_same _ g 2 _ _ _ (heap_setCell_same _ g 1 _ _ _ HBLK.out))
      · have htk : D.tick = { D with calls := D.calls + 1, left := D.left - 1 } := by unfold PD.tick; rw [if_neg (by rw [hoff]; decide), if_neg (by omega), if_neg h1]
        have hb1 : b = false := by rw [← hb, htk]; exact hoff
        subst hb1
        have i0 : (0 : Int) < (D.left : Int) := by omega
        have hne : Hid ((D.tick).off = false) := by show _ = false; rw [htk]; exact hoff
        have hlf : Hid (((D.tick).left : Int) = (D.left : Int) - 1) := by show _ = _; rw [htk]; show ((D.left - 1 : Nat) : Int) = _; omega
        have i1 : ((D.left : Int) - 1 == 0) = false := by simp; omega
        have i2 : ¬ ((D.left : Int) - 1 = 0) := by omega
        have HOFF := Lib.hid hoff
        clear hoff hb htk h1 h0
        go_enter Try.func76, Try.ntmps76
        go_wp2_with (go_at_call 38; refine (isName_is true _ _ hs hn).mono ?_; rintro e w' ⟨rfl, rfl⟩)
        go_ret
        refine ⟨rfl, HF.out _ D.tick ((D.left : Int) - 1) rfl ?_ ?_ (fun _ => hlf.out.symm) ⟨by omega, by omega⟩⟩
        · exact ((HT.out.set (.inl rfl) _).set (.inl rfl) _).set (.inl rfl) _
        · rw [hne.out]
          exact heap_setCell_same _ g 3 _ _ _ (heap_setCell_same _ g 2 _ _ _ (heap_setCell_same _ g 1 _ _ _ HBLK.out))

end Go.Proofs.Ytaccmjgnggepjaa
/-
  Package disk: open, and what is said of a disk behind a call.
-/
namespace Go.Proofs.Ytaccmjgnggepjaa
open Go.RowKit

section
variable {w w' w'' : World} {g : Nat} {F F' : Nat → Prop} {D D' : PD} {vL vL' : Value} {l l' : Int} {ms ms' : List MF}
/-- a disk anew -/
theorem DiskTo.make (ht : Touch F w w') (blk : w'.heap[g]? = some (.cells #[vL', .int .i64 D'.calls, .int .i64 l', .bool D'.off] 76 (0, 0)))
    (row : w'.ownsRow 0 82 4 vL' ms'.length (cellsD ms')) (els : ∀ m ∈ ms', FileIn w' m) (nd : (dblks g vL' ms').Nodup) (inF : ∀ k ∈ dblks g vL' ms', F k ∨ w.heap.size ≤ k)
    (eqL : D'.L = ms'.map MF.pf) (rise : RiseN (namesF D'.L)) (few : ms'.length ≤ 16) (okl : D'.off = false → l' = D'.left) (lr : -9223372036854775808 ≤ l' ∧ l' ≤ 9223372036854775807) : DiskTo g F D' w w' := by
  refine ⟨fun k => (F k ∨ w.heap.size ≤ k) ∧ k < w'.heap.size, ⟨vL', l', ms', ⟨blk, row, els, nd, fun k hk => ⟨inF k hk, ?_⟩, fun k hk => hk.2, eqL, rise, few, okl, lr⟩⟩, ht, fun k hk => hk.1⟩
  simp only [dblks, List.mem_cons, List.mem_append, Option.mem_toList, List.mem_flatMap] at hk
  rcases hk with rfl | hk | ⟨m, hm, hk⟩
  · exact (Array.getElem?_eq_some_iff.1 blk).1
  · exact (own_lt row hk).1
  · simp only [MF.blks, List.mem_append, Option.mem_toList] at hk
    rcases hk with hk | hk
    · exact (own_lt (els m hm).rV hk).1
    · exact (own_lt (els m hm).rD hk).1
theorem DiskTo.same (h : IsDisk w g F D) : DiskTo g F D w w := ⟨F, h, Touch.refl _ _, fun _ hk => .inl hk⟩
theorem DiskTo.lead (h : DiskTo g F D w w') (h2 : ∀ F', IsDisk w' g F' D → DiskTo g F' D' w' w'') : DiskTo g F D' w w'' := by
  obtain ⟨F1, hd, ht, hs⟩ := h
  obtain ⟨F2, hd2, ht2, hs2⟩ := h2 F1 hd
  refine ⟨F2, hd2, ht.trans ht2 hs, fun k hk => ?_⟩
  rcases hs2 k hk with h | h
  · exact hs k h
  · exact .inr (Nat.le_trans ht.size h)
/-- a step with the same footprint, then a disk anew -/
theorem DiskTo.behind (ht : Touch F w w') (h2 : DiskTo g F D' w' w'') : DiskTo g F D' w w'' := by
  obtain ⟨F2, hd2, ht2, hs2⟩ := h2
  refine ⟨F2, hd2, ht.trans ht2 (fun k hk => .inl hk), fun k hk => ?_⟩
  rcases hs2 k hk with h | h
  · exact .inl h
  · exact .inr (Nat.le_trans ht.size h)
theorem tick_pos (D : PD) (s : ByteArray) : D.tick.pos s = D.pos s := by rw [PD.pos, PD.pos, tick_L]
theorem tick_has (D : PD) (s : ByteArray) : D.tick.has s = D.has s := by rw [PD.has, PD.has, tick_L]
theorem BeginTo.touch (h : BeginTo g F D vL ms w w') (hg : F g) : Touch F w w' := by
  obtain ⟨_, _, ht⟩ := h
  exact ht.mono fun k hk => by rw [hk]; exact hg
end

theorem open_no (g : Nat) (s : ByteArray) (w : World) (hs : s.size ≤ maxLen) (hn : okName s = false) :
    Calls Try.prog 62 #[.pointer (some ⟨g, 0, none⟩), .string s] w fun e w' => e = .returned (.tuple #[.int .i64 0, .int .i64 1]) ∧ w = w' := by
  go_enter Try.func62, Try.ntmps62
  go_wp2_with (go_at_call 76; refine (begin_no _ _ _ hs hn).mono ?_; rintro e w' ⟨rfl, rfl⟩)
  go_ret2
  exact ⟨rfl, rfl⟩
theorem open_off {F : Nat → Prop} {D : PD} {vL : Value} {l : Int} {ms : List MF} (g : Nat) (s : ByteArray) (w : World) (h : DiskIn w g F D vL l ms) (hs : s.size ≤ maxLen) (hn : okName s = true) (hc : D.calls ≤ 1000000) (hb : D.tick.off = true) :
    Calls Try.prog 62 #[.pointer (some ⟨g, 0, none⟩), .string s] w fun e w' => e = .returned (.tuple #[.int .i64 0, .int .i64 9]) ∧ BeginTo g F D.tick vL ms w w' := by
  have HD := Lib.hid h
  go_enter Try.func62, Try.ntmps62
  go_wp2_with (go_at_call 76; refine (begin_yes true _ _ _ HD.out hs hn hc hb).mono ?_; rintro e w' ⟨rfl, hto⟩)
  go_ret2
  exact ⟨rfl, hto⟩
theorem BeginTo.below {w w' w'' : World} {g : Nat} {F : Nat → Prop} {D : PD} {vL : Value} {ms : List MF} (h : BeginTo g F D vL ms w w') (hb : Below w'.heap.size w' w'') : BeginTo g F D vL ms w w'' := by
  obtain ⟨l, hd, ht⟩ := h
  exact ⟨l, hd.below hb, ht.then hb⟩
theorem open_on {F : Nat → Prop} {D : PD} {vL : Value} {l : Int} {ms : List MF} (b : Bool) (p : Nat) (g : Nat) (s : ByteArray) (w : World) (h : DiskIn w g F D vL l ms) (hs : s.size ≤ maxLen) (hn : okName s = true) (hc : D.calls ≤ 1000000) (hb : D.tick.off = false) (hh : D.has s = b) (hp : D.pos s = p) :
    Calls Try.prog 62 #[.pointer (some ⟨g, 0, none⟩), .string s] w fun e w' => e = .returned (if b = true then .tuple #[.int .i64 p, .int .i64 0] else .tuple #[.int .i64 0, .int .i64 3]) ∧ BeginTo g F D.tick vL ms w w' := by
  have HD := Lib.hid h
  have HH := Lib.hid hh
  have HP := Lib.hid hp
  clear hh hp
  cases b
  all_goals
    go_enter Try.func62, Try.ntmps62
    go_wp2_with fail
    refine (begin_yes false _ _ _ HD.out hs hn hc hb).mono ?_
    rintro e w1 ⟨rfl, hto⟩
    have HT := Lib.hid hto
    obtain ⟨l1, hd1, ht1⟩ := hto
    go_wp2_with fail
    refine (find_any g s _ hd1).mono ?_
    rintro e w2 ⟨he, hb2⟩
    rw [tick_pos, tick_has, HH.out, HP.out] at he
    subst he
    go_wp2_with fail
    go_ret2
    exact ⟨rfl, HT.out.below hb2⟩

/-- Off -/
def dOff (D : PD) (n : Int) : PD := if n < 1 then { D with off := true } else if D.off = true then D else { D with left := n.toNat }
end Go.Proofs.Ytaccmjgnggepjaa
/-
  Package disk: Read, List.
-/
namespace Go.Proofs.Ytaccmjgnggepjaa
open Go.RowKit

def PD.visAt (D : PD) (s : ByteArray) : List Int := ((D.L[D.pos s]?).map PF.vis).getD []
def dRead (D : PD) (s : ByteArray) : List Int × Int :=
  if okName s = false then ([], 1) else if D.off = true then ([], 9) else if D.has s = true then (D.visAt s, 0) else ([], 3)
def dList (D : PD) : List ByteArray × Int := if D.off = true then ([], 9) else (namesF D.L, 0)

section
variable {w w' : World} {g : Nat} {F F' : Nat → Prop} {D D' : PD} {vL vL' : Value} {l l' : Int} {ms ms' : List MF} {s : ByteArray} {m : MF} {i : Nat}
theorem DiskIn.there (h : DiskIn w g F D vL l ms) (hh : D.has s = true) : ∃ m, ms[D.pos s]? = some m ∧ m.nm = s ∧ D.visAt s = m.vis ∧ D.pos s < ms.length := by
  have h1 := hasN_at hh
  rw [h.nmL] at h1
  have hp : D.pos s = posN (ms.map MF.nm) s := by rw [PD.pos, h.nmL]
  rw [← hp] at h1
  rw [List.getElem?_map] at h1
  cases hm : ms[D.pos s]? with
  | none => rw [hm] at h1; cases h1
  | some m =>
    rw [hm] at h1
    refine ⟨m, rfl, by simpa using h1, ?_, (List.getElem?_eq_some_iff.1 hm).1⟩
    rw [PD.visAt, h.eqL, List.getElem?_map, hm]
    rfl
/-- a file as it lies -/
structure AtFile (w : World) (gr i : Nat) (m : MF) : Prop where
  a0 : w.cell? ⟨gr, i * 4, none⟩ = some (.string m.nm)
  a1 : w.cell? ⟨gr, i * 4 + 1, none⟩ = some m.vV
  a2 : w.cell? ⟨gr, i * 4 + 2, none⟩ = some m.dV
  a3 : w.cell? ⟨gr, i * 4 + 3, none⟩ = some (.int .i64 m.same)
theorem DiskIn.file (h : DiskIn w g F D vL l ms) {gr n c : Nat} (hv : vL = .slice (some ⟨gr, 0, none⟩) n c) (hm : ms[i]? = some m) : AtFile w gr i m := by
  have hc := fun j v hv' => h.row.cells (g := gr) (by rw [hv]; rfl) j v hv'
  refine ⟨?_, ?_, ?_, ?_⟩
  · have := hc _ _ (cellsD_at hm (j := 0) rfl); rwa [Addr.add_lit, Nat.zero_add] at this
  · have := hc _ _ (cellsD_at hm (j := 1) rfl); rwa [Addr.add_lit, Nat.zero_add] at this
  · have := hc _ _ (cellsD_at hm (j := 2) rfl); rwa [Addr.add_lit, Nat.zero_add] at this
  · have := hc _ _ (cellsD_at hm (j := 3) rfl); rwa [Addr.add_lit, Nat.zero_add] at this
theorem DiskIn.rowfz (h : DiskIn w g F D vL l ms) {gr n c : Nat} (hv : vL = .slice (some ⟨gr, 0, none⟩) n c) (o : Nat) : w.frozen? ⟨gr, o, none⟩ = false := by
  subst hv
  obtain ⟨cur, hg, _⟩ := row_open (n := n) (cap := c) (by
    have := h.row
    rcases this.2 with ⟨hv, _⟩ | ⟨g', cap', cur, hv, _⟩
    · cases hv
    · cases hv; exact this)
  exact frozen_of_row w gr o _ _ hg
theorem FileIn.vals (h : FileIn w m) : ∃ AV nV cV AD nD cD, m.vV = .slice AV nV cV ∧ m.dV = .slice AD nD cD := by
  obtain ⟨A, c, h1, _⟩ := own_val h.rV
  obtain ⟨A', c', h2, _⟩ := own_val h.rD
  exact ⟨A, _, c, A', _, c', h1, h2⟩
theorem rd_own {B : Nat} {v : Value} {xs : List Int} (h : w.ownsRow B 5 1 v xs.length (u8s xs)) : ∃ A c, v = .slice A xs.length c ∧ xs.length ≤ c ∧ c ≤ maxLen ∧ Rd w A (u8s xs) := by
  obtain ⟨A, c, h1, h2, h3, h4, _, _⟩ := own_val h
  exact ⟨A, c, h1, h2, h3, h4⟩
end

set_option maxHeartbeats 2000000 in
theorem read_is {F : Nat → Prop} {D : PD} (g : Nat) (s : ByteArray) (w : World) (h : IsDisk w g F D) (hs : s.size ≤ maxLen) :
    Calls Try.prog 42 #[.pointer (some ⟨g, 0, none⟩), .string s] w (Made2 w.heap.size 5 w (u8s (dRead D s).1) (.int .i64 (dRead D s).2)) := by
  obtain ⟨vL, l, ms, h⟩ := h
  have c0 := h.c0
  have c3 := h.c3
  have HD := Lib.hid h
  cases hn : okName s with
  | false =>
    have hr : dRead D s = ([], 1) := by rw [dRead, if_pos hn]
    rw [hr]
    clear hr h
    go_enter Try.func42, Try.ntmps42
    go_wp2_with (go_at_call 38; refine (isName_is false _ _ hs hn).mono ?_; rintro e w' ⟨rfl, rfl⟩)
    go_ret2
    exact ⟨_, rfl, World.ownsRow_nil _ _ _ _, Below.refl _ _⟩
  | true =>
    cases hoff : D.off with
    | true =>
      have hr : dRead D s = ([], 9) := by rw [dRead, if_neg (by rw [hn]; decide), if_pos hoff]
      rw [hr]
      rw [hoff] at c3
      clear hr h hoff
      go_enter Try.func42, Try.ntmps42
      go_wp2_with (go_at_call 38; refine (isName_is true _ _ hs hn).mono ?_; rintro e w' ⟨rfl, rfl⟩)
      go_ret2
      exact ⟨_, rfl, World.ownsRow_nil _ _ _ _, Below.refl _ _⟩
    | false =>
      rw [hoff] at c3
      cases hh : D.has s with
      | false =>
        have hr : dRead D s = ([], 3) := by rw [dRead, if_neg (by rw [hn]; decide), if_neg (by rw [hoff]; decide), if_neg (by rw [hh]; decide)]
        rw [hr]
        have HH := Lib.hid hh
        clear hr h hoff hh
        go_enter Try.func42, Try.ntmps42
        go_wp2_with (first | (go_at_call 38; refine (isName_is true _ _ hs hn).mono ?_; rintro e w' ⟨rfl, rfl⟩) | (go_at_call 64; refine (find_any _ _ _ HD.out).mono ?_; rintro e w2 ⟨he, hb2⟩; rw [HH.out] at he; subst he))
        go_ret2
        exact ⟨_, rfl, World.ownsRow_nil _ _ _ _, hb2⟩
      | true =>
        obtain ⟨m, hm, hmn, hvis, hpl⟩ := h.there hh
        have hr : dRead D s = (m.vis, 0) := by rw [dRead, if_neg (by rw [hn]; decide), if_neg (by rw [hoff]; decide), if_pos hh, hvis]
        rw [hr]
        obtain ⟨gr, cap, hvL, hnc, hcm, hne, hF, hnb⟩ := h.rowAt (by omega)
        obtain ⟨p, hp⟩ : ∃ p, D.pos s = p := ⟨_, rfl⟩
        rw [hp] at hm hpl
        have hmem : m ∈ ms := List.mem_of_getElem? hm
        obtain ⟨nL, hnL⟩ : ∃ nL, ms.length = nL := ⟨_, rfl⟩
        rw [hnL] at hpl hvL hnc
        have hfew : nL ≤ 16 := by rw [← hnL]; exact h.few
        have hz1 := (h.els m hmem).z1
        have HH := Lib.hid hh
        have HP := Lib.hid hp
        have HMM := Lib.hid hmem
        have HM := Lib.hid hm
        have HVL := Lib.hid hvL
        subst hvL
        clear hr h hoff hh hp hm hmem hvis hmn hnL
        have i0 : (0 : Int) ≤ (p : Int) := by omega
        have i1 : (p : Int) < (nL : Int) := by omega
        go_enter Try.func42, Try.ntmps42
        go_wp2_with (first | (go_at_call 38; refine (isName_is true _ _ hs hn).mono ?_; rintro e w' ⟨rfl, rfl⟩) | fail)
        refine (find_any _ _ _ HD.out).mono ?_
        rintro e w2 ⟨he, hb2⟩
        rw [HH.out, HP.out] at he
        subst he
        have hd2 := HD.out.below hb2
        have k0 := hd2.c0
        have k1 := (hd2.file rfl HM.out).a1
        obtain ⟨AV, cV, hvV, hcV, hmV, hrV⟩ := rd_own (hd2.els m HMM.out).rV
        obtain ⟨nV, hnV⟩ : ∃ nV, m.vis.length = nV := ⟨_, rfl⟩
        rw [hnV] at hvV hcV hz1
        rw [hvV] at k1
        have HN := Lib.hid hnV
        clear hd2 hvV c0 c3 hnV
        go_wp2_with fail
        refine (bclone_any AV nV cV m.vis _ HN.out hrV (by omega)).mono ?_
        rintro e w3 ⟨v3, rfl, ho3, hb3⟩
        go_wp2_with fail
        go_ret2
        exact ⟨_, rfl, own_more ho3 hb2.size, hb2.trans (hb3.mono hb2.size)⟩

theorem info_str9 : (Try.prog.info? 9).map (fun i => (i.zero, i.size, i.bytes)) = some (some (.string ByteArray.empty), 1, 16) := by kernel_rfl
end Go.Proofs.Ytaccmjgnggepjaa
/-
  Package disk: a disk with another row of files, or another file in its place.
-/
namespace Go.Proofs.Ytaccmjgnggepjaa
open Go.RowKit

/-! ### what the calls do, on plain data -/
def PD.fileAt (D : PD) (s : ByteArray) : Option PF := if D.has s = true then D.L[D.pos s]? else none
def dOpen (D : PD) (s : ByteArray) (k : PF → PD × Int) : PD × Int :=
  if okName s = false then (D, 1) else if D.tick.off = true then (D.tick, 9) else match D.fileAt s with
    | none => (D.tick, 3)
    | some f => k f
def PD.with (D : PD) (L : List PF) : PD := { D.tick with L := L }
def dRemove (D : PD) (s : ByteArray) : PD × Int := dOpen D s fun _ => (D.with (D.L.take (D.pos s) ++ D.L.drop (D.pos s + 1)), 0)
def dCut (D : PD) (s : ByteArray) (n : Int) : PD × Int :=
  if n < 0 then (D, 1) else dOpen D s fun f => if (f.vis.length : Int) < n then (D.tick, 1) else (D.with (D.L.set (D.pos s) { f with vis := f.vis.take n.toNat }), 0)
def dSync (D : PD) (s : ByteArray) : PD × Int := dOpen D s fun f => (D.with (D.L.set (D.pos s) { f with dur := f.vis }), 0)
theorem dOpen_no {D : PD} {s : ByteArray} {k : PF → PD × Int} (h : okName s = false) : dOpen D s k = (D, 1) := by rw [dOpen, if_pos h]
theorem dOpen_off {D : PD} {s : ByteArray} {k : PF → PD × Int} (h : okName s = true) (ho : D.tick.off = true) : dOpen D s k = (D.tick, 9) := by rw [dOpen, if_neg (by rw [h]; decide), if_pos ho]
theorem dOpen_none {D : PD} {s : ByteArray} {k : PF → PD × Int} (h : okName s = true) (ho : D.tick.off = false) (hh : D.has s = false) : dOpen D s k = (D.tick, 3) := by
  rw [dOpen, if_neg (by rw [h]; decide), if_neg (by rw [ho]; decide), PD.fileAt, if_neg (by rw [hh]; decide)]
theorem dOpen_yes {D : PD} {s : ByteArray} {k : PF → PD × Int} {f : PF} (h : okName s = true) (ho : D.tick.off = false) (hh : D.fileAt s = some f) : dOpen D s k = k f := by
  rw [dOpen, if_neg (by rw [h]; decide), if_neg (by rw [ho]; decide), hh]

section
variable {w w1 w2 w' : World} {g : Nat} {F F' : Nat → Prop} {D D' T T' : PD} {vL vL' v2 : Value} {l l' : Int} {ms ms' ms2 : List MF} {s : ByteArray} {m m' : MF} {i : Nat}
theorem DiskIn.fileAt (h : DiskIn w g F D vL l ms) (hh : D.has s = true) (hm : ms[D.pos s]? = some m) : D.fileAt s = some m.pf := by
  rw [PD.fileAt, if_pos hh, h.eqL, List.getElem?_map, hm]
  rfl
theorem DiskIn.apart (h : DiskIn w g F D vL l ms) (hm : m ∈ ms) {k : Nat} (hk : k ∈ m.blks) : k ≠ g ∧ vL.ownBlock ≠ some k := by
  have hnd := h.nd
  simp only [dblks, List.nodup_cons, List.nodup_append, List.mem_append, List.mem_flatMap, Option.mem_toList] at hnd
  refine ⟨fun e => hnd.1 (.inr ⟨m, hm, by rw [← e]; exact hk⟩), fun e => hnd.2.2.2 k e k ⟨m, hm, hk⟩ rfl⟩
theorem DiskIn.ndF (h : DiskIn w g F D vL l ms) : (ms.flatMap MF.blks).Nodup := by
  have hnd := h.nd
  simp only [dblks, List.nodup_cons, List.nodup_append] at hnd
  exact hnd.2.2.1
theorem DiskIn.rowNe (h : DiskIn w g F D vL l ms) : vL.ownBlock ≠ some g := by
  have hnd := h.nd
  simp only [dblks, List.nodup_cons, List.mem_append, Option.mem_toList] at hnd
  exact fun e => hnd.1 (.inl e)

/-- another row -/
theorem DiskIn.rowTo (h : DiskIn w1 g F T vL l ms) (hg : w1.grownBy w2 vL.ownBlock) (hrow : w2.ownsRow 0 82 4 v2 ms2.length (cellsD ms2)) (hv2 : v2.ownBlock = vL.ownBlock ∨ v2.ownBlock = some w1.heap.size)
    (hel : ∀ m ∈ ms2, FileIn w1 m) (hbl : ∀ m ∈ ms2, ∀ k ∈ m.blks, F k ∧ k ≠ g ∧ vL.ownBlock ≠ some k) (hnd : (ms2.flatMap MF.blks).Nodup) (hL : T'.L = ms2.map MF.pf) (hr : RiseN (namesF T'.L)) (hf : ms2.length ≤ 16)
    (hc : T'.calls = T.calls) (hl : T'.left = T.left) (ho : T'.off = T.off) : DiskTo g F T' w1 (w2.setCell ⟨g, 0, none⟩ v2) := by
  have hgl : g < w1.heap.size := h.lt _ h.here
  have hbg : w2.heap[g]? = w1.heap[g]? := hg.block g hgl (fun e => h.rowNe e.symm)
  have ht : Touch F w1 (w2.setCell ⟨g, 0, none⟩ v2) := (Touch.grown (F := F) hg fun k hk => h.rowF hk).set (.inl h.here) _
  have hvg : v2.ownBlock ≠ some g := by
    rcases hv2 with e | e <;> rw [e]
    · exact h.rowNe
    · intro e'; cases e'; omega
  have hkeep : ∀ k, k ≠ g → (w2.setCell ⟨g, 0, none⟩ v2).heap[k]? = w2.heap[k]? := fun k hk => heap_setCell_other w2 ⟨g, 0, none⟩ k v2 hk
  refine DiskTo.make (vL' := v2) (l' := l) (ms' := ms2) ht ?_ ?_ ?_ ?_ ?_ hL hr hf ?_ h.lr
  · rw [hc, ho]
    exact heap_setCell_same _ g 0 _ _ _ (hbg.trans h.blk)
  · exact own_kept hrow fun k hk _ => hkeep k (fun e => hvg (by rw [hk, e]))
  · intro m hm
    refine (hel m hm).kept fun k hk => ?_
    obtain ⟨h1, h2, h3⟩ := hbl m hm k hk
    rw [hkeep k h2]
    exact hg.block k (h.lt k h1) (fun e => h3 e.symm)
  · simp only [dblks, List.nodup_cons, List.nodup_append, List.mem_append, List.mem_flatMap, Option.mem_toList]
    refine ⟨?_, ?_, hnd, ?_⟩
    · rintro (e | ⟨m, hm, hk⟩)
      · exact hvg e
      · exact (hbl m hm g hk).2.1 rfl
    · cases v2.ownBlock <;> simp
    · rintro a ha b ⟨m, hm, hk⟩ rfl
      obtain ⟨h1, _, h3⟩ := hbl m hm a hk
      rcases hv2 with e | e
      · exact h3 (by rw [← e]; exact ha)
      · rw [e] at ha
        cases ha
        exact absurd (h.lt _ h1) (by omega)
  · intro k hk
    simp only [dblks, List.mem_cons, List.mem_append, List.mem_flatMap, Option.mem_toList] at hk
    rcases hk with rfl | hk | ⟨m, hm, hk⟩
    · exact .inl h.here
    · rcases hv2 with e | e
      · exact .inl (h.rowF (by rw [← e]; exact hk))
      · rw [e] at hk; cases hk; exact .inr (Nat.le_refl _)
    · exact .inl (hbl m hm k hk).1
  · rw [ho, hl]; exact h.okl

theorem cells_one {w : World} {ms : List MF} (h : ∀ m ∈ ms, FileIn w m) : ∀ v ∈ cellsD ms, v.oneCell' = true := by
  intro v hv
  simp only [cellsD, List.mem_flatMap] at hv
  obtain ⟨m, hm, hv⟩ := hv
  obtain ⟨AV, nV, cV, AD, nD, cD, h1, h2⟩ := (h m hm).vals
  simp only [MF.cells, h1, h2, List.mem_cons, List.not_mem_nil, or_false] at hv
  rcases hv with rfl | rfl | rfl | rfl <;> rfl
theorem flat_sub {a b : List MF} (h : a.Sublist b) : (a.flatMap MF.blks).Sublist (b.flatMap MF.blks) := by
  induction h with
  | slnil => exact List.Sublist.refl _
  | cons x _ ih => rw [List.flatMap_cons]; exact ih.trans (List.sublist_append_right _ _)
  | cons_cons x _ ih => rw [List.flatMap_cons, List.flatMap_cons]; exact (List.Sublist.refl _).append ih
theorem erase_sub (ms : List MF) (i : Nat) : (ms.take i ++ ms.drop (i + 1)).Sublist ms := by
  rw [← List.eraseIdx_eq_take_drop_succ]
  exact List.eraseIdx_sublist ms i
theorem map_erase (ms : List MF) (i : Nat) : (ms.take i ++ ms.drop (i + 1)).map MF.pf = (ms.map MF.pf).take i ++ (ms.map MF.pf).drop (i + 1) := by
  rw [List.map_append, List.map_take, List.map_drop]
theorem names_erase (L : List PF) (i : Nat) : namesF (L.take i ++ L.drop (i + 1)) = (namesF L).take i ++ (namesF L).drop (i + 1) := by
  rw [namesF, namesF, List.map_append, List.map_take, List.map_drop]
end

end Go.Proofs.Ytaccmjgnggepjaa
/-
  Package disk: Remove.
-/
namespace Go.Proofs.Ytaccmjgnggepjaa
open Go.RowKit

theorem BeginTo.done {w w' : World} {g : Nat} {F : Nat → Prop} {D : PD} {vL : Value} {ms : List MF} (h : BeginTo g F D vL ms w w') (hg : F g) : DiskTo g F D w w' := by
  have ht := h.touch hg
  obtain ⟨l, hd, _⟩ := h
  exact ⟨F, ⟨_, _, _, hd⟩, ht, fun _ hk => .inl hk⟩

set_option maxHeartbeats 4000000 in
theorem remove_is {F : Nat → Prop} {D : PD} (g : Nat) (s : ByteArray) (w : World) (h : IsDisk w g F D) (hs : s.size ≤ maxLen) (hc : D.calls ≤ 1000000) :
    Calls Try.prog 41 #[.pointer (some ⟨g, 0, none⟩), .string s] w fun e w' => e = .returned (.int .i64 (dRemove D s).2) ∧ DiskTo g F (dRemove D s).1 w w' := by
  obtain ⟨vL, l, ms, h⟩ := h
  have HD := Lib.hid h
  cases hn : okName s with
  | false =>
    have hr : dRemove D s = (D, 1) := by rw [dRemove]; exact dOpen_no hn
    rw [hr]
    clear hr h
    go_enter Try.func41, Try.ntmps41
    go_wp2_with (go_at_call 62; refine (open_no _ _ _ hs hn).mono ?_; rintro e w' ⟨rfl, rfl⟩)
    go_ret
    exact ⟨rfl, DiskTo.same ⟨_, _, _, HD.out⟩⟩
  | true =>
    cases hoff : D.tick.off with
    | true =>
      have hr : dRemove D s = (D.tick, 9) := by rw [dRemove]; exact dOpen_off hn hoff
      rw [hr]
      clear hr h
      go_enter Try.func41, Try.ntmps41
      go_wp2_with (go_at_call 62; refine (open_off _ _ _ HD.out hs hn hc hoff).mono ?_; rintro e w' ⟨rfl, hto⟩)
      go_ret
      exact ⟨rfl, hto.done HD.out.here⟩
    | false =>
      cases hh : D.has s with
      | false =>
        have hr : dRemove D s = (D.tick, 3) := by rw [dRemove]; exact dOpen_none hn hoff hh
        rw [hr]
        clear hr h
        go_enter Try.func41, Try.ntmps41
        go_wp2_with (go_at_call 62; refine (open_on false _ _ _ _ HD.out hs hn hc hoff hh rfl).mono ?_; rintro e w' ⟨he, hto⟩; simp only [Bool.false_eq_true, if_false] at he; subst he)
        go_ret
        exact ⟨rfl, hto.done HD.out.here⟩
      | true =>
        obtain ⟨m, hm, hmn, hvis, hpl⟩ := h.there hh
        have hfa := h.fileAt hh hm
        have hfew := h.few
        obtain ⟨p, hp⟩ : ∃ p, D.pos s = p := ⟨_, rfl⟩
        rw [hp] at hm hpl
        obtain ⟨gr, cap, hvL, hnc, hcm, hne, hF, hnb⟩ := h.rowAt (by omega)
        have hmem : m ∈ ms := List.mem_of_getElem? hm
        have hr : dRemove D s = (D.with (D.L.take p ++ D.L.drop (p + 1)), 0) := by rw [dRemove, dOpen_yes hn hoff hfa, hp]
        rw [hr]
        obtain ⟨n, hnL⟩ : ∃ n, ms.length = n + 1 := ⟨ms.length - 1, by omega⟩
        rw [hnL] at hvL hnc
        have HVL := Lib.hid hvL
        have HNL := Lib.hid hnL
        have HM := Lib.hid hm
        have HMM := Lib.hid hmem
        have HP := Lib.hid hp
        have HH := Lib.hid hh
        subst hvL
        clear hr h hfa hvis hm hmem hmn hp hh
        have hpn : p ≤ n := by omega
        have hn15 : n ≤ 15 := by omega
        clear hnL hpl hfew
        go_enter Try.func41, Try.ntmps41
        go_wp2_with fail
        refine (open_on true p _ _ _ HD.out hs hn hc hoff HH.out HP.out).mono ?_
        rintro e w1 ⟨he, hto⟩
        simp only [if_true] at he
        subst he
        have HT := Lib.hid (hto.touch HD.out.here)
        obtain ⟨l1, hd1, _⟩ := hto
        have HD1 := Lib.hid hd1
        have k0 := hd1.c0
        have hrow := hd1.row
        rw [HNL.out] at hrow
        have hone : ∀ v ∈ cellsD ms, v.oneCell' = true := cells_one fun m hm => hd1.els m hm
        have e1 : IntKind.i64.wrap ((p : Int) + 1) = (p : Int) + 1 := IntWalk.i64_in _ (by omega)
        go_wp2_with fail
        refine (delete_any 0 gr cap n p (cellsD ms) _ hrow hpn (by omega) hone).mono ?_
        rintro e w2 ⟨rfl, hrow2, hg2⟩
        have hgl : g < w1.heap.size := HD1.out.lt _ HD1.out.here
        have k2 : w2.cell? ⟨g, 0, none⟩ = some (.slice (some ⟨gr, 0, none⟩) (n + 1) cap) := (World.cell?_of_block (a := ⟨g, 0, none⟩) (hg2.block g hgl (by simp; omega))).trans k0
        have f2 : w2.frozen? ⟨g, 0, none⟩ = false := (World.frozen?_of_block (a := ⟨g, 0, none⟩) (hg2.block g hgl (by simp; omega))).trans (HD1.out.fz 0)
        have HROW := Lib.hid hrow2
        have HG := Lib.hid hg2
        clear hrow hrow2 hg2 hd1 hone k0
        go_wp2_with fail
        go_ret
        refine ⟨rfl, DiskTo.behind HT.out ?_⟩
        have hsub := erase_sub ms p
        have hlen : (ms.take p ++ ms.drop (p + 1)).length = n := by
          have := HNL.out
          simp only [List.length_append, List.length_take, List.length_drop]
          omega
        have hpf : (D.with (D.L.take p ++ D.L.drop (p + 1))).L = (ms.take p ++ ms.drop (p + 1)).map MF.pf := by rw [map_erase, ← HD.out.eqL]; rfl
        refine HD1.out.rowTo (T' := D.with (D.L.take p ++ D.L.drop (p + 1))) (ms2 := ms.take p ++ ms.drop (p + 1)) HG.out ?_ (.inl rfl) (fun m hm => HD1.out.els m (hsub.subset hm)) (fun m hm k hk => ?_) (HD1.out.ndF.sublist (flat_sub hsub)) hpf ?_ ?_ rfl rfl rfl
        · rw [hlen, ← cellsD_del]
          exact HROW.out
        · have hm' := hsub.subset hm
          exact ⟨HD1.out.elF hm' hk, HD1.out.apart hm' hk⟩
        · show RiseN (namesF (D.L.take p ++ D.L.drop (p + 1)))
          rw [names_erase]
          exact rise_erase HD.out.rise p
        · rw [hlen]; omega

end Go.Proofs.Ytaccmjgnggepjaa
