/-
  The page's own disk, as it lies in memory; its floor divisions.
-/
import Derived.Test.YtejfilphnebckaaDWakes
import Derived.Test.YtejfilphnebckaaDCopy
import Derived.Test.YtejfilphnebckaaDSafeP
import Derived.BigRegion
import Derived.Test.YtejfilphnebckaaDName
import Derived.StillTailTactics
namespace Go.Proofs.Ytejfilphnebckaa
open Go.RowKit

/-- a file of the page's disk: its name, its safe and its seen bytes, the slices that show them -/
structure MR where
  nm : ByteArray
  safe : List Int
  seen : List Int
  sV : Value
  eV : Value
def MR.pf (m : MR) : PF := ⟨m.nm, m.seen, m.safe⟩
def MR.cells (m : MR) : List Value := [.string m.nm, m.sV, m.eV]
def cellsR (ms : List MR) : List Value := ms.flatMap MR.cells
theorem cellsR_length (ms : List MR) : (cellsR ms).length = ms.length * 3 := by
  induction ms with
  | nil => rfl
  | cons m ms ih => simp only [cellsR, List.flatMap_cons, List.length_append] at ih ⊢; rw [ih]; simp [MR.cells]; omega
theorem cellsR_append (a b : List MR) : cellsR (a ++ b) = cellsR a ++ cellsR b := by simp [cellsR]
theorem cellsR_take (ms : List MR) (i : Nat) : (cellsR ms).take (i * 3) = cellsR (ms.take i) := by
  rcases Nat.lt_or_ge i ms.length with h | h
  · have e : cellsR ms = cellsR (ms.take i) ++ cellsR (ms.drop i) := by rw [← cellsR_append, List.take_append_drop]
    rw [e, List.take_append_of_le_length (by rw [cellsR_length, List.length_take]; omega), List.take_of_length_le (by rw [cellsR_length, List.length_take]; omega)]
  · rw [List.take_of_length_le h, List.take_of_length_le (by rw [cellsR_length]; omega)]
theorem cellsR_drop (ms : List MR) (i : Nat) : (cellsR ms).drop (i * 3) = cellsR (ms.drop i) := by
  rcases Nat.lt_or_ge i ms.length with h | h
  · have e : cellsR ms = cellsR (ms.take i) ++ cellsR (ms.drop i) := by rw [← cellsR_append, List.take_append_drop]
    have hl : (cellsR (ms.take i)).length = i * 3 := by rw [cellsR_length, List.length_take]; omega
    rw [e, List.drop_append_of_le_length (by omega), List.drop_of_length_le (by omega), List.nil_append]
  · rw [List.drop_of_length_le h, List.drop_of_length_le (by rw [cellsR_length]; omega)]; rfl
theorem cellsR_at {ms : List MR} {i : Nat} {m : MR} (h : ms[i]? = some m) {j : Nat} {v : Value} (hv : m.cells[j]? = some v) : (cellsR ms)[i * 3 + j]? = some v := by
  have hi := (List.getElem?_eq_some_iff.1 h).1
  have e : ms.drop i = m :: ms.drop (i + 1) := by
    rw [List.drop_eq_getElem_cons hi]
    congr 1
    exact (List.getElem?_eq_some_iff.1 h).2
  have hd : ((cellsR ms).drop (i * 3))[j]? = some v := by
    rw [cellsR_drop, e]
    show (m.cells ++ cellsR (ms.drop (i + 1)))[j]? = some v
    rw [List.getElem?_append_left (List.getElem?_eq_some_iff.1 hv).1]
    exact hv
  rwa [List.getElem?_drop] at hd

/-- bytes that are only read: they lie in F, apart from the disk's own block and row -/
structure ByIn (w : World) (F : Nat → Prop) (g : Nat) (vL v : Value) (zs : List Int) : Prop where
  rd : ∃ A c, v = .slice A zs.length c ∧ zs.length ≤ c ∧ c ≤ maxLen ∧ Rd w A (u8s zs) ∧ ∀ a, A = some a → 0 < zs.length → a.block < w.heap.size ∧ F a.block ∧ a.block ≠ g ∧ vL.ownBlock ≠ some a.block
  byt : Byts zs
  few : zs.length ≤ 1048576
structure RefIn (w : World) (g : Nat) (F : Nat → Prop) (D : PD) (vL : Value) (l : Int) (ms : List MR) : Prop where
  blk : w.heap[g]? = some (.cells #[vL, .int .i64 D.calls, .int .i64 l, .bool D.off] 72 (0, 0))
  row : w.ownsRow 0 74 3 vL ms.length (cellsR ms)
  els : ∀ m ∈ ms, ByIn w F g vL m.sV m.safe ∧ ByIn w F g vL m.eV m.seen ∧ okName m.nm = true
  ng : vL.ownBlock ≠ some g
  here : F g
  rowF : ∀ k, vL.ownBlock = some k → F k
  lt : ∀ k, F k → k < w.heap.size
  eqL : D.L = ms.map MR.pf
  rise : RiseN (namesF D.L)
  few : ms.length ≤ 16
  okl : D.off = false → l = if D.left = 0 then -1 else (D.left : Int)
  lr : -9223372036854775808 ≤ l ∧ l ≤ 9223372036854775807
def IsRef (w : World) (g : Nat) (F : Nat → Prop) (D : PD) : Prop := ∃ vL l ms, RefIn w g F D vL l ms
/-- what a call leaves of it -/
def RefTo (g : Nat) (F : Nat → Prop) (D : PD) (w w' : World) : Prop := ∃ F' : Nat → Prop, IsRef w' g F' D ∧ Touch F w w' ∧ ∀ k, F' k → F k ∨ w.heap.size ≤ k

section
variable {w w' w'' : World} {g : Nat} {F F' : Nat → Prop} {D D' : PD} {vL v : Value} {l : Int} {ms : List MR} {zs : List Int}
theorem ByIn.kept (h : ByIn w F g vL v zs) (hs : w.heap.size ≤ w'.heap.size) (hk : ∀ k, F k → w'.heap[k]? = w.heap[k]?) : ByIn w' F g vL v zs := by
  obtain ⟨⟨A, c, h1, h2, h3, h4, h5⟩, h6, h7⟩ := h
  refine ⟨⟨A, c, h1, h2, h3, ?_, fun a ha h0 => ?_⟩, h6, h7⟩
  · rcases Nat.eq_zero_or_pos zs.length with h0 | h0
    · have : zs = [] := List.eq_nil_of_length_eq_zero h0
      subst this
      exact Rd.nil _ _
    · exact h4.kept hs fun a ha _ => hk _ (h5 a ha h0).2.1
  · obtain ⟨q1, q2, q3, q4⟩ := h5 a ha h0
    exact ⟨Nat.lt_of_lt_of_le q1 hs, q2, q3, q4⟩
theorem RefIn.kept (h : RefIn w g F D vL l ms) (hs : w.heap.size ≤ w'.heap.size) (hk : ∀ k, F k → w'.heap[k]? = w.heap[k]?) : RefIn w' g F D vL l ms :=
  ⟨(hk g h.here).trans h.blk, own_kept h.row fun k hb _ => hk k (h.rowF k hb), fun m hm => ⟨(h.els m hm).1.kept hs hk, (h.els m hm).2.1.kept hs hk, (h.els m hm).2.2⟩, h.ng, h.here, h.rowF, fun k hf => Nat.lt_of_lt_of_le (h.lt k hf) hs, h.eqL, h.rise, h.few, h.okl, h.lr⟩
theorem RefIn.below (h : RefIn w g F D vL l ms) (hb : Below w.heap.size w w') : RefIn w' g F D vL l ms := h.kept hb.size fun k hk => hb.block k (h.lt k hk)
theorem IsRef.kept (h : IsRef w g F D) (hs : w.heap.size ≤ w'.heap.size) (hk : ∀ k, F k → w'.heap[k]? = w.heap[k]?) : IsRef w' g F D := by
  obtain ⟨a, b, c, h⟩ := h
  exact ⟨a, b, c, h.kept hs hk⟩
theorem IsRef.lt (h : IsRef w g F D) : ∀ k, F k → k < w.heap.size := by
  obtain ⟨a, b, c, h⟩ := h
  exact h.lt
theorem RefIn.cell (h : RefIn w g F D vL l ms) (o : Nat) : w.cell? ⟨g, o, none⟩ = #[vL, .int .i64 D.calls, .int .i64 l, .bool D.off][o]? := cell_of_row w g o _ _ _ h.blk
theorem RefIn.c0 (h : RefIn w g F D vL l ms) : w.cell? ⟨g, 0, none⟩ = some vL := h.cell 0
theorem RefIn.c1 (h : RefIn w g F D vL l ms) : w.cell? ⟨g, 1, none⟩ = some (.int .i64 D.calls) := h.cell 1
theorem RefIn.c2 (h : RefIn w g F D vL l ms) : w.cell? ⟨g, 2, none⟩ = some (.int .i64 l) := h.cell 2
theorem RefIn.c3 (h : RefIn w g F D vL l ms) : w.cell? ⟨g, 3, none⟩ = some (.bool D.off) := h.cell 3
theorem RefIn.fz (h : RefIn w g F D vL l ms) (o : Nat) : w.frozen? ⟨g, o, none⟩ = false := frozen_of_row w g o _ _ h.blk
theorem RefIn.lenL (h : RefIn w g F D vL l ms) : D.L.length = ms.length := by rw [h.eqL, List.length_map]
theorem RefIn.nmL (h : RefIn w g F D vL l ms) : namesF D.L = ms.map MR.nm := by rw [h.eqL, namesF, List.map_map]; rfl
theorem RefIn.slice (h : RefIn w g F D vL l ms) {n : Nat} (hn : ms.length = n) : ∃ A c, vL = .slice A n c ∧ n ≤ c ∧ c ≤ maxLen ∧ Rd w A (cellsR ms) := by
  subst hn
  obtain ⟨A, c, h1, h2, h3, h4, _⟩ := ownS_slice h.row
  exact ⟨A, c, h1, h2, h3, h4⟩
theorem RefTo.same (h : IsRef w g F D) : RefTo g F D w w := ⟨F, h, Touch.refl _ _, fun _ hk => .inl hk⟩
theorem RefTo.lead (h : RefTo g F D w w') (h2 : ∀ F', IsRef w' g F' D → RefTo g F' D' w' w'') : RefTo g F D' w w'' := by
  obtain ⟨F1, hd, ht, hs⟩ := h
  obtain ⟨F2, hd2, ht2, hs2⟩ := h2 F1 hd
  refine ⟨F2, hd2, ht.trans ht2 hs, fun k hk => ?_⟩
  rcases hs2 k hk with h | h
  · exact hs k h
  · exact .inr (Nat.le_trans ht.size h)
end

set_option maxHeartbeats 1000000 in
theorem rmod_any (a b : Int) (w : World) (hb : 1 < b) (hb2 : b ≤ 1000000) :
    Calls Try.prog 64 #[.int .i64 a, .int .i64 b] w fun e w' => e = .returned (.int .i64 (a % b)) ∧ w = w' := by
  have hf := tdiv_floor a b (by omega)
  have hm1 := Int.tmod_lt_of_pos a (show 0 < b by omega)
  have hm2 := Int.lt_tmod_of_pos a (show 0 < b by omega)
  obtain ⟨r, hrr⟩ : ∃ r, a.tmod b = r := ⟨_, rfl⟩
  rw [hrr] at hf hm1 hm2
  have hb0 : ¬ (b = 0) := by omega
  have HF := Lib.hid hf
  clear hf
  by_cases hr : r < 0
  · go_enter Try.func64, Try.ntmps64
    go_wp2
    go_ret
    exact ⟨by rw [← (HF.out.1 hr).2]; rfl, rfl⟩
  · go_enter Try.func64, Try.ntmps64
    go_wp2
    go_ret
    have hr' : 0 ≤ r := by omega
    exact ⟨by rw [← (HF.out.2 hr').2]; rfl, rfl⟩

set_option maxHeartbeats 1000000 in
theorem rdiv_any (a b : Int) (w : World) (ha : -9223372036854775808 ≤ a ∧ a ≤ 9223372036854775807) (hb : 1 < b) (hb2 : b ≤ 1000000) :
    Calls Try.prog 66 #[.int .i64 a, .int .i64 b] w fun e w' => e = .returned (.int .i64 (a / b)) ∧ w = w' := by
  have hf := tdiv_floor a b (by omega)
  have hq : -9223372036854775808 < a.tdiv b ∧ a.tdiv b ≤ 9223372036854775807 := by
    have h0 := Int.mul_tdiv_add_tmod a b
    have h1 := Int.tmod_lt_of_pos a (show 0 < b by omega)
    have h2 := Int.lt_tmod_of_pos a (show 0 < b by omega)
    have h3 : (a.tdiv b).natAbs = a.natAbs / b.natAbs := Int.natAbs_tdiv a b
    have h4 : a.natAbs / b.natAbs ≤ a.natAbs / 2 := Nat.div_le_div_left (by omega) (by omega)
    omega
  have hm1 := Int.tmod_lt_of_pos a (show 0 < b by omega)
  have hm2 := Int.lt_tmod_of_pos a (show 0 < b by omega)
  obtain ⟨q, hqq⟩ : ∃ q, a.tdiv b = q := ⟨_, rfl⟩
  obtain ⟨r, hrr⟩ : ∃ r, a.tmod b = r := ⟨_, rfl⟩
  rw [hqq, hrr] at hf
  rw [hqq] at hq
  rw [hrr] at hm1 hm2
  have hb0 : ¬ (b = 0) := by omega
  have HF := Lib.hid hf
  clear hf
  by_cases hr : r < 0
  · go_enter Try.func66, Try.ntmps66
    go_wp2
    go_ret
    exact ⟨by rw [← (HF.out.1 hr).1]; rfl, rfl⟩
  · go_enter Try.func66, Try.ntmps66
    go_wp2
    go_ret
    have hr' : 0 ≤ r := by omega
    exact ⟨by rw [← (HF.out.2 hr').1]; rfl, rfl⟩

end Go.Proofs.Ytejfilphnebckaa
/-
  The page's own disk: one more call; where a file stands.
-/
namespace Go.Proofs.Ytejfilphnebckaa
open Go.RowKit

def RefTick (g : Nat) (F : Nat → Prop) (D : PD) (vL : Value) (ms : List MR) (w w' : World) : Prop := ∃ l', RefIn w' g F D vL l' ms ∧ Touch (fun k => k = g) w w'

section
variable {w w' : World} {g : Nat} {F : Nat → Prop} {D D' : PD} {vL : Value} {l l' : Int} {ms : List MR}
theorem RefIn.turn (h : RefIn w g F D vL l ms) (ht : Touch (fun k => k = g) w w') (blk : w'.heap[g]? = some (.cells #[vL, .int .i64 D'.calls, .int .i64 l', .bool D'.off] 72 (0, 0))) (hL : D'.L = D.L)
    (okl : D'.off = false → l' = if D'.left = 0 then -1 else (D'.left : Int)) (lr : -9223372036854775808 ≤ l' ∧ l' ≤ 9223372036854775807) : RefIn w' g F D' vL l' ms := by
  have hrow : ∀ k, vL.ownBlock = some k → w'.heap[k]? = w.heap[k]? := fun k hk => ht.block k (own_lt h.row hk).1 fun e => h.ng (by rw [hk, e])
  have hby : ∀ {v : Value} {zs : List Int}, ByIn w F g vL v zs → ByIn w' F g vL v zs := fun {v zs} hb => by
    obtain ⟨⟨A, c, h1, h2, h3, h4, h5⟩, h6, h7⟩ := hb
    refine ⟨⟨A, c, h1, h2, h3, ?_, fun a ha h0 => ?_⟩, h6, h7⟩
    · rcases Nat.eq_zero_or_pos zs.length with h0 | h0
      · have : zs = [] := List.eq_nil_of_length_eq_zero h0
        subst this
        exact Rd.nil _ _
      · exact h4.kept ht.size fun a ha hl => ht.block _ hl (h5 a ha h0).2.2.1
    · obtain ⟨q1, q2, q3, q4⟩ := h5 a ha h0
      exact ⟨Nat.lt_of_lt_of_le q1 ht.size, q2, q3, q4⟩
  exact ⟨blk, own_kept h.row fun k hb _ => hrow k hb, fun m hm => ⟨hby (h.els m hm).1, hby (h.els m hm).2.1, (h.els m hm).2.2⟩, h.ng, h.here, h.rowF, fun k hf => Nat.lt_of_lt_of_le (h.lt k hf) ht.size, by rw [hL]; exact h.eqL, by rw [hL]; exact h.rise, h.few, okl, lr⟩
end

set_option maxHeartbeats 4000000 in
theorem rcall_is {F : Nat → Prop} {D : PD} {vL : Value} {l : Int} {ms : List MR} (b : Bool) (g : Nat) (w : World) (h : RefIn w g F D vL l ms) (hc : D.calls ≤ 1000000) (hb : D.tick.off = !b) :
    Calls Try.prog 60 #[.pointer (some ⟨g, 0, none⟩)] w fun e w' => e = .returned (.bool b) ∧ RefTick g F D.tick vL ms w w' := by
  have c1 := h.c1
  have c2 := h.c2
  have c3 := h.c3
  have f1 := h.fz 1
  have f2 := h.fz 2
  have f3 := h.fz 3
  have hlr := h.lr
  have hcc : ((D.calls : Int) + 1) = ((D.calls + 1 : Nat) : Int) := by omega
  have fin : ∀ (w' : World) (D' : PD) (l' : Int), D' = D.tick → Touch (fun k => k = g) w w' → w'.heap[g]? = some (.cells #[vL, .int .i64 ((D.calls : Int) + 1), .int .i64 l', .bool D'.off] 72 (0, 0)) → (D'.off = false → l' = if D'.left = 0 then -1 else (D'.left : Int)) → (-9223372036854775808 ≤ l' ∧ l' ≤ 9223372036854775807) → RefTick g F D.tick vL ms w w' := by
    intro w' D' l' e ht hb ho hl
    subst e
    exact ⟨l', h.turn ht (by rw [tick_calls, ← hcc]; exact hb) (tick_L D) ho hl, ht⟩
  have HF := Lib.hid fin
  have HBLK := Lib.hid h.blk
  have HT : Hid (Touch (fun k => k = g) w w) := Touch.refl _ _
  clear fin hcc
  cases hoff : D.off with
  | true =>
    have htk : D.tick = { D with calls := D.calls + 1 } := by unfold PD.tick; rw [if_pos hoff]
    have hb1 : b = false := by rw [htk] at hb; have h2 : D.off = !b := hb; rw [hoff] at h2; cases b <;> first | rfl | exact absurd h2 (by decide)
    subst hb1
    rw [hoff] at c3
    have HTK := Lib.hid htk
    have HOFF := Lib.hid hoff
    clear htk hoff hb
    have hne : Hid ((D.tick).off = true) := by show _ = true; rw [HTK.out]; exact HOFF.out
    go_enter Try.func60, Try.ntmps60
    go_wp2_with fail
    go_ret
    refine ⟨rfl, HF.out _ D.tick l rfl ?_ ?_ (fun h => by rw [hne.out] at h; cases h) hlr⟩
    · exact HT.out.set (.inl rfl) _
    · have := heap_setCell_same w g 1 _ _ (.int .i64 ((D.calls : Int) + 1)) HBLK.out
      rw [hne.out]
      rw [HOFF.out] at this
      exact this
  | false =>
    have hl0 := h.okl hoff
    rw [hoff] at c3
    rcases Nat.eq_zero_or_pos D.left with h0 | h0
    · have htk : D.tick = { D with calls := D.calls + 1 } := by unfold PD.tick; rw [if_neg (by rw [hoff]; decide), if_pos h0]
      have hb1 : b = true := by rw [htk] at hb; have h2 : D.off = !b := hb; rw [hoff] at h2; cases b <;> first | rfl | exact absurd h2 (by decide)
      subst hb1
      rw [if_pos h0] at hl0
      subst hl0
      have hne : Hid ((D.tick).off = false) := by show _ = false; rw [htk]; exact hoff
      have hlf : Hid ((D.tick).left = 0) := by show _ = _; rw [htk]; exact h0
      have HOFF := Lib.hid hoff
      clear hoff hb htk h0
      go_enter Try.func60, Try.ntmps60
      go_wp2_with fail
      go_ret
      refine ⟨rfl, HF.out _ D.tick (-1) rfl ?_ ?_ (fun h => by rw [if_pos hlf.out]) ⟨by omega, by omega⟩⟩
      · exact HT.out.set (.inl rfl) _
      · have := heap_setCell_same w g 1 _ _ (.int .i64 ((D.calls : Int) + 1)) HBLK.out
        rw [hne.out]
        rw [HOFF.out] at this
        exact this
    · rw [if_neg (by omega)] at hl0
      subst hl0
      by_cases h1 : D.left = 1
      · have htk : D.tick = { D with calls := D.calls + 1, left := 0, off := true } := by unfold PD.tick; rw [if_neg (by rw [hoff]; decide), if_neg (by omega), if_pos h1]
        have hb1 : b = false := by rw [htk] at hb; have h2 : true = !b := hb; cases b <;> first | rfl | exact absurd h2 (by decide)
        subst hb1
        have i0 : (0 : Int) < (D.left : Int) := by omega
        have hne : Hid ((D.tick).off = true) := by show _ = true; rw [htk]
        have i1 : ((D.left : Int) - 1 == 0) = true := by simp; omega
        have i2 : (D.left : Int) - 1 = 0 := by omega
        have HOFF := Lib.hid hoff
        have HI2 := Lib.hid i2
        have HI1 := Lib.hid i1
        clear hoff hb htk h1 i1 h0
        go_enter Try.func60, Try.ntmps60
        go_wp2_with fail
        go_ret
        refine ⟨rfl, HF.out _ D.tick 0 rfl ?_ ?_ (fun h => by rw [hne.out] at h; cases h) ⟨by omega, by omega⟩⟩
        · exact ((HT.out.set (.inl rfl) _).set (.inl rfl) _).set (.inl rfl) _
        · rw [hne.out]
          exact heap_setCell_same _ g 3 _ _ _ (heap_setCell_same _ g 2 _ _ _ (heap_setCell_same _ g 1 _ _ _ HBLK.out))
      · have htk : D.tick = { D with calls := D.calls + 1, left := D.left - 1 } := by unfold PD.tick; rw [if_neg (by rw [hoff]; decide), if_neg (by omega), if_neg h1]
        have hb1 : b = true := by rw [htk] at hb; have h2 : D.off = !b := hb; rw [hoff] at h2; cases b <;> first | rfl | exact absurd h2 (by decide)
        subst hb1
        have i0 : (0 : Int) < (D.left : Int) := by omega
        have hne : Hid ((D.tick).off = false) := by show _ = false; rw [htk]; exact hoff
        have hlf : Hid ((if (D.tick).left = 0 then -1 else ((D.tick).left : Int)) = (D.left : Int) - 1) := by
          show _ = _
          rw [htk]
          show (if D.left - 1 = 0 then -1 else ((D.left - 1 : Nat) : Int)) = _
          rw [if_neg (by omega)]
          omega
        have i1 : ((D.left : Int) - 1 == 0) = false := by simp; omega
        have i2 : ¬ ((D.left : Int) - 1 = 0) := by omega
        have HOFF := Lib.hid hoff
        clear hoff hb htk h1 h0
        go_enter Try.func60, Try.ntmps60
        go_wp2_with fail
        go_ret
        refine ⟨rfl, HF.out _ D.tick ((D.left : Int) - 1) rfl ?_ ?_ (fun _ => hlf.out.symm) ⟨by omega, by omega⟩⟩
        · exact (HT.out.set (.inl rfl) _).set (.inl rfl) _
        · have := heap_setCell_same _ g 2 _ _ (.int .i64 ((D.left : Int) - 1)) (heap_setCell_same w g 1 _ _ (.int .i64 ((D.calls : Int) + 1)) HBLK.out)
          rw [hne.out]
          rw [HOFF.out] at this
          exact this

/-- where a file stands, or -1 -/
def findV9 (D : PD) (s : ByteArray) : Int := if D.has s = true then (D.pos s : Int) else -1
set_option maxHeartbeats 4000000 in
theorem rfind_is {F : Nat → Prop} {D : PD} {vL : Value} {l : Int} {ms : List MR} (g : Nat) (s : ByteArray) (w : World) (h : RefIn w g F D vL l ms) :
    Calls Try.prog 61 #[.pointer (some ⟨g, 0, none⟩), .string s] w fun e w' => e = .returned (.int .i64 (findV9 D s)) ∧ w = w' := by
  obtain ⟨nL, hnL⟩ : ∃ nL, ms.length = nL := ⟨_, rfl⟩
  obtain ⟨AL, cL, hvL, hcap, hmL, hrd⟩ := h.slice hnL
  have c0 := h.c0
  rw [hvL] at c0
  have HRD := Lib.hid hrd
  have HN := Lib.hid hnL
  have hnm : ∀ (k : Nat) (m : MR), ms[k]? = some m → (namesF D.L)[k]? = some m.nm := fun k m hm => by rw [h.nmL, List.getElem?_map, hm]; rfl
  have HNM := Lib.hid hnm
  have HRISE := Lib.hid h.rise
  have HLEN : Hid ((namesF D.L).length = nL) := by show _ = _; rw [h.nmL, List.length_map]; exact hnL
  obtain ⟨x, hx⟩ : ∃ x, findV9 D s = x := ⟨_, rfl⟩
  rw [hx]
  have HXX := Lib.hid hx
  have hfew : nL ≤ 16 := by rw [← hnL]; exact h.few
  clear h hrd hnL hnm hx
  go_enter Try.func61, Try.ntmps61
  go_wp2_with fail
  go_loop [5] (fun i => ∃ k : Nat, i = .int .i64 k ∧ k ≤ nL ∧ Hid (∀ (j : Nat) (a : ByteArray), j < k → (namesF D.L)[j]? = some a → a ≠ s)) (fun i => nL - (intOf i).toNat)
  case atStart => exact ⟨0, rfl, by omega, fun j a hj => absurd hj (by omega)⟩
  case round =>
    obtain ⟨k, rfl, hk, HNO⟩ := hrel
    have i0 : (0 : Int) ≤ (k : Int) := by omega
    by_cases hlt : k < nL
    · have i1 : (k : Int) < (nL : Int) := by omega
      obtain ⟨m, hm⟩ : ∃ m, ms[k]? = some m := ⟨ms[k]'(by rw [HN.out]; exact hlt), by simp⟩
      obtain ⟨b, off, rfl, _, hcl⟩ := HRD.out.open_ (by rw [cellsR_length, HN.out]; omega)
      have e0 : w.cell? ⟨b, off + k * 3, none⟩ = some (.string m.nm) := hcl _ _ (cellsR_at (j := 0) hm rfl)
      have hnk := HNM.out k m hm
      by_cases hms : m.nm = s
      · have HV : Hid (x = (k : Int)) := by
          show x = _
          rw [← HXX.out, findV9]
          rw [hms] at hnk
          obtain ⟨h1, h2⟩ := hasN_of HRISE.out hnk
          rw [if_pos (show D.has s = true from h1)]
          show ((posN (namesF D.L) s : Nat) : Int) = _
          rw [h2]
        rw [hms] at e0
        clear hms hm hcl hnk
        go_wp2_with fail
        go_ret
        exact ⟨by rw [HV.out]; rfl, rfl⟩
      · have HNO2 : Hid (∀ (j : Nat) (a : ByteArray), j < k + 1 → (namesF D.L)[j]? = some a → a ≠ s) := fun j a hj ha => by
          by_cases hjk : j = k
          · subst hjk
            rw [hnk] at ha
            cases ha
            exact hms
          · exact HNO.out j a (by omega) ha
        have j1 : (m.nm.toList == s.toList) = false := by simp only [beq_eq_false_iff_ne, ne_eq]; exact fun h => hms (ba_inj h)
        have j2 : ¬ m.nm.toList = s.toList := fun h => hms (ba_inj h)
        clear hms hm hcl hnk
        go_wp2_with fail
        go_round
        case rel => exact ⟨k + 1, by go_num, by omega, HNO2⟩
        case measure => simp [intOf]; omega
    · have i1 : ¬ ((k : Int) < (nL : Int)) := by omega
      have HV : Hid (x = -1) := by
        show x = _
        rw [← HXX.out, findV9, if_neg]
        intro h1
        have h2 := hasN_at h1
        have h3 := (List.getElem?_eq_some_iff.1 h2).1
        have h4 := HLEN.out
        exact HNO.out _ _ (by omega) h2 rfl
      go_wp2_with fail
      go_ret
      exact ⟨by rw [HV.out]; rfl, rfl⟩

end Go.Proofs.Ytejfilphnebckaa
/-
  The page's own disk: one file of it turned; Sync, Read.
-/
namespace Go.Proofs.Ytejfilphnebckaa
open Go.RowKit

theorem cellsR_set_at {ms : List MR} {i j : Nat} {m m' : MR} {v : Value} (hm : ms[i]? = some m) (hj : j < 3) (e : m'.cells = m.cells.set j v) : (cellsR ms).set (i * 3 + j) v = cellsR (ms.set i m') := by
  have hi := (List.getElem?_eq_some_iff.1 hm).1
  have h1 : ms = ms.take i ++ m :: ms.drop (i + 1) := by
    have h2 := List.take_append_drop i ms
    have h3 : ms.drop i = m :: ms.drop (i + 1) := by
      rw [List.drop_eq_getElem_cons hi]
      congr 1
      exact (List.getElem?_eq_some_iff.1 hm).2
    rw [h3] at h2
    exact h2.symm
  have e1 : cellsR ms = cellsR (ms.take i) ++ (m.cells ++ cellsR (ms.drop (i + 1))) := by
    conv => lhs; rw [h1]
    rw [cellsR_append]
    rfl
  have e2 : cellsR (ms.set i m') = cellsR (ms.take i) ++ (m'.cells ++ cellsR (ms.drop (i + 1))) := by
    rw [List.set_eq_take_append_cons_drop, if_pos hi, cellsR_append]
    rfl
  have hl : (cellsR (ms.take i)).length = i * 3 := by rw [cellsR_length, List.length_take]; omega
  have hc : m.cells.length = 3 := rfl
  rw [e1, e2, e, List.set_append_right _ _ (by omega), hl, show i * 3 + j - i * 3 = j by omega, List.set_append_left _ _ (by omega)]

section
variable {w w1 w2 w' : World} {g p j gr nL cap : Nat} {F F' : Nat → Prop} {T T' : PD} {vL v v2 : Value} {l : Int} {ms : List MR} {m m' : MR} {zs : List Int}
theorem ByIn.wider (h : ByIn w F g vL v zs) (hF : ∀ k, F k → F' k) : ByIn w F' g vL v zs := by
  obtain ⟨⟨A, c, h1, h2, h3, h4, h5⟩, h6, h7⟩ := h
  exact ⟨⟨A, c, h1, h2, h3, h4, fun a ha h0 => ⟨(h5 a ha h0).1, hF _ (h5 a ha h0).2.1, (h5 a ha h0).2.2⟩⟩, h6, h7⟩
/-- bytes stay when neither the disk's own block nor its row is theirs -/
theorem ByIn.far (h : ByIn w F g vL v zs) (hs : w.heap.size ≤ w'.heap.size) (hk : ∀ k, k < w.heap.size → k ≠ g → vL.ownBlock ≠ some k → w'.heap[k]? = w.heap[k]?) : ByIn w' F g vL v zs := by
  obtain ⟨⟨A, c, h1, h2, h3, h4, h5⟩, h6, h7⟩ := h
  refine ⟨⟨A, c, h1, h2, h3, ?_, fun a ha h0 => ?_⟩, h6, h7⟩
  · rcases Nat.eq_zero_or_pos zs.length with h0 | h0
    · have : zs = [] := List.eq_nil_of_length_eq_zero h0
      subst this
      exact Rd.nil _ _
    · exact h4.kept hs fun a ha hl => hk _ hl (h5 a ha h0).2.2.1 (h5 a ha h0).2.2.2
  · obtain ⟨q1, q2, q3, q4⟩ := h5 a ha h0
    exact ⟨Nat.lt_of_lt_of_le q1 hs, q2, q3, q4⟩
theorem RefIn.rowLen (h : RefIn w1 g F T (.slice (some ⟨gr, 0, none⟩) nL cap) l ms) : nL = ms.length := by
  rcases h.row.2 with ⟨hv, _⟩ | ⟨_, _, _, hv, _⟩
  · cases hv
  · cases hv; rfl
/-- one file turned: a cell of the row, to bytes that are new or that the disk has -/
theorem RefIn.elTo (h : RefIn w1 g F T (.slice (some ⟨gr, 0, none⟩) nL cap) l ms) (hm : ms[p]? = some m) (hb : Below w1.heap.size w1 w2) (hj : j < 3) (hce : m'.cells = m.cells.set j v2) (hnm : m'.nm = m.nm)
    (hel : ByIn w2 (fun k => F k ∨ (w1.heap.size ≤ k ∧ k < w2.heap.size)) g (.slice (some ⟨gr, 0, none⟩) nL cap) m'.sV m'.safe ∧ ByIn w2 (fun k => F k ∨ (w1.heap.size ≤ k ∧ k < w2.heap.size)) g (.slice (some ⟨gr, 0, none⟩) nL cap) m'.eV m'.seen)
    (hL : T'.L = T.L.set p m'.pf) (hc : T'.calls = T.calls) (hl : T'.left = T.left) (ho : T'.off = T.off) : RefTo g F T' w1 (w2.setCell ⟨gr, p * 3 + j, none⟩ v2) := by
  have hn := h.rowLen
  have hgr : F gr := h.rowF gr rfl
  have hgrl := h.lt gr hgr
  have hne : gr ≠ g := fun e => h.ng (by rw [← e]; rfl)
  have hrow2 : w2.ownsRow 0 74 3 (.slice (some ⟨gr, 0, none⟩) nL cap) ms.length (cellsR ms) := own_kept h.row fun k hk _ => by cases hk; exact hb.block gr hgrl
  rw [← hn] at hrow2
  have hst := (hrow2.stored (p * 3 + j) v2).1
  rw [cellsR_set_at hm hj hce] at hst
  have hoth : ∀ k, k ≠ gr → (w2.setCell ⟨gr, p * 3 + j, none⟩ v2).heap[k]? = w2.heap[k]? := fun k hk => heap_setCell_other w2 ⟨gr, p * 3 + j, none⟩ k v2 hk
  have hsz : (w2.setCell ⟨gr, p * 3 + j, none⟩ v2).heap.size = w2.heap.size := by simp
  have ht : Touch F w1 (w2.setCell ⟨gr, p * 3 + j, none⟩ v2) := (Touch.of hb).set (.inl hgr) v2
  have hfar : ∀ {v : Value} {zs : List Int}, ByIn w2 (fun k => F k ∨ (w1.heap.size ≤ k ∧ k < w2.heap.size)) g (.slice (some ⟨gr, 0, none⟩) nL cap) v zs → ByIn (w2.setCell ⟨gr, p * 3 + j, none⟩ v2) (fun k => F k ∨ (w1.heap.size ≤ k ∧ k < w2.heap.size)) g (.slice (some ⟨gr, 0, none⟩) nL cap) v zs := fun {v zs} hby =>
    hby.far (by rw [hsz]; exact Nat.le_refl _) fun k _ _ hk => hoth k fun e => hk (by rw [e]; rfl)
  have hold : ∀ {v : Value} {zs : List Int}, ByIn w1 F g (.slice (some ⟨gr, 0, none⟩) nL cap) v zs → ByIn w2 (fun k => F k ∨ (w1.heap.size ≤ k ∧ k < w2.heap.size)) g (.slice (some ⟨gr, 0, none⟩) nL cap) v zs := fun {v zs} hby =>
    (hby.far hb.size fun k hk _ _ => hb.block k hk).wider fun k hk => .inl hk
  refine ⟨fun k => F k ∨ (w1.heap.size ≤ k ∧ k < w2.heap.size), ⟨.slice (some ⟨gr, 0, none⟩) nL cap, l, ms.set p m', ?_⟩, ht, fun k hk => hk.imp id And.left⟩
  refine ⟨?_, by rw [List.length_set, ← hn]; exact hst, fun x hx => ?_, h.ng, .inl h.here, fun k hk => .inl (h.rowF k hk), fun k hk => ?_, ?_, ?_, by rw [List.length_set]; exact h.few, ?_, h.lr⟩
  · rw [hc, ho, hoth g hne.symm]
    exact (hb.block g (h.lt _ h.here)).trans h.blk
  · rcases List.mem_or_eq_of_mem_set hx with hx | rfl
    · obtain ⟨e1, e2, e3⟩ := h.els x hx
      exact ⟨hfar (hold e1), hfar (hold e2), e3⟩
    · exact ⟨hfar hel.1, hfar hel.2, by rw [hnm]; exact (h.els m (List.mem_of_getElem? hm)).2.2⟩
  · rw [hsz]
    rcases hk with hk | hk
    · exact Nat.lt_of_lt_of_le (h.lt k hk) hb.size
    · exact hk.2
  · rw [hL, h.eqL, List.map_set]
  · have e : namesF T'.L = namesF T.L := by
      rw [hL, namesF, List.map_set]
      have hp : (namesF T.L)[p]? = some m'.pf.nm := by rw [h.nmL, List.getElem?_map, hm]; show some m.nm = some m'.nm; rw [hnm]
      exact set_same hp
    rw [e]
    exact h.rise
  · rw [ho, hl]
    exact h.okl
end

end Go.Proofs.Ytejfilphnebckaa
/-
  The page's own disk: Sync, Read, Off, Calls.
-/
namespace Go.Proofs.Ytejfilphnebckaa
open Go.RowKit

section
variable {w w' w'' : World} {g : Nat} {F : Nat → Prop} {D D' T : PD} {vL : Value} {l : Int} {ms : List MR} {m : MR}
theorem RefTick.to (h : RefTick g F D vL ms w w') (hg : F g) : RefTo g F D w w' := by
  obtain ⟨l', hd, ht⟩ := h
  exact ⟨F, ⟨vL, l', ms, hd⟩, ht.mono fun k hk => by rw [hk]; exact hg, fun _ hk => .inl hk⟩
theorem RefTo.behind (ht : Touch F w w') (h2 : RefTo g F D' w' w'') : RefTo g F D' w w'' := by
  obtain ⟨F2, hd2, ht2, hs2⟩ := h2
  refine ⟨F2, hd2, ht.trans ht2 (fun k hk => .inl hk), fun k hk => ?_⟩
  rcases hs2 k hk with h | h
  · exact .inl h
  · exact .inr (Nat.le_trans ht.size h)
/-- where a file of the page's disk lies -/
theorem RefIn.there (h : RefIn w g F T vL l ms) {s : ByteArray} {f : PF} (hf : T.fileAt s = some f) : ∃ (gr n cap : Nat) (m : MR), vL = .slice (some ⟨gr, 0, none⟩) n cap ∧ n ≤ cap ∧ ms[T.pos s]? = some m ∧ m.nm = s ∧ f = m.pf ∧ T.has s = true ∧ T.pos s < n ∧
    (∀ (j : Nat) (v : Value), m.cells[j]? = some v → w.cell? ⟨gr, T.pos s * 3 + j, none⟩ = some v) ∧ ∀ o, w.frozen? ⟨gr, o, none⟩ = false := by
  obtain ⟨h1, h2⟩ := fileAt_some hf
  have hh : T.has s = true := by
    unfold PD.fileAt at hf
    split at hf
    · assumption
    · cases hf
  rw [h.eqL, List.getElem?_map, Option.map_eq_some_iff] at h1
  obtain ⟨m, hm, hmf⟩ := h1
  have hlt := (List.getElem?_eq_some_iff.1 hm).1
  rcases h.row.2 with ⟨_, h3⟩ | ⟨gr, cap, cur, hv, hb, hg, hnc, hcm, hcs, ht⟩
  · omega
  · refine ⟨gr, ms.length, cap, m, hv, hnc, hm, by rw [← h2, ← hmf]; rfl, hmf.symm, hh, hlt, fun j v hj => ?_, fun o => frozen_of_row w gr o _ _ hg⟩
    obtain ⟨A, c, hv2, _, _, hrd⟩ := h.slice rfl
    rw [hv] at hv2
    cases hv2
    obtain ⟨b, off, e, _, hc⟩ := hrd.open_ (by rw [cellsR_length]; omega)
    cases e
    have := hc _ v (cellsR_at hm hj)
    rwa [Nat.zero_add] at this
end

set_option maxRecDepth 100000 in
set_option maxHeartbeats 4000000 in
theorem rsync_is {F : Nat → Prop} {D : PD} (g : Nat) (s : ByteArray) (w : World) (h : IsRef w g F D) (hc : D.calls ≤ 1000000) :
    Calls Try.prog 39 #[.pointer (some ⟨g, 0, none⟩), .string s] w fun e w' => e = .returned (.int .i64 (dSync D s).2) ∧ RefTo g F (dSync D s).1 w w' := by
  have HIS := Lib.hid h
  obtain ⟨vL, l, ms, h⟩ := h
  have HD := Lib.hid h
  have HG : Hid (F g) := h.here
  clear h
  cases hok : okName s with
  | false =>
    have hr : dSync D s = (D, 1) := by rw [dSync]; exact dOpen_no hok
    rw [hr]
    have HOK := Lib.hid hok
    clear hok hr
    go_enter Try.func39, Try.ntmps39
    go_wp2_with fail
    refine (refName_any s _).mono ?_
    rintro e w' ⟨he, rfl⟩
    rw [HOK.out] at he
    subst he
    go_wp2_with fail
    go_ret
    exact ⟨rfl, RefTo.same HIS.out⟩
  | true =>
    have HOK := Lib.hid hok
    cases hto : D.tick.off with
    | true =>
      have hr : dSync D s = (D.tick, 9) := by rw [dSync]; exact dOpen_off hok hto
      rw [hr]
      have HTO := Lib.hid hto
      clear hok hr hto
      go_enter Try.func39, Try.ntmps39
      go_wp2_with fail
      refine (refName_any s _).mono ?_
      rintro e w' ⟨he, rfl⟩
      rw [HOK.out] at he
      subst he
      go_wp2_with fail
      refine (rcall_is false g _ HD.out hc (by rw [HTO.out]; rfl)).mono ?_
      rintro e w2 ⟨rfl, hk⟩
      have HK := Lib.hid hk
      clear hk
      go_wp2_with fail
      go_ret
      exact ⟨rfl, HK.out.to HG.out⟩
    | false =>
      have HTO := Lib.hid hto
      cases hf : D.tick.fileAt s with
      | none =>
        have hf0 : D.fileAt s = none := by
          rw [PD.fileAt, tick_has, tick_pos, tick_L] at hf
          exact hf
        have hr : dSync D s = (D.tick, 3) := by
          rw [dSync, dOpen, if_neg (by rw [hok]; decide), if_neg (by rw [hto]; decide), hf0]
        rw [hr]
        have hv : findV9 D.tick s = -1 := by
          rw [findV9, if_neg]
          intro hh
          rw [PD.fileAt, if_pos hh] at hf
          have h1 := hasN_pos (show hasN (namesF D.tick.L) s = true from hh)
          rw [namesF, List.length_map] at h1
          rw [List.getElem?_eq_none_iff] at hf
          have h2 : posN (List.map PF.nm D.tick.L) s < D.tick.L.length := h1
          have h3 : D.tick.L.length ≤ posN (List.map PF.nm D.tick.L) s := hf
          omega
        have HV := Lib.hid hv
        clear hok hr hto hf hf0 hv
        go_enter Try.func39, Try.ntmps39
        go_wp2_with fail
        refine (refName_any s _).mono ?_
        rintro e w' ⟨he, rfl⟩
        rw [HOK.out] at he
        subst he
        go_wp2_with fail
        refine (rcall_is true g _ HD.out hc (by rw [HTO.out]; rfl)).mono ?_
        rintro e w2 ⟨rfl, hk⟩
        have HK := Lib.hid hk
        obtain ⟨l2, hd2, _⟩ := hk
        go_wp2_with fail
        refine (rfind_is g s _ hd2).mono ?_
        rintro e w' ⟨rfl, rfl⟩
        rw [HV.out]
        clear hd2
        go_wp2_with fail
        go_ret
        exact ⟨rfl, HK.out.to HG.out⟩
      | some f =>
        have hf0 : D.fileAt s = some f := by
          rw [PD.fileAt, tick_has, tick_pos, tick_L] at hf
          exact hf
        have hr : dSync D s = (D.with (D.L.set (D.pos s) { f with dur := f.vis }), 0) := by rw [dSync, dOpen_yes hok hto hf0]
        rw [hr]
        have HF := Lib.hid hf
        clear hok hr hto hf hf0
        go_enter Try.func39, Try.ntmps39
        go_wp2_with fail
        refine (refName_any s _).mono ?_
        rintro e w' ⟨he, rfl⟩
        rw [HOK.out] at he
        subst he
        go_wp2_with fail
        refine (rcall_is true g _ HD.out hc (by rw [HTO.out]; rfl)).mono ?_
        rintro e w2 ⟨rfl, hk⟩
        have HK := Lib.hid hk
        obtain ⟨l2, hd2, _⟩ := hk
        go_wp2_with fail
        refine (rfind_is g s _ hd2).mono ?_
        rintro e w' ⟨rfl, rfl⟩
        obtain ⟨gr, n, cap, m, rfl, hnc, hm, hnm, rfl, hhas, hpn, hcell, hfz⟩ := hd2.there HF.out
        rw [findV9, if_pos hhas]
        obtain ⟨p, hp⟩ : ∃ p, D.tick.pos s = p := ⟨_, rfl⟩
        rw [hp] at hm hpn hcell ⊢
        have c0 := hd2.c0
        have e1 : w2.cell? ⟨gr, p * 3 + 1, none⟩ = some m.sV := hcell 1 _ rfl
        have e2 : w2.cell? ⟨gr, p * 3 + 2, none⟩ = some m.eV := hcell 2 _ rfl
        have f1 := hfz (p * 3 + 1)
        have i0 : (0 : Int) ≤ (p : Int) := by omega
        have i1 : (p : Int) < (n : Int) := by omega
        have i2 : ¬ ((p : Int) < 0) := by omega
        have HD2 := Lib.hid hd2
        have HM := Lib.hid hm
        have HP := Lib.hid hp
        have hels := hd2.els m (List.mem_of_getElem? hm)
        obtain ⟨Ae, ce, hev, _, _, _, _⟩ := hels.2.1.rd
        obtain ⟨ne, hne⟩ : ∃ ne, m.seen.length = ne := ⟨_, rfl⟩
        rw [hev, hne] at e2
        have HEV : Hid (m.eV = .slice Ae ne ce) := by show _ = _; rw [hev, hne]
        have HBY := Lib.hid hels.2.1
        obtain ⟨l3, hd3, ht3⟩ := HK.out
        have HT3 := Lib.hid ht3
        clear hd2 hm hp hcell hfz hev hne hhas hnm hels hd3 ht3
        go_wp2_with fail
        go_region
        go_wp2_with fail
        go_ret
        refine ⟨rfl, RefTo.behind (HT3.out.mono fun k hk => by rw [hk]; exact HG.out) ?_⟩
        have hb2 : Below w2.heap.size w2 w2.drew := (Below.refl _ _).drew
        have hby2 : ByIn w2.drew (fun k => F k ∨ (w2.heap.size ≤ k ∧ k < w2.drew.heap.size)) g (.slice (some ⟨gr, 0, none⟩) n cap) m.eV m.seen := (HBY.out.far hb2.size fun k hk _ _ => hb2.block k hk).wider fun k hk => .inl hk
        refine HD2.out.elTo (m' := { m with safe := m.seen, sV := m.eV }) (j := 1) HM.out hb2 (by decide) ?_ rfl ⟨hby2, hby2⟩ ?_ rfl rfl rfl
        · rw [← HEV.out]
          rfl
        · show D.L.set (D.pos s) _ = D.tick.L.set p _
          rw [tick_L, ← HP.out, tick_pos]
          rfl

end Go.Proofs.Ytejfilphnebckaa
