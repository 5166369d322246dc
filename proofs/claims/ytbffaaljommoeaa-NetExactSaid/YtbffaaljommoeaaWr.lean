/-
  Rows of bytes that bear marks ([]byte(s)): they show these bytes, and all of them can be written; and bytes as a text.
-/
import Derived.Test.YtbffaaljommoeaaHelp
import Derived.Test.YtbffaaljommoeaaFoot
import Derived.Test.YtbffaaljommoeaaCodec
import Derived.Lib.SlBytesConst
import Derived.Lib.Bytes
import Derived.Maps.AppendAt
import Derived.ArgAppend
namespace Go.Proofs.Ytbffaaljommoeaa
open Go.RowKit

theorem back_bytes : ∀ {x : List Int}, Byts x → (x.map fun n => UInt8.ofNat n.toNat).map (fun u => (u.toNat : Int)) = x
  | [], _ => rfl
  | c :: x, h => by
    have hc := h c (by simp)
    have ih := back_bytes (x := x) fun d hd => h d (by simp [hd])
    simp only [List.map_cons]
    rw [ih]
    have h1 := hc.1
    have h2 := hc.2
    congr 1
    rw [UInt8.toNat_ofNat']
    omega
/-- the text that bytes are, and back -/
theorem byt_num {xs : List Int} (h : Byts xs) : byt (strOfNums xs) = xs := by
  have := back_bytes h
  unfold byt
  rw [strOfNums_data]
  exact this

theorem rd_marked (w : World) (cs : List Value) (t : TypeId) (fr : Nat × Nat) : Rd (w.alloc (.cells cs.toArray t fr)) (some ⟨w.heap.size, 0, none⟩) cs := fun _ =>
  ⟨w.heap.size, 0, rfl, by simp, fun i v hv => by
    have hb : (w.alloc (.cells cs.toArray t fr)).heap[w.heap.size]? = some (.cells cs.toArray t fr) := heap_alloc_new w _
    rw [Nat.zero_add]
    simp only [World.cell?, hb]
    simpa using hv⟩

/-- a row of bytes at a block, whatever marks it bears behind its end: it shows these, and all of it can be written -/
structure Wr (w : World) (g c n : Nat) (zs : List Int) : Prop where
  hz : zs.length = n
  hc : n ≤ c
  hm : c ≤ maxLen
  lt : g < w.heap.size
  cells : ∀ i v, (u8s zs)[i]? = some v → w.cell? ⟨g, i, none⟩ = some v
  room : ∀ i, i < c → (w.cell? ⟨g, i, none⟩).isSome = true
  thaw : ∀ i, i < c → w.frozen? ⟨g, i, none⟩ = false

section
variable {w w' : World} {g c n : Nat} {zs : List Int}
theorem Wr.rd (h : Wr w g c n zs) : Rd w (some ⟨g, 0, none⟩) (u8s zs) := fun _ => ⟨g, 0, rfl, h.lt, fun i v hv => by rw [Nat.zero_add]; exact h.cells i v hv⟩
theorem Wr.below (h : Wr w g c n zs) (hb : Below w.heap.size w w') : Wr w' g c n zs where
  hz := h.hz
  hc := h.hc
  hm := h.hm
  lt := Nat.lt_of_lt_of_le h.lt hb.size
  cells := fun i v hv => (hb.cell (p := ⟨g, i, none⟩) h.lt).trans (h.cells i v hv)
  room := fun i hi => by rw [hb.cell (p := ⟨g, i, none⟩) h.lt]; exact h.room i hi
  thaw := fun i hi => (hb.frozen (p := ⟨g, i, none⟩) h.lt).trans (h.thaw i hi)
theorem Wr.drewN (h : Wr w g c n zs) (k : Nat) : Wr (w.drewN k) g c n zs := h.below (below_n (Below.refl _ _) _)
theorem Wr.put (h : Wr w g c n zs) {k : Nat} {y : Int} (hk : k < n) : Wr (w.setCell ⟨g, k, none⟩ (.int .u8 y)) g c n (zs.set k y) where
  hz := by rw [List.length_set]; exact h.hz
  hc := h.hc
  hm := h.hm
  lt := by simpa using h.lt
  cells := fun i v hv => by
    rw [show u8s (zs.set k y) = (u8s zs).set k (.int .u8 y) from by simp [u8s, List.map_set]] at hv
    by_cases hik : i = k
    · subst hik
      rw [List.getElem?_set_self (by rw [u8s_length, h.hz]; exact hk)] at hv
      cases hv
      obtain ⟨u, hu⟩ := Option.isSome_iff_exists.1 (h.room i (Nat.lt_of_lt_of_le hk h.hc))
      exact World.cell?_setCell_same _ _ _ hu
    · rw [List.getElem?_set_ne (Ne.symm hik)] at hv
      exact (World.cell?_setCell_other _ _ _ _ (fun e => hik (congrArg Addr.off e).symm)).trans (h.cells i v hv)
  room := fun i hi => by
    by_cases hik : i = k
    · subst hik
      obtain ⟨u, hu⟩ := Option.isSome_iff_exists.1 (h.room i hi)
      rw [World.cell?_setCell_same _ _ _ hu]; rfl
    · rw [World.cell?_setCell_other _ _ _ _ (fun e => hik (congrArg Addr.off e).symm)]; exact h.room i hi
  thaw := fun i hi => by rw [World.frozen?_setCell]; exact h.thaw i hi
end

/-- []byte(s): a row that bears a mark behind its end -/
theorem text_wr (w : World) {x : List Int} {n : Nat} (hz : x.length = n) (hx : Byts x) (hn : n ≤ maxLen) : Wr (Lib.bytesWorld w 5 (strOfNums x)) w.heap.size (grownCap w (strOfNums x).size 0 5) n x := by
  subst hz
  have hsz : (strOfNums x).size = x.length := strOfNums_size x
  have hge : x.length ≤ grownCap w (strOfNums x).size 0 5 := by rw [← hsz]; exact grownCap_ge w _ 0 _
  have hbs : (Lib.bytesCells w 5 (strOfNums x)).size = grownCap w (strOfNums x).size 0 5 := by
    have hds : (strOfNums x).data.size = x.length := hsz
    simp only [Lib.bytesCells, Array.size_append, Array.size_map, Array.size_replicate, hds]
    rw [hsz] at hge ⊢
    omega
  have hb := Lib.bytesWorld_at_new w 5 (strOfNums x)
  refine ⟨rfl, hge, grownCap_le_maxLen w _ 0 _ (by rw [hsz]; exact hn), by rw [Lib.bytesWorld_size]; omega, fun i v hv => ?_, fun i hi => ?_, fun i hi => ?_⟩
  · have hi : i < x.length := by
      rcases Nat.lt_or_ge i x.length with h | h
      · exact h
      · rw [List.getElem?_eq_none (by rw [u8s_length]; exact h)] at hv; cases hv
    rw [Lib.bytesWorld_cell w _ _ i (by rw [hsz]; exact hi), ← hv, u8s_at hi]
    have h1 : ((strOfNums x).data.toList.getD i 0).toNat = ((x[i]?.getD 0) : Int) := by
      rw [strOfNums_data]
      have h2 := congrArg (fun l => l[i]?) (back_bytes hx)
      simp only [List.getElem?_map, List.getElem?_eq_getElem hi, Option.map_some, Option.some.injEq] at h2
      rw [List.getD_eq_getElem?_getD, List.getElem?_map, List.getElem?_eq_getElem hi]
      exact h2
    rw [h1]
  · simp only [World.cell?, hb]
    rw [Array.getElem?_eq_getElem (by rw [hbs]; exact hi)]
    rfl
  · rw [World.frozen?, hb]
    simp only [hbs]
    simp
    omega

/-- string(b) of some bytes, none too -/
theorem conv_any (w : World) {A : Option Addr} {n : Nat} {zs : List Int} (hz : zs.length = n) (hr : Rd w A (u8s zs)) (c : Nat) :
    (convert 30 9 (.slice A n c)).run Try.prog w = .ok (.string (strOfNums zs)) w := by
  subst hz
  rcases Nat.eq_zero_or_pos zs.length with h0 | h0
  · have hn : zs = [] := List.eq_nil_of_length_eq_zero h0
    subst hn
    cases A with
    | none => exact run_convert_bytes_nil (P := Try.prog) w 30 5 Try.underlying30 Try.underlying5 0 c 9 Try.underlying9
    | some a =>
      have hl : (loadCells a 0).run Try.prog w = .ok (([] : List Int).map (Value.int .u8)).toArray w := run_loadCells_list (P := Try.prog) w a [] (fun j v hj => by simp at hj)
      show (convert 30 9 (.slice (some a) 0 c)).run Try.prog w = _
      rw [run_convert_bytes_string w 30 9 5 (some a) 0 c Try.underlying30 Try.underlying5 Try.underlying9, run_bytesToString w a 0 c [] hl]
      rfl
  · obtain ⟨b, off, rfl, _, hc⟩ := hr.open_ (by rw [u8s_length]; exact h0)
    refine run_convert_bytes_arg w 30 5 Try.underlying30 Try.underlying5 b off zs.length c zs rfl (fun i hi => ?_) 9 Try.underlying9
    rw [hc i _ (u8s_at hi)]
    rw [List.getD_eq_getElem?_getD]

set_option maxHeartbeats 1000000 in
/-- such a row is written over: only its own block turns -/
theorem spoil_wr (A : Option Addr) (g c n : Nat) (zs : List Int) (w : World) (hA : A = some ⟨g, 0, none⟩) (h : Wr w g c n zs) (hn : n ≤ 1073741824) :
    Calls Try.prog 13 #[.slice A n c] w fun e w' => e = .returned (.tuple #[]) ∧ Touch (fun k => k = g) w w' := by
  subst hA
  obtain ⟨i0, hi, hz0, hz1, hz2⟩ := info_parts info_u8
  have hm := h.hm
  unfold maxLen at hm
  have hc := h.hc
  go_enter Try.func13, Try.ntmps13
  go_wp2
  go_loopw [2] (fun i wr => ∃ (k : Nat) (ys : List Int), i = .int .i64 k ∧ k ≤ n ∧ Hid (Wr wr g c n ys) ∧ Hid (Touch (fun k => k = g) w wr)) (fun i _ => n - (intOf i).toNat)
  case atStart => exact ⟨0, zs, rfl, by omega, h, Touch.refl _ _⟩
  case round =>
    obtain ⟨k, ys, rfl, hk, HW, HT⟩ := hrel
    clear h
    by_cases hlt : k < n
    · have hc1 : wr.cell? ⟨g, k, none⟩ = some (.int .u8 (ys[k]?.getD 0)) := HW.out.cells k _ (u8s_at (by rw [HW.out.hz]; exact hlt))
      have hf1 := HW.out.thaw k (by omega)
      have j0 : (0 : Int) ≤ (k : Int) := by omega
      have j1 : (k : Int) < (n : Int) := by omega
      clear hi hz0 hz1 hz2
      go_wp2
      go_roundw
      case rel => exact ⟨k + 1, ys.set k (bits .xor .u8 (ys[k]?.getD 0) 85), by go_num, by omega, HW.out.put hlt, HT.out.set (.inl rfl) _⟩
      case measure => simp [intOf]; omega
    · have j1 : ¬ ((k : Int) < (n : Int)) := by omega
      obtain rfl : k = n := by omega
      have HA := Lib.hid (HW.out.below ((Below.refl _ _).alloc (Nat.le_refl _) (.cells #[.int .u8 5] 5)))
      go_wp2_with (at_builtin; refine wpList_append_arg _ rfl _ _ 30 rfl 5 i0 (.int .u8 0) 1 1 Try.underlying30 hi hz0 hz1 hz2 rfl (by decide) g 0 k c (u8s ys) rfl (by rw [u8s_length, HW.out.hz]; omega) (fun j u hj => by rw [Nat.zero_add]; exact HA.out.cells j u hj) ⟨wr.heap.size, 0, none⟩ 1 1 [.int .u8 5] rfl rfl (cell_one_new _ _ _) (ints_oneCell .u8 [5]) (fun hr j hj => ⟨HA.out.room _ (by have hj' : j < 1 := hj; omega), HA.out.thaw _ (by have hj' : j < 1 := hj; omega)⟩) (by unfold maxLen; omega) (by omega) ?_ ?_)
      · intro _
        go_wp2
        go_end0
        exact ⟨rfl, (HT.out.alloc _).set (.inl rfl) _⟩
      · intro _ v' w1 _ hg1
        have hT := (HT.out.alloc (.cells #[.int .u8 5] 5)).trans (Touch.grown (F := fun _ => False) hg1 (fun k' e => by cases e)) (fun k' hf => hf.elim)
        go_wp2
        go_end0
        exact ⟨rfl, hT⟩

end Go.Proofs.Ytbffaaljommoeaa
