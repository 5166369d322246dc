/-
  Package disk: a file more.
-/
import Derived.Test.YtecgagfpckaieaaDSync
namespace Go.Proofs.Ytecgagfpckaieaa
open Go.RowKit

theorem flat_ins (ms : List MF) (p : Nat) (m : MF) : ((ms.take p ++ m :: ms.drop p).flatMap MF.blks).Perm (m.blks ++ ms.flatMap MF.blks) := by
  have h : (ms.take p ++ m :: ms.drop p).Perm (m :: ms) := by
    have h1 : (ms.take p ++ m :: ms.drop p).Perm (m :: (ms.take p ++ ms.drop p)) := List.perm_middle
    rwa [List.take_append_drop] at h1
  have h2 := h.flatMap_right MF.blks
  rwa [List.flatMap_cons] at h2
theorem ins_len {α : Type} (l : List α) (p : Nat) (x : α) : (l.take p ++ x :: l.drop p).length = l.length + 1 := by
  rw [List.length_append, List.length_cons]
  have := congrArg List.length (List.take_append_drop p l)
  rw [List.length_append] at this
  omega

theorem set_mid {α : Type} {l : List α} {p : Nat} (h : p ≤ l.length) (x y : α) : (l.take p ++ x :: l.drop p).set p y = l.take p ++ y :: l.drop p := by
  rw [List.set_append_right _ _ (by rw [List.length_take]; omega), List.length_take, Nat.min_eq_left h, Nat.sub_self]
  rfl

section
variable {w w1 w2 w4 w' w'' : World} {g : Nat} {F F1 F' : Nat → Prop} {D D' T T' : PD} {vL vL' v2 : Value} {l l' : Int} {ms ms' ms2 : List MF} {s : ByteArray} {m m' : MF} {i gx : Nat} {f : PF}
/-- behind a disk anew, another one -/
theorem DiskTo.after (ht : Touch F w w') (hs : ∀ k, F1 k → F k ∨ w.heap.size ≤ k) (h2 : DiskTo g F1 D' w' w'') : DiskTo g F D' w w'' := by
  obtain ⟨F2, hd2, ht2, hs2⟩ := h2
  refine ⟨F2, hd2, ht.trans ht2 hs, fun k hk => ?_⟩
  rcases hs2 k hk with h | h
  · exact hs k h
  · exact .inr (Nat.le_trans ht.size h)

/-- one file more is there, where it belongs -/
theorem there_new (hr : RiseN (namesF T.L)) (hh : T.has f.nm = false) (hL : T'.L = T.L.take (T.pos f.nm) ++ f :: T.L.drop (T.pos f.nm)) : RiseN (namesF T'.L) ∧ T'.has f.nm = true ∧ T'.pos f.nm = T.pos f.nm ∧ T'.fileAt f.nm = some f := by
  have hn : namesF T'.L = (namesF T.L).take (T.pos f.nm) ++ f.nm :: (namesF T.L).drop (T.pos f.nm) := by
    rw [hL, namesF, namesF, List.map_append, List.map_cons, List.map_take, List.map_drop]
  have hle : T.pos f.nm ≤ (namesF T.L).length := posN_le _ _
  have hr' : RiseN (namesF T'.L) := by rw [hn]; exact rise_ins hr hh
  have hat : (namesF T'.L)[T.pos f.nm]? = some f.nm := by
    rw [hn, List.getElem?_append_right (by rw [List.length_take]; omega), List.length_take, Nat.min_eq_left hle, Nat.sub_self]
    rfl
  obtain ⟨h1, h2⟩ := hasN_of hr' hat
  refine ⟨hr', h1, h2, ?_⟩
  rw [PD.fileAt, if_pos (show T'.has f.nm = true from h1)]
  show T'.L[T'.pos f.nm]? = _
  rw [show T'.pos f.nm = T.pos f.nm from h2, hL]
  have hle2 : T.pos f.nm ≤ T.L.length := by simpa [namesF] using hle
  rw [List.getElem?_append_right (by rw [List.length_take]; omega), List.length_take, Nat.min_eq_left hle2, Nat.sub_self]
  rfl

/-- slices.Insert of a file where it belongs, and its row in the disk's field -/
theorem ins_file {AL : Option Addr} {nL cL : Nat} (h : DiskIn w4 g F T (.slice AL nL cL) l ms) (hfew : ms.length < 16) (hf : FileIn w4 m) (hb : ∀ k ∈ m.blks, F k ∧ k ≠ g ∧ (Value.slice AL nL cL).ownBlock ≠ some k) (hnd : (m.blks ++ ms.flatMap MF.blks).Nodup) (hh : T.has m.nm = false)
    (hgx : w4.heap[gx]? = some (.cells m.cells.toArray 80 (0, 0))) (hgF : ¬ F gx) :
    Calls Try.prog 48 #[.slice AL nL cL, .int .i64 (T.pos m.nm), .slice (some ⟨gx, 0, none⟩) 1 1] w4 fun e w5 => ∃ A5 c5, e = .returned (.slice A5 (nL + 1) c5) ∧ w5.cell? ⟨g, 0, none⟩ = some (.slice AL nL cL) ∧ w5.frozen? ⟨g, 0, none⟩ = false ∧
      ∀ T' : PD, T'.L = T.L.take (T.pos m.nm) ++ m.pf :: T.L.drop (T.pos m.nm) → T'.calls = T.calls → T'.left = T.left → T'.off = T.off → DiskTo g F T' w4 (w5.setCell ⟨g, 0, none⟩ (.slice A5 (nL + 1) c5)) := by
  have hgl : g < w4.heap.size := h.lt _ h.here
  have hn : ms.length = nL := by
    rcases h.row.2 with ⟨hv, h0⟩ | ⟨_, _, _, hv, _⟩
    · cases hv; exact h0
    · cases hv; rfl
  have hpl : T.pos m.nm ≤ ms.length := by rw [PD.pos, h.nmL]; have := posN_le (ms.map MF.nm) m.nm; simpa using this
  have hrow := h.row
  rw [hn] at hrow
  have hone : ∀ v ∈ m.cells, v.oneCell' = true := by
    have := cells_one (w := w4) (ms := [m]) (fun x hx => by rw [List.mem_singleton] at hx; rw [hx]; exact hf)
    simpa [cellsD] using this
  refine (insert_any 0 gx nL (T.pos m.nm) (.slice AL nL cL) (cellsD ms) m.cells w4 hrow (Nat.zero_le _) (by omega) (by omega) (cells_one h.els) rfl hgx hone (fun e => hgF (h.rowF e))).mono ?_
  rintro e w5 ⟨v5, rfl, hown5, hg5, hloc⟩
  obtain ⟨A5, c5, rfl, _⟩ := ownS_slice hown5
  have hbg : w5.heap[g]? = w4.heap[g]? := hg5.block g hgl (fun e => h.rowNe e.symm)
  refine ⟨A5, c5, rfl, (World.cell?_of_block (a := ⟨g, 0, none⟩) hbg).trans h.c0, (World.frozen?_of_block (a := ⟨g, 0, none⟩) hbg).trans (h.fz 0), ?_⟩
  intro T' hL hc hl ho
  have hT := there_new (f := m.pf) (T := T) (T' := T') h.rise hh hL
  rw [cellsD_put] at hown5
  have hlen : (ms.take (T.pos m.nm) ++ m :: ms.drop (T.pos m.nm)).length = nL + 1 := by rw [ins_len, hn]
  refine h.rowTo (T' := T') (ms2 := ms.take (T.pos m.nm) ++ m :: ms.drop (T.pos m.nm)) hg5 ?_ hloc ?_ ?_ ?_ ?_ hT.1 (by omega) hc hl ho
  · rw [hlen]; exact hown5
  · intro x hx
    simp only [List.mem_append, List.mem_cons] at hx
    rcases hx with hx | rfl | hx
    · exact h.els x (List.mem_of_mem_take hx)
    · exact hf
    · exact h.els x (List.mem_of_mem_drop hx)
  · intro x hx k hk
    simp only [List.mem_append, List.mem_cons] at hx
    have old : x ∈ ms → F k ∧ k ≠ g ∧ (Value.slice AL nL cL).ownBlock ≠ some k := fun hx => ⟨h.elF hx hk, h.apart hx hk⟩
    rcases hx with hx | rfl | hx
    · exact old (List.mem_of_mem_take hx)
    · exact hb k hk
    · exact old (List.mem_of_mem_drop hx)
  · exact (flat_ins ms _ m).nodup_iff.2 hnd
  · rw [hL, List.map_append, List.map_cons, List.map_take, List.map_drop, ← h.eqL]
end

end Go.Proofs.Ytecgagfpckaieaa
