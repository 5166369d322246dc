/-
  Package disk: another file in a file's place.
-/
import Derived.Test.YtecgagfpckaieaaDRemove
import Derived.Maps.AppendAt
import Derived.StillTailTactics
namespace Go.Proofs.Ytecgagfpckaieaa
open Go.RowKit

/-- append of a list of cells, and where the row lies then -/
theorem run_app_loc {P : Program} (w : World) (t ty : TypeId) (B : Nat) (e : TypeId) (z : Value) (bytes : Nat) (ht : P.underlying t = some (.slice e)) (hinfo : (P.info? e).map (fun i => (i.zero, i.size, i.bytes)) = some (some z, 1, bytes)) (hzs : z.cells.size = 1) (hby : bytes ≤ 16)
    (v : Value) (n : Nat) (xs : List Value) (hown : w.ownsRow B e 1 v n xs) (A : Option Addr) (m c : Nat) (news : List Value) (hm : m = news.length) (hr : Rd w A news) (h1 : ∀ u ∈ news, u.oneCell' = true) (hn : n + m ≤ 1099511627776) (hB : B ≤ w.heap.size) :
    ∃ A' c' w', (Builtin.append_ #[t, t] ty #[v, .slice A m c]).run P w = .ok (.slice A' (n + m) c') w' ∧ w'.ownsRow B e 1 (.slice A' (n + m) c') (n + m) (xs ++ news) ∧ w.grownBy w' v.ownBlock ∧ ((Value.slice A' (n + m) c').ownBlock = v.ownBlock ∨ (Value.slice A' (n + m) c').ownBlock = some w.heap.size) := by
  obtain ⟨i, hi, hz, hsize, hbytes⟩ := info_parts hinfo
  cases A with
  | none =>
    have hn0 : news = [] := by
      rcases Nat.eq_zero_or_pos news.length with h0 | h0
      · exact List.eq_nil_of_length_eq_zero h0
      · obtain ⟨b, off, he, _⟩ := hr.open_ h0
        cases he
    subst hn0
    subst hm
    obtain ⟨A', c', rfl, hnc, _⟩ := own_val hown
    refine ⟨A', c', w, ?_, by simpa using hown, ⟨rfl, rfl, rfl, Nat.le_refl _, fun _ _ _ => rfl⟩, .inl rfl⟩
    rcases hown.2 with ⟨hv, _⟩ | ⟨g, cap, cur, hv, _, _, hnc, _⟩
    · cases hv
      simp [Builtin.append_, run_underlying ht, sizeOf, typeInfo, hi, Builtin.lenOf, Builtin.firstCells]
    · cases hv
      simp [Builtin.append_, run_underlying ht, sizeOf, typeInfo, hi, Builtin.lenOf, Builtin.firstCells, hnc, storeCells]
  | some ad =>
    subst hm
    obtain ⟨v', w', hrun, h2, h3, _, h5⟩ := run_append_own_at (P := P) w B t ty e i z 1 bytes ht hi hz hsize hbytes hzs (by decide) v n xs hown ad news.length c news (by simp) (fun j y hj => by
      have hl : j < news.length := (List.getElem?_eq_some_iff.1 hj).1
      obtain ⟨b, off, he, _, hc⟩ := hr.open_ (by omega)
      cases he
      rw [Addr.add_lit]
      exact hc j y hj) h1 (by unfold maxLen; omega) (by have := Nat.mul_le_mul hn hby; omega) hB
    obtain ⟨A', c', rfl, _⟩ := own_val h2
    exact ⟨A', c', w', hrun, h2, h3, h5⟩

/-- the first ones of a row -/
theorem row_first {w : World} {B : Nat} {e : TypeId} {A : Option Addr} {n c k : Nat} {xs : List Value} (h : w.ownsRow B e 1 (.slice A n c) n xs) (hk : k ≤ n) : w.ownsRow B e 1 (.slice A k c) k (xs.take k) := by
  have hl := h.1
  rcases h.2 with ⟨hv, h0⟩ | ⟨g, cap, cur, hv, hb, hg, hnc, hcm, hcs, ht⟩
  · cases hv
    obtain rfl : k = 0 := by omega
    rw [List.take_zero]
    exact World.ownsRow_nil _ _ _ _
  · cases hv
    refine ⟨by rw [List.length_take]; omega, .inr ⟨g, c, cur, rfl, hb, hg, by omega, hcm, hcs, ?_⟩⟩
    rw [← ht, List.take_take]
    congr 1
    omega

theorem cellsD_set_at {ms : List MF} {i : Nat} {m : MF} (hm : ms[i]? = some m) (m' : MF) (hnm : m'.nm = m.nm) : (((cellsD ms).set (i * 4 + 1) m'.vV).set (i * 4 + 2) m'.dV).set (i * 4 + 3) (.int .i64 m'.same) = cellsD (ms.set i m') := by
  have hi := (List.getElem?_eq_some_iff.1 hm).1
  have e : cellsD ms = cellsD (ms.take i) ++ (m.cells ++ cellsD (ms.drop (i + 1))) := by
    have h1 : ms = ms.take i ++ m :: ms.drop (i + 1) := by
      have h2 := List.take_append_drop i ms
      have h3 : ms.drop i = m :: ms.drop (i + 1) := by
        rw [List.drop_eq_getElem_cons hi]
        congr 1
        exact (List.getElem?_eq_some_iff.1 hm).2
      rw [h3] at h2
      exact h2.symm
    conv => lhs; rw [h1]
    rw [cellsD_append]
    rfl
  have hl : (cellsD (ms.take i)).length = i * 4 := by rw [cellsD_length, List.length_take]; omega
  rw [cellsD_set hi, cellsD_take, cellsD_drop, e]
  rw [List.set_append_right _ _ (by omega), List.set_append_right _ _ (by omega), List.set_append_right _ _ (by omega), hl]
  congr 1
  rw [show i * 4 + 1 - i * 4 = 1 by omega, show i * 4 + 2 - i * 4 = 2 by omega, show i * 4 + 3 - i * 4 = 3 by omega]
  simp [MF.cells, hnm]

theorem set_same {α : Type} {l : List α} {i : Nat} {x : α} (h : l[i]? = some x) : l.set i x = l := by
  obtain ⟨hi, rfl⟩ := List.getElem?_eq_some_iff.1 h
  exact List.set_getElem_self hi
theorem blks_nd {ms : List MF} {m : MF} (h : (ms.flatMap MF.blks).Nodup) (hm : m ∈ ms) : m.blks.Nodup := by
  obtain ⟨i, hi, rfl⟩ := List.mem_iff_getElem.1 hm
  have hs : [ms[i]].Sublist ms := List.singleton_sublist.2 hm
  have := h.sublist (flat_sub hs)
  simpa using this

section
variable {w w1 w2 w3 w' : World} {g : Nat} {F F' : Nat → Prop} {D D' T T' : PD} {vL vL' v2 : Value} {l l' : Int} {ms ms' ms2 : List MF} {s : ByteArray} {m m' : MF} {i gr n cap : Nat}
/-- a file of the same name stands in a file's place; its blocks are the old one's, or new -/
theorem DiskIn.fileTo (h : DiskIn w1 g F T (.slice (some ⟨gr, 0, none⟩) n cap) l ms) (hm : ms[i]? = some m) (hnm : m'.nm = m.nm)
    (ht : Touch (fun k => k = gr ∨ k ∈ m.blks) w1 w2) (hrow : w2.ownsRow 0 80 4 (.slice (some ⟨gr, 0, none⟩) n cap) n (cellsD (ms.set i m'))) (hf : FileIn w2 m')
    (hb : ∀ k ∈ m'.blks, k ∈ m.blks ∨ w1.heap.size ≤ k) (hnd : m'.blks.Nodup) (hL : T'.L = (ms.map MF.pf).set i m'.pf) (hc : T'.calls = T.calls) (hl : T'.left = T.left) (ho : T'.off = T.off) : DiskTo g F T' w1 w2 := by
  have hi := (List.getElem?_eq_some_iff.1 hm).1
  have hmem : m ∈ ms := List.mem_of_getElem? hm
  have hgr : F gr := h.rowF rfl
  have hne : gr ≠ g := fun e => h.rowNe (by rw [← e]; rfl)
  have hgb : g ∉ m.blks := fun hk => (h.apart hmem hk).1 rfl
  have htF : Touch F w1 w2 := ht.mono fun k hk => by
    rcases hk with rfl | hk
    · exact hgr
    · exact h.elF hmem hk
  have hn : n = ms.length := by
    have h1 := h.row.1
    rcases h.row.2 with ⟨hv, _⟩ | ⟨_, _, _, hv, _⟩
    · cases hv
    · cases hv; rfl
  have hset : ms.set i m' = ms.take i ++ m' :: ms.drop (i + 1) := by rw [List.set_eq_take_append_cons_drop, if_pos hi]
  have hold : ms = ms.take i ++ m :: ms.drop (i + 1) := by
    have h2 := List.take_append_drop i ms
    have h3 : ms.drop i = m :: ms.drop (i + 1) := by
      rw [List.drop_eq_getElem_cons hi]
      congr 1
      exact (List.getElem?_eq_some_iff.1 hm).2
    rw [h3] at h2
    exact h2.symm
  have hnd0 := h.ndF
  rw [hold] at hnd0
  simp only [List.flatMap_append, List.flatMap_cons, List.nodup_append, List.mem_append, List.mem_flatMap] at hnd0
  -- the others
  have hoth : ∀ x, x ∈ ms.take i ∨ x ∈ ms.drop (i + 1) → x ∈ ms ∧ ∀ k ∈ x.blks, k ∉ m.blks := by
    intro x hx
    rcases hx with hx | hx
    · exact ⟨List.mem_of_mem_take hx, fun k hk hk' => hnd0.2.2 k ⟨x, hx, hk⟩ k (.inl hk') rfl⟩
    · exact ⟨List.mem_of_mem_drop hx, fun k hk hk' => hnd0.2.1.2.2 k hk' k ⟨x, hx, hk⟩ rfl⟩
  have hmem2 : ∀ x, x ∈ ms.set i m' → x = m' ∨ (x ∈ ms.take i ∨ x ∈ ms.drop (i + 1)) := by
    intro x hx
    rw [hset] at hx
    simp only [List.mem_append, List.mem_cons] at hx
    rcases hx with hx | rfl | hx
    · exact .inr (.inl hx)
    · exact .inl rfl
    · exact .inr (.inr hx)
  refine DiskTo.make (vL' := .slice (some ⟨gr, 0, none⟩) n cap) (l' := l) (ms' := ms.set i m') htF ?_ ?_ ?_ ?_ ?_ ?_ ?_ ?_ ?_ h.lr
  · rw [hc, ho]
    exact (ht.block g (h.lt _ h.here) (by rintro (e | hk); exact hne e.symm; exact hgb hk)).trans h.blk
  · rw [List.length_set, ← hn]
    exact hrow
  · intro x hx
    rcases hmem2 x hx with rfl | hx
    · exact hf
    · obtain ⟨hx1, hx2⟩ := hoth x hx
      exact (h.els x hx1).kept fun k hk => ht.block k (h.lt _ (h.elF hx1 hk)) (by
        rintro (rfl | hk')
        · exact (h.apart hx1 hk).2 rfl
        · exact hx2 k hk hk')
  · simp only [dblks, List.nodup_cons, List.nodup_append, List.mem_append, List.mem_flatMap, Option.mem_toList, Value.ownBlock, Option.some.injEq]
    have hnew : ∀ k ∈ m'.blks, k ≠ g ∧ k ≠ gr := by
      intro k hk
      rcases hb k hk with hk | hk
      · obtain ⟨h1, h2⟩ := h.apart hmem hk
        exact ⟨h1, fun e => h2 (by rw [e]; rfl)⟩
      · have h1 := h.lt _ h.here
        have h2 := h.lt _ hgr
        exact ⟨by omega, by omega⟩
    refine ⟨?_, by simp, ?_, ?_⟩
    · rintro (e | ⟨x, hx, hk⟩)
      · exact hne e
      · rcases hmem2 x hx with rfl | hx
        · exact (hnew g hk).1 rfl
        · exact (h.apart (hoth x hx).1 hk).1 rfl
    · rw [hset]
      simp only [List.flatMap_append, List.flatMap_cons, List.nodup_append, List.mem_append, List.mem_flatMap]
      have hfar : ∀ x, x ∈ ms.take i ∨ x ∈ ms.drop (i + 1) → ∀ a ∈ x.blks, ∀ b ∈ m'.blks, a ≠ b := by
        intro x hx a ha b hb' e
        subst e
        obtain ⟨hx1, hx2⟩ := hoth x hx
        rcases hb a hb' with hk | hk
        · exact hx2 a ha hk
        · have := h.lt _ (h.elF hx1 ha)
          omega
      refine ⟨hnd0.1, ⟨hnd, hnd0.2.1.2.1, ?_⟩, ?_⟩
      · rintro a ha b ⟨x, hx, hk⟩ e
        exact hfar x (.inr hx) b hk a ha e.symm
      · rintro a ⟨x, hx, hk⟩ b (hb' | ⟨y, hy, hk'⟩)
        · exact hfar x (.inl hx) a hk b hb'
        · exact hnd0.2.2 a ⟨x, hx, hk⟩ b (.inr ⟨y, hy, hk'⟩)
    · rintro a rfl b ⟨x, hx, hk⟩ rfl
      rcases hmem2 x hx with rfl | hx
      · exact (hnew _ hk).2 rfl
      · exact (h.apart (hoth x hx).1 hk).2 rfl
  · intro k hk
    simp only [dblks, List.mem_cons, List.mem_append, List.mem_flatMap, Option.mem_toList, Value.ownBlock, Option.some.injEq] at hk
    rcases hk with rfl | rfl | ⟨x, hx, hk⟩
    · exact .inl h.here
    · exact .inl hgr
    · rcases hmem2 x hx with rfl | hx
      · rcases hb k hk with hk | hk
        · exact .inl (h.elF hmem hk)
        · exact .inr hk
      · exact .inl (h.elF (hoth x hx).1 hk)
  · rw [hL, List.map_set]
  · have : namesF T'.L = namesF T.L := by
      rw [hL, h.eqL, namesF, namesF, List.map_set, List.map_map]
      apply List.ext_getElem?
      intro j
      rw [List.getElem?_set]
      split
      · rename_i hj
        subst hj
        simp only [List.length_map, hi, if_true, List.getElem?_map, hm, Option.map_some]
        exact congrArg some hnm
      · rfl
    rw [this]
    exact h.rise
  · rw [List.length_set]; exact h.few
  · rw [ho, hl]; exact h.okl
end

end Go.Proofs.Ytecgagfpckaieaa
