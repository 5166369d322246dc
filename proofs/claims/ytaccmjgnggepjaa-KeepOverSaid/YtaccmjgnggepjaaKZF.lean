/-
  Package disk: another file in a file's place.
-/
import Derived.Test.YtaccmjgnggepjaaKZE
import Derived.Maps.AppendAt
import Derived.StillTailTactics
import Derived.Test.YtaccmjgnggepjaaRows
import Derived.Deep.MidRow
import Derived.Deep.RegionHeld3
namespace Go.Proofs.Ytaccmjgnggepjaa
open Go.RowKit

/-- append of a list of cells, and where the row lies then -/
theorem run_app_loc {P : Program} (w : World) (t ty : TypeId) (B : Nat) (e : TypeId) (z : Value) (bytes : Nat) (ht : P.underlying t = some (.slice e)) (hinfo : (P.info? e).map (fun i => (i.zero, i.size, i.bytes)) = some (some z, 1, bytes)) (hzs : z.cells.size = 1) (hby : bytes ≤ 16)
    (v : Value) (n : Nat) (xs : List Value) (hown : w.ownsRow B e 1 v n xs) (A : Option Addr) (m c : Nat) (news : List Value) (hm : m = news.length) (hr : Rd w A news) (h1 : ∀ u ∈ news, u.oneCell' = true) (hn : n + m ≤ 1099511627776) (hB : B ≤ w.heap.size) :
    ∃ A' c' w', (Builtin.append_ #[t, t] ty #[v, .slice A m c]).run P w = .ok (.slice A' (n + m) c') w' ∧ w'.ownsRow B e 1 (.slice A' (n + m) c') (n + m) (xs ++ news) ∧ w.grownBy w' v.ownBlock ∧ ((Value.slice A' (n + m) c').ownBlock = v.ownBlock ∨ (Value.slice A' (n + m) c').ownBlock = some w.heap.size) := by
  obtain ⟨i, hi, hz, hsize, hbytes⟩ := info_parts hinfo
  cases A with
  | none =>
    have hn0 : news = [] := by
      rcases Nat.eq_zero_or_pos news.length with h0 | h0
      · exact List.eq_nil_of_length_eq_zero h0
      · obtain ⟨b, off, he, _⟩ := hr.open_ h0
        cases he
    subst hn0
    subst hm
    obtain ⟨A', c', rfl, hnc, _⟩ := own_val hown
    refine ⟨A', c', w, ?_, by simpa using hown, ⟨rfl, rfl, rfl, Nat.le_refl _, fun _ _ _ => rfl⟩, .inl rfl⟩
    rcases hown.2 with ⟨hv, _⟩ | ⟨g, cap, cur, hv, _, _, hnc, _⟩
    · cases hv
      simp [Builtin.append_, run_underlying ht, sizeOf, typeInfo, hi, Builtin.lenOf, Builtin.firstCells]
    · cases hv
      simp [Builtin.append_, run_underlying ht, sizeOf, typeInfo, hi, Builtin.lenOf, Builtin.firstCells, hnc, storeCells]
  | some ad =>
    subst hm
    obtain ⟨v', w', hrun, h2, h3, _, h5⟩ := run_append_own_at (P := P) w B t ty e i z 1 bytes ht hi hz hsize hbytes hzs (by decide) v n xs hown ad news.length c news (by simp) (fun j y hj => by
      have hl : j < news.length := (List.getElem?_eq_some_iff.1 hj).1
      obtain ⟨b, off, he, _, hc⟩ := hr.open_ (by omega)
      cases he
      rw [Addr.add_lit]
      exact hc j y hj) h1 (by unfold maxLen; omega) (by have := Nat.mul_le_mul hn hby; omega) hB
    obtain ⟨A', c', rfl, _⟩ := own_val h2
    exact ⟨A', c', w', hrun, h2, h3, h5⟩

/-- the first ones of a row -/
theorem row_first {w : World} {B : Nat} {e : TypeId} {A : Option Addr} {n c k : Nat} {xs : List Value} (h : w.ownsRow B e 1 (.slice A n c) n xs) (hk : k ≤ n) : w.ownsRow B e 1 (.slice A k c) k (xs.take k) := by
  have hl := h.1
  rcases h.2 with ⟨hv, h0⟩ | ⟨g, cap, cur, hv, hb, hg, hnc, hcm, hcs, ht⟩
  · cases hv
    obtain rfl : k = 0 := by omega
    rw [List.take_zero]
    exact World.ownsRow_nil _ _ _ _
  · cases hv
    refine ⟨by rw [List.length_take]; omega, .inr ⟨g, c, cur, rfl, hb, hg, by omega, hcm, hcs, ?_⟩⟩
    rw [← ht, List.take_take]
    congr 1
    omega

theorem cellsD_set_at {ms : List MF} {i : Nat} {m : MF} (hm : ms[i]? = some m) (m' : MF) (hnm : m'.nm = m.nm) : (((cellsD ms).set (i * 4 + 1) m'.vV).set (i * 4 + 2) m'.dV).set (i * 4 + 3) (.int .i64 m'.same) = cellsD (ms.set i m') := by
  have hi := (List.getElem?_eq_some_iff.1 hm).1
  have e : cellsD ms = cellsD (ms.take i) ++ (m.cells ++ cellsD (ms.drop (i + 1))) := by
    have h1 : ms = ms.take i ++ m :: ms.drop (i + 1) := by
      have h2 := List.take_append_drop i ms
      have h3 : ms.drop i = m :: ms.drop (i + 1) := by
        rw [List.drop_eq_getElem_cons hi]
        congr 1
        exact (List.getElem?_eq_some_iff.1 hm).2
      rw [h3] at h2
      exact h2.symm
    conv => lhs; rw [h1]
    rw [cellsD_append]
    rfl
  have hl : (cellsD (ms.take i)).length = i * 4 := by rw [cellsD_length, List.length_take]; omega
  rw [cellsD_set hi, cellsD_take, cellsD_drop, e]
  rw [List.set_append_right _ _ (by omega), List.set_append_right _ _ (by omega), List.set_append_right _ _ (by omega), hl]
  congr 1
  rw [show i * 4 + 1 - i * 4 = 1 by omega, show i * 4 + 2 - i * 4 = 2 by omega, show i * 4 + 3 - i * 4 = 3 by omega]
  simp [MF.cells, hnm]

theorem set_same {α : Type} {l : List α} {i : Nat} {x : α} (h : l[i]? = some x) : l.set i x = l := by
  obtain ⟨hi, rfl⟩ := List.getElem?_eq_some_iff.1 h
  exact List.set_getElem_self hi
theorem blks_nd {ms : List MF} {m : MF} (h : (ms.flatMap MF.blks).Nodup) (hm : m ∈ ms) : m.blks.Nodup := by
  obtain ⟨i, hi, rfl⟩ := List.mem_iff_getElem.1 hm
  have hs : [ms[i]].Sublist ms := List.singleton_sublist.2 hm
  have := h.sublist (flat_sub hs)
  simpa using this

section
variable {w w1 w2 w3 w' : World} {g : Nat} {F F' : Nat → Prop} {D D' T T' : PD} {vL vL' v2 : Value} {l l' : Int} {ms ms' ms2 : List MF} {s : ByteArray} {m m' : MF} {i gr n cap : Nat}
/-- a file of the same name stands in a file's place; its blocks are the old one's, or new -/
theorem DiskIn.fileTo (h : DiskIn w1 g F T (.slice (some ⟨gr, 0, none⟩) n cap) l ms) (hm : ms[i]? = some m) (hnm : m'.nm = m.nm)
    (ht : Touch (fun k => k = gr ∨ k ∈ m.blks) w1 w2) (hrow : w2.ownsRow 0 82 4 (.slice (some ⟨gr, 0, none⟩) n cap) n (cellsD (ms.set i m'))) (hf : FileIn w2 m')
    (hb : ∀ k ∈ m'.blks, k ∈ m.blks ∨ w1.heap.size ≤ k) (hnd : m'.blks.Nodup) (hL : T'.L = (ms.map MF.pf).set i m'.pf) (hc : T'.calls = T.calls) (hl : T'.left = T.left) (ho : T'.off = T.off) : DiskTo g F T' w1 w2 := by
  have hi := (List.getElem?_eq_some_iff.1 hm).1
  have hmem : m ∈ ms := List.mem_of_getElem? hm
  have hgr : F gr := h.rowF rfl
  have hne : gr ≠ g := fun e => h.rowNe (by rw [← e]; rfl)
  have hgb : g ∉ m.blks := fun hk => (h.apart hmem hk).1 rfl
  have htF : Touch F w1 w2 := ht.mono fun k hk => by
    rcases hk with rfl | hk
    · exact hgr
    · exact h.elF hmem hk
  have hn : n = ms.length := by
    have h1 := h.row.1
    rcases h.row.2 with ⟨hv, _⟩ | ⟨_, _, _, hv, _⟩
    · cases hv
    · cases hv; rfl
  have hset : ms.set i m' = ms.take i ++ m' :: ms.drop (i + 1) := by rw [List.set_eq_take_append_cons_drop, if_pos hi]
  have hold : ms = ms.take i ++ m :: ms.drop (i + 1) := by
    have h2 := List.take_append_drop i ms
    have h3 : ms.drop i = m :: ms.drop (i + 1) := by
      rw [List.drop_eq_getElem_cons hi]
      congr 1
      exact (List.getElem?_eq_some_iff.1 hm).2
    rw [h3] at h2
    exact h2.symm
  have hnd0 := h.ndF
  rw [hold] at hnd0
  simp only [List.flatMap_append, List.flatMap_cons, List.nodup_append, List.mem_append, List.mem_flatMap] at hnd0
  -- the others
  have hoth : ∀ x, x ∈ ms.take i ∨ x ∈ ms.drop (i + 1) → x ∈ ms ∧ ∀ k ∈ x.blks, k ∉ m.blks := by
    intro x hx
    rcases hx with hx | hx
    · exact ⟨List.mem_of_mem_take hx, fun k hk hk' => hnd0.2.2 k ⟨x, hx, hk⟩ k (.inl hk') rfl⟩
    · exact ⟨List.mem_of_mem_drop hx, fun k hk hk' => hnd0.2.1.2.2 k hk' k ⟨x, hx, hk⟩ rfl⟩
  have hmem2 : ∀ x, x ∈ ms.set i m' → x = m' ∨ (x ∈ ms.take i ∨ x ∈ ms.drop (i + 1)) := by
    intro x hx
    rw [hset] at hx
    simp only [List.mem_append, List.mem_cons] at hx
    rcases hx with hx | rfl | hx
    · exact .inr (.inl hx)
    · exact .inl rfl
    · exact .inr (.inr hx)
  refine DiskTo.make (vL' := .slice (some ⟨gr, 0, none⟩) n cap) (l' := l) (ms' := ms.set i m') htF ?_ ?_ ?_ ?_ ?_ ?_ ?_ ?_ ?_ h.lr
  · rw [hc, ho]
    exact (ht.block g (h.lt _ h.here) (by rintro (e | hk); exact hne e.symm; exact hgb hk)).trans h.blk
  · rw [List.length_set, ← hn]
    exact hrow
  · intro x hx
    rcases hmem2 x hx with rfl | hx
    · exact hf
    · obtain ⟨hx1, hx2⟩ := hoth x hx
      exact (h.els x hx1).kept fun k hk => ht.block k (h.lt _ (h.elF hx1 hk)) (by
        rintro (rfl | hk')
        · exact (h.apart hx1 hk).2 rfl
        · exact hx2 k hk hk')
  · simp only [dblks, List.nodup_cons, List.nodup_append, List.mem_append, List.mem_flatMap, Option.mem_toList, Value.ownBlock, Option.some.injEq]
    have hnew : ∀ k ∈ m'.blks, k ≠ g ∧ k ≠ gr := by
      intro k hk
      rcases hb k hk with hk | hk
      · obtain ⟨h1, h2⟩ := h.apart hmem hk
        exact ⟨h1, fun e => h2 (by rw [e]; rfl)⟩
      · have h1 := h.lt _ h.here
        have h2 := h.lt _ hgr
        exact ⟨by omega, by omega⟩
    refine ⟨?_, by simp, ?_, ?_⟩
    · rintro (e | ⟨x, hx, hk⟩)
      · exact hne e
      · rcases hmem2 x hx with rfl | hx
        · exact (hnew g hk).1 rfl
        · exact (h.apart (hoth x hx).1 hk).1 rfl
    · rw [hset]
      simp only [List.flatMap_append, List.flatMap_cons, List.nodup_append, List.mem_append, List.mem_flatMap]
      have hfar : ∀ x, x ∈ ms.take i ∨ x ∈ ms.drop (i + 1) → ∀ a ∈ x.blks, ∀ b ∈ m'.blks, a ≠ b := by
        intro x hx a ha b hb' e
        subst e
        obtain ⟨hx1, hx2⟩ := hoth x hx
        rcases hb a hb' with hk | hk
        · exact hx2 a ha hk
        · have := h.lt _ (h.elF hx1 ha)
          omega
      refine ⟨hnd0.1, ⟨hnd, hnd0.2.1.2.1, ?_⟩, ?_⟩
      · rintro a ha b ⟨x, hx, hk⟩ e
        exact hfar x (.inr hx) b hk a ha e.symm
      · rintro a ⟨x, hx, hk⟩ b (hb' | ⟨y, hy, hk'⟩)
        · exact hfar x (.inl hx) a hk b hb'
        · exact hnd0.2.2 a ⟨x, hx, hk⟩ b (.inr ⟨y, hy, hk'⟩)
    · rintro a rfl b ⟨x, hx, hk⟩ rfl
      rcases hmem2 x hx with rfl | hx
      · exact (hnew _ hk).2 rfl
      · exact (h.apart (hoth x hx).1 hk).2 rfl
  · intro k hk
    simp only [dblks, List.mem_cons, List.mem_append, List.mem_flatMap, Option.mem_toList, Value.ownBlock, Option.some.injEq] at hk
    rcases hk with rfl | rfl | ⟨x, hx, hk⟩
    · exact .inl h.here
    · exact .inl hgr
    · rcases hmem2 x hx with rfl | hx
      · rcases hb k hk with hk | hk
        · exact .inl (h.elF hmem hk)
        · exact .inr hk
      · exact .inl (h.elF (hoth x hx).1 hk)
  · rw [hL, List.map_set]
  · have : namesF T'.L = namesF T.L := by
      rw [hL, h.eqL, namesF, namesF, List.map_set, List.map_map]
      apply List.ext_getElem?
      intro j
      rw [List.getElem?_set]
      split
      · rename_i hj
        subst hj
        simp only [List.length_map, hi, if_true, List.getElem?_map, hm, Option.map_some]
        exact congrArg some hnm
      · rfl
    rw [this]
    exact h.rise
  · rw [List.length_set]; exact h.few
  · rw [ho, hl]; exact h.okl
end

end Go.Proofs.Ytaccmjgnggepjaa
/-
  Operations of a drawn region, taken one by one. Of no program.
-/
namespace Go.Proofs.Ytaccmjgnggepjaa
open Go

theorem ytake_0 {P : Program} {md : Region.Mode} {Q : Exit → Act → World → Prop} {S : World → Prop} {o0 : Oper} {rest : List Oper} {v : Value} {fuel : Nat} {listed : Array Bool} {a : Act} {w : World}
    (hs : Region.noSelect (o0 :: rest).toArray = true) (hf : Region.free md (o0 :: rest).toArray listed 0 = true) (hr : (Region.ready md (o0 :: rest).toArray listed).contains 0 = true)
    (hQ : ∀ c a w, Q (.panic c) (a.put o0.dst v) w → Q (.panic c) a w) (hy : YieldsIf P (o0 :: rest).toArray S o0 v a) (hS : S w)
    (h : wpAnyH P md (o0 :: rest).toArray Q S fuel (listed.setIfInBounds 0 true) (a.put o0.dst v) w) : wpAnyH P md (o0 :: rest).toArray Q S (fuel + 1) listed a w :=
  wpAnyH_take (i := 0) (oi := o0) rfl hs hf hr hQ hy hS h
theorem yready_0 {P : Program} {md : Region.Mode} {Q : Exit → Act → World → Prop} {S : World → Prop} {o0 : Oper} {rest : List Oper} {fuel : Nat} {listed : Array Bool} {a : Act} {w : World}
    (hr : Region.ready md (o0 :: rest).toArray listed = [0])
    (h : ∀ K' : Act → World → Prop, Shut (∀ a w, S w → (S w → wpAnyH P md (o0 :: rest).toArray Q S fuel (listed.setIfInBounds 0 true) a w) → K' a w) → if Region.wanted o0 (yielded (o0 :: rest).toArray a.tmps) = true then Oper.wp P o0 a w K' Q else K' (a.put o0.dst undef) w) :
    wpAnyH P md (o0 :: rest).toArray Q S (fuel + 1) listed a w :=
  wpAnyH_ready hr (by simp) (AllReadyH.cons (i := 0) (o := o0) rfl h AllReadyH.nil)
theorem ytake_1 {P : Program} {md : Region.Mode} {Q : Exit → Act → World → Prop} {S : World → Prop} {o0 o1 : Oper} {rest : List Oper} {v : Value} {fuel : Nat} {listed : Array Bool} {a : Act} {w : World}
    (hs : Region.noSelect (o0 :: o1 :: rest).toArray = true) (hf : Region.free md (o0 :: o1 :: rest).toArray listed 1 = true) (hr : (Region.ready md (o0 :: o1 :: rest).toArray listed).contains 1 = true)
    (hQ : ∀ c a w, Q (.panic c) (a.put o1.dst v) w → Q (.panic c) a w) (hy : YieldsIf P (o0 :: o1 :: rest).toArray S o1 v a) (hS : S w)
    (h : wpAnyH P md (o0 :: o1 :: rest).toArray Q S fuel (listed.setIfInBounds 1 true) (a.put o1.dst v) w) : wpAnyH P md (o0 :: o1 :: rest).toArray Q S (fuel + 1) listed a w :=
  wpAnyH_take (i := 1) (oi := o1) rfl hs hf hr hQ hy hS h
theorem yready_1 {P : Program} {md : Region.Mode} {Q : Exit → Act → World → Prop} {S : World → Prop} {o0 o1 : Oper} {rest : List Oper} {fuel : Nat} {listed : Array Bool} {a : Act} {w : World}
    (hr : Region.ready md (o0 :: o1 :: rest).toArray listed = [1])
    (h : ∀ K' : Act → World → Prop, Shut (∀ a w, S w → (S w → wpAnyH P md (o0 :: o1 :: rest).toArray Q S fuel (listed.setIfInBounds 1 true) a w) → K' a w) → if Region.wanted o1 (yielded (o0 :: o1 :: rest).toArray a.tmps) = true then Oper.wp P o1 a w K' Q else K' (a.put o1.dst undef) w) :
    wpAnyH P md (o0 :: o1 :: rest).toArray Q S (fuel + 1) listed a w :=
  wpAnyH_ready hr (by simp) (AllReadyH.cons (i := 1) (o := o1) rfl h AllReadyH.nil)
theorem ytake_2 {P : Program} {md : Region.Mode} {Q : Exit → Act → World → Prop} {S : World → Prop} {o0 o1 o2 : Oper} {rest : List Oper} {v : Value} {fuel : Nat} {listed : Array Bool} {a : Act} {w : World}
    (hs : Region.noSelect (o0 :: o1 :: o2 :: rest).toArray = true) (hf : Region.free md (o0 :: o1 :: o2 :: rest).toArray listed 2 = true) (hr : (Region.ready md (o0 :: o1 :: o2 :: rest).toArray listed).contains 2 = true)
    (hQ : ∀ c a w, Q (.panic c) (a.put o2.dst v) w → Q (.panic c) a w) (hy : YieldsIf P (o0 :: o1 :: o2 :: rest).toArray S o2 v a) (hS : S w)
    (h : wpAnyH P md (o0 :: o1 :: o2 :: rest).toArray Q S fuel (listed.setIfInBounds 2 true) (a.put o2.dst v) w) : wpAnyH P md (o0 :: o1 :: o2 :: rest).toArray Q S (fuel + 1) listed a w :=
  wpAnyH_take (i := 2) (oi := o2) rfl hs hf hr hQ hy hS h
theorem yready_2 {P : Program} {md : Region.Mode} {Q : Exit → Act → World → Prop} {S : World → Prop} {o0 o1 o2 : Oper} {rest : List Oper} {fuel : Nat} {listed : Array Bool} {a : Act} {w : World}
    (hr : Region.ready md (o0 :: o1 :: o2 :: rest).toArray listed = [2])
    (h : ∀ K' : Act → World → Prop, Shut (∀ a w, S w → (S w → wpAnyH P md (o0 :: o1 :: o2 :: rest).toArray Q S fuel (listed.setIfInBounds 2 true) a w) → K' a w) → if Region.wanted o2 (yielded (o0 :: o1 :: o2 :: rest).toArray a.tmps) = true then Oper.wp P o2 a w K' Q else K' (a.put o2.dst undef) w) :
    wpAnyH P md (o0 :: o1 :: o2 :: rest).toArray Q S (fuel + 1) listed a w :=
  wpAnyH_ready hr (by simp) (AllReadyH.cons (i := 2) (o := o2) rfl h AllReadyH.nil)
theorem ytake_3 {P : Program} {md : Region.Mode} {Q : Exit → Act → World → Prop} {S : World → Prop} {o0 o1 o2 o3 : Oper} {rest : List Oper} {v : Value} {fuel : Nat} {listed : Array Bool} {a : Act} {w : World}
    (hs : Region.noSelect (o0 :: o1 :: o2 :: o3 :: rest).toArray = true) (hf : Region.free md (o0 :: o1 :: o2 :: o3 :: rest).toArray listed 3 = true) (hr : (Region.ready md (o0 :: o1 :: o2 :: o3 :: rest).toArray listed).contains 3 = true)
    (hQ : ∀ c a w, Q (.panic c) (a.put o3.dst v) w → Q (.panic c) a w) (hy : YieldsIf P (o0 :: o1 :: o2 :: o3 :: rest).toArray S o3 v a) (hS : S w)
    (h : wpAnyH P md (o0 :: o1 :: o2 :: o3 :: rest).toArray Q S fuel (listed.setIfInBounds 3 true) (a.put o3.dst v) w) : wpAnyH P md (o0 :: o1 :: o2 :: o3 :: rest).toArray Q S (fuel + 1) listed a w :=
  wpAnyH_take (i := 3) (oi := o3) rfl hs hf hr hQ hy hS h
theorem yready_3 {P : Program} {md : Region.Mode} {Q : Exit → Act → World → Prop} {S : World → Prop} {o0 o1 o2 o3 : Oper} {rest : List Oper} {fuel : Nat} {listed : Array Bool} {a : Act} {w : World}
    (hr : Region.ready md (o0 :: o1 :: o2 :: o3 :: rest).toArray listed = [3])
    (h : ∀ K' : Act → World → Prop, Shut (∀ a w, S w → (S w → wpAnyH P md (o0 :: o1 :: o2 :: o3 :: rest).toArray Q S fuel (listed.setIfInBounds 3 true) a w) → K' a w) → if Region.wanted o3 (yielded (o0 :: o1 :: o2 :: o3 :: rest).toArray a.tmps) = true then Oper.wp P o3 a w K' Q else K' (a.put o3.dst undef) w) :
    wpAnyH P md (o0 :: o1 :: o2 :: o3 :: rest).toArray Q S (fuel + 1) listed a w :=
  wpAnyH_ready hr (by simp) (AllReadyH.cons (i := 3) (o := o3) rfl h AllReadyH.nil)
theorem ytake_4 {P : Program} {md : Region.Mode} {Q : Exit → Act → World → Prop} {S : World → Prop} {o0 o1 o2 o3 o4 : Oper} {rest : List Oper} {v : Value} {fuel : Nat} {listed : Array Bool} {a : Act} {w : World}
    (hs : Region.noSelect (o0 :: o1 :: o2 :: o3 :: o4 :: rest).toArray = true) (hf : Region.free md (o0 :: o1 :: o2 :: o3 :: o4 :: rest).toArray listed 4 = true) (hr : (Region.ready md (o0 :: o1 :: o2 :: o3 :: o4 :: rest).toArray listed).contains 4 = true)
    (hQ : ∀ c a w, Q (.panic c) (a.put o4.dst v) w → Q (.panic c) a w) (hy : YieldsIf P (o0 :: o1 :: o2 :: o3 :: o4 :: rest).toArray S o4 v a) (hS : S w)
    (h : wpAnyH P md (o0 :: o1 :: o2 :: o3 :: o4 :: rest).toArray Q S fuel (listed.setIfInBounds 4 true) (a.put o4.dst v) w) : wpAnyH P md (o0 :: o1 :: o2 :: o3 :: o4 :: rest).toArray Q S (fuel + 1) listed a w :=
  wpAnyH_take (i := 4) (oi := o4) rfl hs hf hr hQ hy hS h
theorem yready_4 {P : Program} {md : Region.Mode} {Q : Exit → Act → World → Prop} {S : World → Prop} {o0 o1 o2 o3 o4 : Oper} {rest : List Oper} {fuel : Nat} {listed : Array Bool} {a : Act} {w : World}
    (hr : Region.ready md (o0 :: o1 :: o2 :: o3 :: o4 :: rest).toArray listed = [4])
    (h : ∀ K' : Act → World → Prop, Shut (∀ a w, S w → (S w → wpAnyH P md (o0 :: o1 :: o2 :: o3 :: o4 :: rest).toArray Q S fuel (listed.setIfInBounds 4 true) a w) → K' a w) → if Region.wanted o4 (yielded (o0 :: o1 :: o2 :: o3 :: o4 :: rest).toArray a.tmps) = true then Oper.wp P o4 a w K' Q else K' (a.put o4.dst undef) w) :
    wpAnyH P md (o0 :: o1 :: o2 :: o3 :: o4 :: rest).toArray Q S (fuel + 1) listed a w :=
  wpAnyH_ready hr (by simp) (AllReadyH.cons (i := 4) (o := o4) rfl h AllReadyH.nil)
theorem ytake_5 {P : Program} {md : Region.Mode} {Q : Exit → Act → World → Prop} {S : World → Prop} {o0 o1 o2 o3 o4 o5 : Oper} {rest : List Oper} {v : Value} {fuel : Nat} {listed : Array Bool} {a : Act} {w : World}
    (hs : Region.noSelect (o0 :: o1 :: o2 :: o3 :: o4 :: o5 :: rest).toArray = true) (hf : Region.free md (o0 :: o1 :: o2 :: o3 :: o4 :: o5 :: rest).toArray listed 5 = true) (hr : (Region.ready md (o0 :: o1 :: o2 :: o3 :: o4 :: o5 :: rest).toArray listed).contains 5 = true)
    (hQ : ∀ c a w, Q (.panic c) (a.put o5.dst v) w → Q (.panic c) a w) (hy : YieldsIf P (o0 :: o1 :: o2 :: o3 :: o4 :: o5 :: rest).toArray S o5 v a) (hS : S w)
    (h : wpAnyH P md (o0 :: o1 :: o2 :: o3 :: o4 :: o5 :: rest).toArray Q S fuel (listed.setIfInBounds 5 true) (a.put o5.dst v) w) : wpAnyH P md (o0 :: o1 :: o2 :: o3 :: o4 :: o5 :: rest).toArray Q S (fuel + 1) listed a w :=
  wpAnyH_take (i := 5) (oi := o5) rfl hs hf hr hQ hy hS h
theorem yready_5 {P : Program} {md : Region.Mode} {Q : Exit → Act → World → Prop} {S : World → Prop} {o0 o1 o2 o3 o4 o5 : Oper} {rest : List Oper} {fuel : Nat} {listed : Array Bool} {a : Act} {w : World}
    (hr : Region.ready md (o0 :: o1 :: o2 :: o3 :: o4 :: o5 :: rest).toArray listed = [5])
    (h : ∀ K' : Act → World → Prop, Shut (∀ a w, S w → (S w → wpAnyH P md (o0 :: o1 :: o2 :: o3 :: o4 :: o5 :: rest).toArray Q S fuel (listed.setIfInBounds 5 true) a w) → K' a w) → if Region.wanted o5 (yielded (o0 :: o1 :: o2 :: o3 :: o4 :: o5 :: rest).toArray a.tmps) = true then Oper.wp P o5 a w K' Q else K' (a.put o5.dst undef) w) :
    wpAnyH P md (o0 :: o1 :: o2 :: o3 :: o4 :: o5 :: rest).toArray Q S (fuel + 1) listed a w :=
  wpAnyH_ready hr (by simp) (AllReadyH.cons (i := 5) (o := o5) rfl h AllReadyH.nil)
theorem ytake_6 {P : Program} {md : Region.Mode} {Q : Exit → Act → World → Prop} {S : World → Prop} {o0 o1 o2 o3 o4 o5 o6 : Oper} {rest : List Oper} {v : Value} {fuel : Nat} {listed : Array Bool} {a : Act} {w : World}
    (hs : Region.noSelect (o0 :: o1 :: o2 :: o3 :: o4 :: o5 :: o6 :: rest).toArray = true) (hf : Region.free md (o0 :: o1 :: o2 :: o3 :: o4 :: o5 :: o6 :: rest).toArray listed 6 = true) (hr : (Region.ready md (o0 :: o1 :: o2 :: o3 :: o4 :: o5 :: o6 :: rest).toArray listed).contains 6 = true)
    (hQ : ∀ c a w, Q (.panic c) (a.put o6.dst v) w → Q (.panic c) a w) (hy : YieldsIf P (o0 :: o1 :: o2 :: o3 :: o4 :: o5 :: o6 :: rest).toArray S o6 v a) (hS : S w)
    (h : wpAnyH P md (o0 :: o1 :: o2 :: o3 :: o4 :: o5 :: o6 :: rest).toArray Q S fuel (listed.setIfInBounds 6 true) (a.put o6.dst v) w) : wpAnyH P md (o0 :: o1 :: o2 :: o3 :: o4 :: o5 :: o6 :: rest).toArray Q S (fuel + 1) listed a w :=
  wpAnyH_take (i := 6) (oi := o6) rfl hs hf hr hQ hy hS h
theorem yready_6 {P : Program} {md : Region.Mode} {Q : Exit → Act → World → Prop} {S : World → Prop} {o0 o1 o2 o3 o4 o5 o6 : Oper} {rest : List Oper} {fuel : Nat} {listed : Array Bool} {a : Act} {w : World}
    (hr : Region.ready md (o0 :: o1 :: o2 :: o3 :: o4 :: o5 :: o6 :: rest).toArray listed = [6])
    (h : ∀ K' : Act → World → Prop, Shut (∀ a w, S w → (S w → wpAnyH P md (o0 :: o1 :: o2 :: o3 :: o4 :: o5 :: o6 :: rest).toArray Q S fuel (listed.setIfInBounds 6 true) a w) → K' a w) → if Region.wanted o6 (yielded (o0 :: o1 :: o2 :: o3 :: o4 :: o5 :: o6 :: rest).toArray a.tmps) = true then Oper.wp P o6 a w K' Q else K' (a.put o6.dst undef) w) :
    wpAnyH P md (o0 :: o1 :: o2 :: o3 :: o4 :: o5 :: o6 :: rest).toArray Q S (fuel + 1) listed a w :=
  wpAnyH_ready hr (by simp) (AllReadyH.cons (i := 6) (o := o6) rfl h AllReadyH.nil)
theorem ytake_7 {P : Program} {md : Region.Mode} {Q : Exit → Act → World → Prop} {S : World → Prop} {o0 o1 o2 o3 o4 o5 o6 o7 : Oper} {rest : List Oper} {v : Value} {fuel : Nat} {listed : Array Bool} {a : Act} {w : World}
    (hs : Region.noSelect (o0 :: o1 :: o2 :: o3 :: o4 :: o5 :: o6 :: o7 :: rest).toArray = true) (hf : Region.free md (o0 :: o1 :: o2 :: o3 :: o4 :: o5 :: o6 :: o7 :: rest).toArray listed 7 = true) (hr : (Region.ready md (o0 :: o1 :: o2 :: o3 :: o4 :: o5 :: o6 :: o7 :: rest).toArray listed).contains 7 = true)
    (hQ : ∀ c a w, Q (.panic c) (a.put o7.dst v) w → Q (.panic c) a w) (hy : YieldsIf P (o0 :: o1 :: o2 :: o3 :: o4 :: o5 :: o6 :: o7 :: rest).toArray S o7 v a) (hS : S w)
    (h : wpAnyH P md (o0 :: o1 :: o2 :: o3 :: o4 :: o5 :: o6 :: o7 :: rest).toArray Q S fuel (listed.setIfInBounds 7 true) (a.put o7.dst v) w) : wpAnyH P md (o0 :: o1 :: o2 :: o3 :: o4 :: o5 :: o6 :: o7 :: rest).toArray Q S (fuel + 1) listed a w :=
  wpAnyH_take (i := 7) (oi := o7) rfl hs hf hr hQ hy hS h
theorem yready_7 {P : Program} {md : Region.Mode} {Q : Exit → Act → World → Prop} {S : World → Prop} {o0 o1 o2 o3 o4 o5 o6 o7 : Oper} {rest : List Oper} {fuel : Nat} {listed : Array Bool} {a : Act} {w : World}
    (hr : Region.ready md (o0 :: o1 :: o2 :: o3 :: o4 :: o5 :: o6 :: o7 :: rest).toArray listed = [7])
    (h : ∀ K' : Act → World → Prop, Shut (∀ a w, S w → (S w → wpAnyH P md (o0 :: o1 :: o2 :: o3 :: o4 :: o5 :: o6 :: o7 :: rest).toArray Q S fuel (listed.setIfInBounds 7 true) a w) → K' a w) → if Region.wanted o7 (yielded (o0 :: o1 :: o2 :: o3 :: o4 :: o5 :: o6 :: o7 :: rest).toArray a.tmps) = true then Oper.wp P o7 a w K' Q else K' (a.put o7.dst undef) w) :
    wpAnyH P md (o0 :: o1 :: o2 :: o3 :: o4 :: o5 :: o6 :: o7 :: rest).toArray Q S (fuel + 1) listed a w :=
  wpAnyH_ready hr (by simp) (AllReadyH.cons (i := 7) (o := o7) rfl h AllReadyH.nil)
theorem ytake_8 {P : Program} {md : Region.Mode} {Q : Exit → Act → World → Prop} {S : World → Prop} {o0 o1 o2 o3 o4 o5 o6 o7 o8 : Oper} {rest : List Oper} {v : Value} {fuel : Nat} {listed : Array Bool} {a : Act} {w : World}
    (hs : Region.noSelect (o0 :: o1 :: o2 :: o3 :: o4 :: o5 :: o6 :: o7 :: o8 :: rest).toArray = true) (hf : Region.free md (o0 :: o1 :: o2 :: o3 :: o4 :: o5 :: o6 :: o7 :: o8 :: rest).toArray listed 8 = true) (hr : (Region.ready md (o0 :: o1 :: o2 :: o3 :: o4 :: o5 :: o6 :: o7 :: o8 :: rest).toArray listed).contains 8 = true)
    (hQ : ∀ c a w, Q (.panic c) (a.put o8.dst v) w → Q (.panic c) a w) (hy : YieldsIf P (o0 :: o1 :: o2 :: o3 :: o4 :: o5 :: o6 :: o7 :: o8 :: rest).toArray S o8 v a) (hS : S w)
    (h : wpAnyH P md (o0 :: o1 :: o2 :: o3 :: o4 :: o5 :: o6 :: o7 :: o8 :: rest).toArray Q S fuel (listed.setIfInBounds 8 true) (a.put o8.dst v) w) : wpAnyH P md (o0 :: o1 :: o2 :: o3 :: o4 :: o5 :: o6 :: o7 :: o8 :: rest).toArray Q S (fuel + 1) listed a w :=
  wpAnyH_take (i := 8) (oi := o8) rfl hs hf hr hQ hy hS h
theorem yready_8 {P : Program} {md : Region.Mode} {Q : Exit → Act → World → Prop} {S : World → Prop} {o0 o1 o2 o3 o4 o5 o6 o7 o8 : Oper} {rest : List Oper} {fuel : Nat} {listed : Array Bool} {a : Act} {w : World}
    (hr : Region.ready md (o0 :: o1 :: o2 :: o3 :: o4 :: o5 :: o6 :: o7 :: o8 :: rest).toArray listed = [8])
    (h : ∀ K' : Act → World → Prop, Shut (∀ a w, S w → (S w → wpAnyH P md (o0 :: o1 :: o2 :: o3 :: o4 :: o5 :: o6 :: o7 :: o8 :: rest).toArray Q S fuel (listed.setIfInBounds 8 true) a w) → K' a w) → if Region.wanted o8 (yielded (o0 :: o1 :: o2 :: o3 :: o4 :: o5 :: o6 :: o7 :: o8 :: rest).toArray a.tmps) = true then Oper.wp P o8 a w K' Q else K' (a.put o8.dst undef) w) :
    wpAnyH P md (o0 :: o1 :: o2 :: o3 :: o4 :: o5 :: o6 :: o7 :: o8 :: rest).toArray Q S (fuel + 1) listed a w :=
  wpAnyH_ready hr (by simp) (AllReadyH.cons (i := 8) (o := o8) rfl h AllReadyH.nil)
theorem ytake_9 {P : Program} {md : Region.Mode} {Q : Exit → Act → World → Prop} {S : World → Prop} {o0 o1 o2 o3 o4 o5 o6 o7 o8 o9 : Oper} {rest : List Oper} {v : Value} {fuel : Nat} {listed : Array Bool} {a : Act} {w : World}
    (hs : Region.noSelect (o0 :: o1 :: o2 :: o3 :: o4 :: o5 :: o6 :: o7 :: o8 :: o9 :: rest).toArray = true) (hf : Region.free md (o0 :: o1 :: o2 :: o3 :: o4 :: o5 :: o6 :: o7 :: o8 :: o9 :: rest).toArray listed 9 = true) (hr : (Region.ready md (o0 :: o1 :: o2 :: o3 :: o4 :: o5 :: o6 :: o7 :: o8 :: o9 :: rest).toArray listed).contains 9 = true)
    (hQ : ∀ c a w, Q (.panic c) (a.put o9.dst v) w → Q (.panic c) a w) (hy : YieldsIf P (o0 :: o1 :: o2 :: o3 :: o4 :: o5 :: o6 :: o7 :: o8 :: o9 :: rest).toArray S o9 v a) (hS : S w)
    (h : wpAnyH P md (o0 :: o1 :: o2 :: o3 :: o4 :: o5 :: o6 :: o7 :: o8 :: o9 :: rest).toArray Q S fuel (listed.setIfInBounds 9 true) (a.put o9.dst v) w) : wpAnyH P md (o0 :: o1 :: o2 :: o3 :: o4 :: o5 :: o6 :: o7 :: o8 :: o9 :: rest).toArray Q S (fuel + 1) listed a w :=
  wpAnyH_take (i := 9) (oi := o9) rfl hs hf hr hQ hy hS h
theorem yready_9 {P : Program} {md : Region.Mode} {Q : Exit → Act → World → Prop} {S : World → Prop} {o0 o1 o2 o3 o4 o5 o6 o7 o8 o9 : Oper} {rest : List Oper} {fuel : Nat} {listed : Array Bool} {a : Act} {w : World}
    (hr : Region.ready md (o0 :: o1 :: o2 :: o3 :: o4 :: o5 :: o6 :: o7 :: o8 :: o9 :: rest).toArray listed = [9])
    (h : ∀ K' : Act → World → Prop, Shut (∀ a w, S w → (S w → wpAnyH P md (o0 :: o1 :: o2 :: o3 :: o4 :: o5 :: o6 :: o7 :: o8 :: o9 :: rest).toArray Q S fuel (listed.setIfInBounds 9 true) a w) → K' a w) → if Region.wanted o9 (yielded (o0 :: o1 :: o2 :: o3 :: o4 :: o5 :: o6 :: o7 :: o8 :: o9 :: rest).toArray a.tmps) = true then Oper.wp P o9 a w K' Q else K' (a.put o9.dst undef) w) :
    wpAnyH P md (o0 :: o1 :: o2 :: o3 :: o4 :: o5 :: o6 :: o7 :: o8 :: o9 :: rest).toArray Q S (fuel + 1) listed a w :=
  wpAnyH_ready hr (by simp) (AllReadyH.cons (i := 9) (o := o9) rfl h AllReadyH.nil)
theorem ytake_10 {P : Program} {md : Region.Mode} {Q : Exit → Act → World → Prop} {S : World → Prop} {o0 o1 o2 o3 o4 o5 o6 o7 o8 o9 o10 : Oper} {rest : List Oper} {v : Value} {fuel : Nat} {listed : Array Bool} {a : Act} {w : World}
    (hs : Region.noSelect (o0 :: o1 :: o2 :: o3 :: o4 :: o5 :: o6 :: o7 :: o8 :: o9 :: o10 :: rest).toArray = true) (hf : Region.free md (o0 :: o1 :: o2 :: o3 :: o4 :: o5 :: o6 :: o7 :: o8 :: o9 :: o10 :: rest).toArray listed 10 = true) (hr : (Region.ready md (o0 :: o1 :: o2 :: o3 :: o4 :: o5 :: o6 :: o7 :: o8 :: o9 :: o10 :: rest).toArray listed).contains 10 = true)
    (hQ : ∀ c a w, Q (.panic c) (a.put o10.dst v) w → Q (.panic c) a w) (hy : YieldsIf P (o0 :: o1 :: o2 :: o3 :: o4 :: o5 :: o6 :: o7 :: o8 :: o9 :: o10 :: rest).toArray S o10 v a) (hS : S w)
    (h : wpAnyH P md (o0 :: o1 :: o2 :: o3 :: o4 :: o5 :: o6 :: o7 :: o8 :: o9 :: o10 :: rest).toArray Q S fuel (listed.setIfInBounds 10 true) (a.put o10.dst v) w) : wpAnyH P md (o0 :: o1 :: o2 :: o3 :: o4 :: o5 :: o6 :: o7 :: o8 :: o9 :: o10 :: rest).toArray Q S (fuel + 1) listed a w :=
  wpAnyH_take (i := 10) (oi := o10) rfl hs hf hr hQ hy hS h
theorem yready_10 {P : Program} {md : Region.Mode} {Q : Exit → Act → World → Prop} {S : World → Prop} {o0 o1 o2 o3 o4 o5 o6 o7 o8 o9 o10 : Oper} {rest : List Oper} {fuel : Nat} {listed : Array Bool} {a : Act} {w : World}
    (hr : Region.ready md (o0 :: o1 :: o2 :: o3 :: o4 :: o5 :: o6 :: o7 :: o8 :: o9 :: o10 :: rest).toArray listed = [10])
    (h : ∀ K' : Act → World → Prop, Shut (∀ a w, S w → (S w → wpAnyH P md (o0 :: o1 :: o2 :: o3 :: o4 :: o5 :: o6 :: o7 :: o8 :: o9 :: o10 :: rest).toArray Q S fuel (listed.setIfInBounds 10 true) a w) → K' a w) → if Region.wanted o10 (yielded (o0 :: o1 :: o2 :: o3 :: o4 :: o5 :: o6 :: o7 :: o8 :: o9 :: o10 :: rest).toArray a.tmps) = true then Oper.wp P o10 a w K' Q else K' (a.put o10.dst undef) w) :
    wpAnyH P md (o0 :: o1 :: o2 :: o3 :: o4 :: o5 :: o6 :: o7 :: o8 :: o9 :: o10 :: rest).toArray Q S (fuel + 1) listed a w :=
  wpAnyH_ready hr (by simp) (AllReadyH.cons (i := 10) (o := o10) rfl h AllReadyH.nil)
theorem ytake_11 {P : Program} {md : Region.Mode} {Q : Exit → Act → World → Prop} {S : World → Prop} {o0 o1 o2 o3 o4 o5 o6 o7 o8 o9 o10 o11 : Oper} {rest : List Oper} {v : Value} {fuel : Nat} {listed : Array Bool} {a : Act} {w : World}
    (hs : Region.noSelect (o0 :: o1 :: o2 :: o3 :: o4 :: o5 :: o6 :: o7 :: o8 :: o9 :: o10 :: o11 :: rest).toArray = true) (hf : Region.free md (o0 :: o1 :: o2 :: o3 :: o4 :: o5 :: o6 :: o7 :: o8 :: o9 :: o10 :: o11 :: rest).toArray listed 11 = true) (hr : (Region.ready md (o0 :: o1 :: o2 :: o3 :: o4 :: o5 :: o6 :: o7 :: o8 :: o9 :: o10 :: o11 :: rest).toArray listed).contains 11 = true)
    (hQ : ∀ c a w, Q (.panic c) (a.put o11.dst v) w → Q (.panic c) a w) (hy : YieldsIf P (o0 :: o1 :: o2 :: o3 :: o4 :: o5 :: o6 :: o7 :: o8 :: o9 :: o10 :: o11 :: rest).toArray S o11 v a) (hS : S w)
    (h : wpAnyH P md (o0 :: o1 :: o2 :: o3 :: o4 :: o5 :: o6 :: o7 :: o8 :: o9 :: o10 :: o11 :: rest).toArray Q S fuel (listed.setIfInBounds 11 true) (a.put o11.dst v) w) : wpAnyH P md (o0 :: o1 :: o2 :: o3 :: o4 :: o5 :: o6 :: o7 :: o8 :: o9 :: o10 :: o11 :: rest).toArray Q S (fuel + 1) listed a w :=
  wpAnyH_take (i := 11) (oi := o11) rfl hs hf hr hQ hy hS h
theorem yready_11 {P : Program} {md : Region.Mode} {Q : Exit → Act → World → Prop} {S : World → Prop} {o0 o1 o2 o3 o4 o5 o6 o7 o8 o9 o10 o11 : Oper} {rest : List Oper} {fuel : Nat} {listed : Array Bool} {a : Act} {w : World}
    (hr : Region.ready md (o0 :: o1 :: o2 :: o3 :: o4 :: o5 :: o6 :: o7 :: o8 :: o9 :: o10 :: o11 :: rest).toArray listed = [11])
    (h : ∀ K' : Act → World → Prop, Shut (∀ a w, S w → (S w → wpAnyH P md (o0 :: o1 :: o2 :: o3 :: o4 :: o5 :: o6 :: o7 :: o8 :: o9 :: o10 :: o11 :: rest).toArray Q S fuel (listed.setIfInBounds 11 true) a w) → K' a w) → if Region.wanted o11 (yielded (o0 :: o1 :: o2 :: o3 :: o4 :: o5 :: o6 :: o7 :: o8 :: o9 :: o10 :: o11 :: rest).toArray a.tmps) = true then Oper.wp P o11 a w K' Q else K' (a.put o11.dst undef) w) :
    wpAnyH P md (o0 :: o1 :: o2 :: o3 :: o4 :: o5 :: o6 :: o7 :: o8 :: o9 :: o10 :: o11 :: rest).toArray Q S (fuel + 1) listed a w :=
  wpAnyH_ready hr (by simp) (AllReadyH.cons (i := 11) (o := o11) rfl h AllReadyH.nil)
theorem ytake_12 {P : Program} {md : Region.Mode} {Q : Exit → Act → World → Prop} {S : World → Prop} {o0 o1 o2 o3 o4 o5 o6 o7 o8 o9 o10 o11 o12 : Oper} {rest : List Oper} {v : Value} {fuel : Nat} {listed : Array Bool} {a : Act} {w : World}
    (hs : Region.noSelect (o0 :: o1 :: o2 :: o3 :: o4 :: o5 :: o6 :: o7 :: o8 :: o9 :: o10 :: o11 :: o12 :: rest).toArray = true) (hf : Region.free md (o0 :: o1 :: o2 :: o3 :: o4 :: o5 :: o6 :: o7 :: o8 :: o9 :: o10 :: o11 :: o12 :: rest).toArray listed 12 = true) (hr : (Region.ready md (o0 :: o1 :: o2 :: o3 :: o4 :: o5 :: o6 :: o7 :: o8 :: o9 :: o10 :: o11 :: o12 :: rest).toArray listed).contains 12 = true)
    (hQ : ∀ c a w, Q (.panic c) (a.put o12.dst v) w → Q (.panic c) a w) (hy : YieldsIf P (o0 :: o1 :: o2 :: o3 :: o4 :: o5 :: o6 :: o7 :: o8 :: o9 :: o10 :: o11 :: o12 :: rest).toArray S o12 v a) (hS : S w)
    (h : wpAnyH P md (o0 :: o1 :: o2 :: o3 :: o4 :: o5 :: o6 :: o7 :: o8 :: o9 :: o10 :: o11 :: o12 :: rest).toArray Q S fuel (listed.setIfInBounds 12 true) (a.put o12.dst v) w) : wpAnyH P md (o0 :: o1 :: o2 :: o3 :: o4 :: o5 :: o6 :: o7 :: o8 :: o9 :: o10 :: o11 :: o12 :: rest).toArray Q S (fuel + 1) listed a w :=
  wpAnyH_take (i := 12) (oi := o12) rfl hs hf hr hQ hy hS h
theorem yready_12 {P : Program} {md : Region.Mode} {Q : Exit → Act → World → Prop} {S : World → Prop} {o0 o1 o2 o3 o4 o5 o6 o7 o8 o9 o10 o11 o12 : Oper} {rest : List Oper} {fuel : Nat} {listed : Array Bool} {a : Act} {w : World}
    (hr : Region.ready md (o0 :: o1 :: o2 :: o3 :: o4 :: o5 :: o6 :: o7 :: o8 :: o9 :: o10 :: o11 :: o12 :: rest).toArray listed = [12])
    (h : ∀ K' : Act → World → Prop, Shut (∀ a w, S w → (S w → wpAnyH P md (o0 :: o1 :: o2 :: o3 :: o4 :: o5 :: o6 :: o7 :: o8 :: o9 :: o10 :: o11 :: o12 :: rest).toArray Q S fuel (listed.setIfInBounds 12 true) a w) → K' a w) → if Region.wanted o12 (yielded (o0 :: o1 :: o2 :: o3 :: o4 :: o5 :: o6 :: o7 :: o8 :: o9 :: o10 :: o11 :: o12 :: rest).toArray a.tmps) = true then Oper.wp P o12 a w K' Q else K' (a.put o12.dst undef) w) :
    wpAnyH P md (o0 :: o1 :: o2 :: o3 :: o4 :: o5 :: o6 :: o7 :: o8 :: o9 :: o10 :: o11 :: o12 :: rest).toArray Q S (fuel + 1) listed a w :=
  wpAnyH_ready hr (by simp) (AllReadyH.cons (i := 12) (o := o12) rfl h AllReadyH.nil)
theorem ytake_13 {P : Program} {md : Region.Mode} {Q : Exit → Act → World → Prop} {S : World → Prop} {o0 o1 o2 o3 o4 o5 o6 o7 o8 o9 o10 o11 o12 o13 : Oper} {rest : List Oper} {v : Value} {fuel : Nat} {listed : Array Bool} {a : Act} {w : World}
    (hs : Region.noSelect (o0 :: o1 :: o2 :: o3 :: o4 :: o5 :: o6 :: o7 :: o8 :: o9 :: o10 :: o11 :: o12 :: o13 :: rest).toArray = true) (hf : Region.free md (o0 :: o1 :: o2 :: o3 :: o4 :: o5 :: o6 :: o7 :: o8 :: o9 :: o10 :: o11 :: o12 :: o13 :: rest).toArray listed 13 = true) (hr : (Region.ready md (o0 :: o1 :: o2 :: o3 :: o4 :: o5 :: o6 :: o7 :: o8 :: o9 :: o10 :: o11 :: o12 :: o13 :: rest).toArray listed).contains 13 = true)
    (hQ : ∀ c a w, Q (.panic c) (a.put o13.dst v) w → Q (.panic c) a w) (hy : YieldsIf P (o0 :: o1 :: o2 :: o3 :: o4 :: o5 :: o6 :: o7 :: o8 :: o9 :: o10 :: o11 :: o12 :: o13 :: rest).toArray S o13 v a) (hS : S w)
    (h : wpAnyH P md (o0 :: o1 :: o2 :: o3 :: o4 :: o5 :: o6 :: o7 :: o8 :: o9 :: o10 :: o11 :: o12 :: o13 :: rest).toArray Q S fuel (listed.setIfInBounds 13 true) (a.put o13.dst v) w) : wpAnyH P md (o0 :: o1 :: o2 :: o3 :: o4 :: o5 :: o6 :: o7 :: o8 :: o9 :: o10 :: o11 :: o12 :: o13 :: rest).toArray Q S (fuel + 1) listed a w :=
  wpAnyH_take (i := 13) (oi := o13) rfl hs hf hr hQ hy hS h
theorem yready_13 {P : Program} {md : Region.Mode} {Q : Exit → Act → World → Prop} {S : World → Prop} {o0 o1 o2 o3 o4 o5 o6 o7 o8 o9 o10 o11 o12 o13 : Oper} {rest : List Oper} {fuel : Nat} {listed : Array Bool} {a : Act} {w : World}
    (hr : Region.ready md (o0 :: o1 :: o2 :: o3 :: o4 :: o5 :: o6 :: o7 :: o8 :: o9 :: o10 :: o11 :: o12 :: o13 :: rest).toArray listed = [13])
    (h : ∀ K' : Act → World → Prop, Shut (∀ a w, S w → (S w → wpAnyH P md (o0 :: o1 :: o2 :: o3 :: o4 :: o5 :: o6 :: o7 :: o8 :: o9 :: o10 :: o11 :: o12 :: o13 :: rest).toArray Q S fuel (listed.setIfInBounds 13 true) a w) → K' a w) → if Region.wanted o13 (yielded (o0 :: o1 :: o2 :: o3 :: o4 :: o5 :: o6 :: o7 :: o8 :: o9 :: o10 :: o11 :: o12 :: o13 :: rest).toArray a.tmps) = true then Oper.wp P o13 a w K' Q else K' (a.put o13.dst undef) w) :
    wpAnyH P md (o0 :: o1 :: o2 :: o3 :: o4 :: o5 :: o6 :: o7 :: o8 :: o9 :: o10 :: o11 :: o12 :: o13 :: rest).toArray Q S (fuel + 1) listed a w :=
  wpAnyH_ready hr (by simp) (AllReadyH.cons (i := 13) (o := o13) rfl h AllReadyH.nil)
theorem ytake_14 {P : Program} {md : Region.Mode} {Q : Exit → Act → World → Prop} {S : World → Prop} {o0 o1 o2 o3 o4 o5 o6 o7 o8 o9 o10 o11 o12 o13 o14 : Oper} {rest : List Oper} {v : Value} {fuel : Nat} {listed : Array Bool} {a : Act} {w : World}
    (hs : Region.noSelect (o0 :: o1 :: o2 :: o3 :: o4 :: o5 :: o6 :: o7 :: o8 :: o9 :: o10 :: o11 :: o12 :: o13 :: o14 :: rest).toArray = true) (hf : Region.free md (o0 :: o1 :: o2 :: o3 :: o4 :: o5 :: o6 :: o7 :: o8 :: o9 :: o10 :: o11 :: o12 :: o13 :: o14 :: rest).toArray listed 14 = true) (hr : (Region.ready md (o0 :: o1 :: o2 :: o3 :: o4 :: o5 :: o6 :: o7 :: o8 :: o9 :: o10 :: o11 :: o12 :: o13 :: o14 :: rest).toArray listed).contains 14 = true)
    (hQ : ∀ c a w, Q (.panic c) (a.put o14.dst v) w → Q (.panic c) a w) (hy : YieldsIf P (o0 :: o1 :: o2 :: o3 :: o4 :: o5 :: o6 :: o7 :: o8 :: o9 :: o10 :: o11 :: o12 :: o13 :: o14 :: rest).toArray S o14 v a) (hS : S w)
    (h : wpAnyH P md (o0 :: o1 :: o2 :: o3 :: o4 :: o5 :: o6 :: o7 :: o8 :: o9 :: o10 :: o11 :: o12 :: o13 :: o14 :: rest).toArray Q S fuel (listed.setIfInBounds 14 true) (a.put o14.dst v) w) : wpAnyH P md (o0 :: o1 :: o2 :: o3 :: o4 :: o5 :: o6 :: o7 :: o8 :: o9 :: o10 :: o11 :: o12 :: o13 :: o14 :: rest).toArray Q S (fuel + 1) listed a w :=
  wpAnyH_take (i := 14) (oi := o14) rfl hs hf hr hQ hy hS h
theorem yready_14 {P : Program} {md : Region.Mode} {Q : Exit → Act → World → Prop} {S : World → Prop} {o0 o1 o2 o3 o4 o5 o6 o7 o8 o9 o10 o11 o12 o13 o14 : Oper} {rest : List Oper} {fuel : Nat} {listed : Array Bool} {a : Act} {w : World}
    (hr : Region.ready md (o0 :: o1 :: o2 :: o3 :: o4 :: o5 :: o6 :: o7 :: o8 :: o9 :: o10 :: o11 :: o12 :: o13 :: o14 :: rest).toArray listed = [14])
    (h : ∀ K' : Act → World → Prop, Shut (∀ a w, S w → (S w → wpAnyH P md (o0 :: o1 :: o2 :: o3 :: o4 :: o5 :: o6 :: o7 :: o8 :: o9 :: o10 :: o11 :: o12 :: o13 :: o14 :: rest).toArray Q S fuel (listed.setIfInBounds 14 true) a w) → K' a w) → if Region.wanted o14 (yielded (o0 :: o1 :: o2 :: o3 :: o4 :: o5 :: o6 :: o7 :: o8 :: o9 :: o10 :: o11 :: o12 :: o13 :: o14 :: rest).toArray a.tmps) = true then Oper.wp P o14 a w K' Q else K' (a.put o14.dst undef) w) :
    wpAnyH P md (o0 :: o1 :: o2 :: o3 :: o4 :: o5 :: o6 :: o7 :: o8 :: o9 :: o10 :: o11 :: o12 :: o13 :: o14 :: rest).toArray Q S (fuel + 1) listed a w :=
  wpAnyH_ready hr (by simp) (AllReadyH.cons (i := 14) (o := o14) rfl h AllReadyH.nil)
theorem ytake_15 {P : Program} {md : Region.Mode} {Q : Exit → Act → World → Prop} {S : World → Prop} {o0 o1 o2 o3 o4 o5 o6 o7 o8 o9 o10 o11 o12 o13 o14 o15 : Oper} {rest : List Oper} {v : Value} {fuel : Nat} {listed : Array Bool} {a : Act} {w : World}
    (hs : Region.noSelect (o0 :: o1 :: o2 :: o3 :: o4 :: o5 :: o6 :: o7 :: o8 :: o9 :: o10 :: o11 :: o12 :: o13 :: o14 :: o15 :: rest).toArray = true) (hf : Region.free md (o0 :: o1 :: o2 :: o3 :: o4 :: o5 :: o6 :: o7 :: o8 :: o9 :: o10 :: o11 :: o12 :: o13 :: o14 :: o15 :: rest).toArray listed 15 = true) (hr : (Region.ready md (o0 :: o1 :: o2 :: o3 :: o4 :: o5 :: o6 :: o7 :: o8 :: o9 :: o10 :: o11 :: o12 :: o13 :: o14 :: o15 :: rest).toArray listed).contains 15 = true)
    (hQ : ∀ c a w, Q (.panic c) (a.put o15.dst v) w → Q (.panic c) a w) (hy : YieldsIf P (o0 :: o1 :: o2 :: o3 :: o4 :: o5 :: o6 :: o7 :: o8 :: o9 :: o10 :: o11 :: o12 :: o13 :: o14 :: o15 :: rest).toArray S o15 v a) (hS : S w)
    (h : wpAnyH P md (o0 :: o1 :: o2 :: o3 :: o4 :: o5 :: o6 :: o7 :: o8 :: o9 :: o10 :: o11 :: o12 :: o13 :: o14 :: o15 :: rest).toArray Q S fuel (listed.setIfInBounds 15 true) (a.put o15.dst v) w) : wpAnyH P md (o0 :: o1 :: o2 :: o3 :: o4 :: o5 :: o6 :: o7 :: o8 :: o9 :: o10 :: o11 :: o12 :: o13 :: o14 :: o15 :: rest).toArray Q S (fuel + 1) listed a w :=
  wpAnyH_take (i := 15) (oi := o15) rfl hs hf hr hQ hy hS h
theorem yready_15 {P : Program} {md : Region.Mode} {Q : Exit → Act → World → Prop} {S : World → Prop} {o0 o1 o2 o3 o4 o5 o6 o7 o8 o9 o10 o11 o12 o13 o14 o15 : Oper} {rest : List Oper} {fuel : Nat} {listed : Array Bool} {a : Act} {w : World}
    (hr : Region.ready md (o0 :: o1 :: o2 :: o3 :: o4 :: o5 :: o6 :: o7 :: o8 :: o9 :: o10 :: o11 :: o12 :: o13 :: o14 :: o15 :: rest).toArray listed = [15])
    (h : ∀ K' : Act → World → Prop, Shut (∀ a w, S w → (S w → wpAnyH P md (o0 :: o1 :: o2 :: o3 :: o4 :: o5 :: o6 :: o7 :: o8 :: o9 :: o10 :: o11 :: o12 :: o13 :: o14 :: o15 :: rest).toArray Q S fuel (listed.setIfInBounds 15 true) a w) → K' a w) → if Region.wanted o15 (yielded (o0 :: o1 :: o2 :: o3 :: o4 :: o5 :: o6 :: o7 :: o8 :: o9 :: o10 :: o11 :: o12 :: o13 :: o14 :: o15 :: rest).toArray a.tmps) = true then Oper.wp P o15 a w K' Q else K' (a.put o15.dst undef) w) :
    wpAnyH P md (o0 :: o1 :: o2 :: o3 :: o4 :: o5 :: o6 :: o7 :: o8 :: o9 :: o10 :: o11 :: o12 :: o13 :: o14 :: o15 :: rest).toArray Q S (fuel + 1) listed a w :=
  wpAnyH_ready hr (by simp) (AllReadyH.cons (i := 15) (o := o15) rfl h AllReadyH.nil)
theorem ytake_16 {P : Program} {md : Region.Mode} {Q : Exit → Act → World → Prop} {S : World → Prop} {o0 o1 o2 o3 o4 o5 o6 o7 o8 o9 o10 o11 o12 o13 o14 o15 o16 : Oper} {rest : List Oper} {v : Value} {fuel : Nat} {listed : Array Bool} {a : Act} {w : World}
    (hs : Region.noSelect (o0 :: o1 :: o2 :: o3 :: o4 :: o5 :: o6 :: o7 :: o8 :: o9 :: o10 :: o11 :: o12 :: o13 :: o14 :: o15 :: o16 :: rest).toArray = true) (hf : Region.free md (o0 :: o1 :: o2 :: o3 :: o4 :: o5 :: o6 :: o7 :: o8 :: o9 :: o10 :: o11 :: o12 :: o13 :: o14 :: o15 :: o16 :: rest).toArray listed 16 = true) (hr : (Region.ready md (o0 :: o1 :: o2 :: o3 :: o4 :: o5 :: o6 :: o7 :: o8 :: o9 :: o10 :: o11 :: o12 :: o13 :: o14 :: o15 :: o16 :: rest).toArray listed).contains 16 = true)
    (hQ : ∀ c a w, Q (.panic c) (a.put o16.dst v) w → Q (.panic c) a w) (hy : YieldsIf P (o0 :: o1 :: o2 :: o3 :: o4 :: o5 :: o6 :: o7 :: o8 :: o9 :: o10 :: o11 :: o12 :: o13 :: o14 :: o15 :: o16 :: rest).toArray S o16 v a) (hS : S w)
    (h : wpAnyH P md (o0 :: o1 :: o2 :: o3 :: o4 :: o5 :: o6 :: o7 :: o8 :: o9 :: o10 :: o11 :: o12 :: o13 :: o14 :: o15 :: o16 :: rest).toArray Q S fuel (listed.setIfInBounds 16 true) (a.put o16.dst v) w) : wpAnyH P md (o0 :: o1 :: o2 :: o3 :: o4 :: o5 :: o6 :: o7 :: o8 :: o9 :: o10 :: o11 :: o12 :: o13 :: o14 :: o15 :: o16 :: rest).toArray Q S (fuel + 1) listed a w :=
  wpAnyH_take (i := 16) (oi := o16) rfl hs hf hr hQ hy hS h
theorem yready_16 {P : Program} {md : Region.Mode} {Q : Exit → Act → World → Prop} {S : World → Prop} {o0 o1 o2 o3 o4 o5 o6 o7 o8 o9 o10 o11 o12 o13 o14 o15 o16 : Oper} {rest : List Oper} {fuel : Nat} {listed : Array Bool} {a : Act} {w : World}
    (hr : Region.ready md (o0 :: o1 :: o2 :: o3 :: o4 :: o5 :: o6 :: o7 :: o8 :: o9 :: o10 :: o11 :: o12 :: o13 :: o14 :: o15 :: o16 :: rest).toArray listed = [16])
    (h : ∀ K' : Act → World → Prop, Shut (∀ a w, S w → (S w → wpAnyH P md (o0 :: o1 :: o2 :: o3 :: o4 :: o5 :: o6 :: o7 :: o8 :: o9 :: o10 :: o11 :: o12 :: o13 :: o14 :: o15 :: o16 :: rest).toArray Q S fuel (listed.setIfInBounds 16 true) a w) → K' a w) → if Region.wanted o16 (yielded (o0 :: o1 :: o2 :: o3 :: o4 :: o5 :: o6 :: o7 :: o8 :: o9 :: o10 :: o11 :: o12 :: o13 :: o14 :: o15 :: o16 :: rest).toArray a.tmps) = true then Oper.wp P o16 a w K' Q else K' (a.put o16.dst undef) w) :
    wpAnyH P md (o0 :: o1 :: o2 :: o3 :: o4 :: o5 :: o6 :: o7 :: o8 :: o9 :: o10 :: o11 :: o12 :: o13 :: o14 :: o15 :: o16 :: rest).toArray Q S (fuel + 1) listed a w :=
  wpAnyH_ready hr (by simp) (AllReadyH.cons (i := 16) (o := o16) rfl h AllReadyH.nil)
theorem ytake_17 {P : Program} {md : Region.Mode} {Q : Exit → Act → World → Prop} {S : World → Prop} {o0 o1 o2 o3 o4 o5 o6 o7 o8 o9 o10 o11 o12 o13 o14 o15 o16 o17 : Oper} {rest : List Oper} {v : Value} {fuel : Nat} {listed : Array Bool} {a : Act} {w : World}
    (hs : Region.noSelect (o0 :: o1 :: o2 :: o3 :: o4 :: o5 :: o6 :: o7 :: o8 :: o9 :: o10 :: o11 :: o12 :: o13 :: o14 :: o15 :: o16 :: o17 :: rest).toArray = true) (hf : Region.free md (o0 :: o1 :: o2 :: o3 :: o4 :: o5 :: o6 :: o7 :: o8 :: o9 :: o10 :: o11 :: o12 :: o13 :: o14 :: o15 :: o16 :: o17 :: rest).toArray listed 17 = true) (hr : (Region.ready md (o0 :: o1 :: o2 :: o3 :: o4 :: o5 :: o6 :: o7 :: o8 :: o9 :: o10 :: o11 :: o12 :: o13 :: o14 :: o15 :: o16 :: o17 :: rest).toArray listed).contains 17 = true)
    (hQ : ∀ c a w, Q (.panic c) (a.put o17.dst v) w → Q (.panic c) a w) (hy : YieldsIf P (o0 :: o1 :: o2 :: o3 :: o4 :: o5 :: o6 :: o7 :: o8 :: o9 :: o10 :: o11 :: o12 :: o13 :: o14 :: o15 :: o16 :: o17 :: rest).toArray S o17 v a) (hS : S w)
    (h : wpAnyH P md (o0 :: o1 :: o2 :: o3 :: o4 :: o5 :: o6 :: o7 :: o8 :: o9 :: o10 :: o11 :: o12 :: o13 :: o14 :: o15 :: o16 :: o17 :: rest).toArray Q S fuel (listed.setIfInBounds 17 true) (a.put o17.dst v) w) : wpAnyH P md (o0 :: o1 :: o2 :: o3 :: o4 :: o5 :: o6 :: o7 :: o8 :: o9 :: o10 :: o11 :: o12 :: o13 :: o14 :: o15 :: o16 :: o17 :: rest).toArray Q S (fuel + 1) listed a w :=
  wpAnyH_take (i := 17) (oi := o17) rfl hs hf hr hQ hy hS h
theorem yready_17 {P : Program} {md : Region.Mode} {Q : Exit → Act → World → Prop} {S : World → Prop} {o0 o1 o2 o3 o4 o5 o6 o7 o8 o9 o10 o11 o12 o13 o14 o15 o16 o17 : Oper} {rest : List Oper} {fuel : Nat} {listed : Array Bool} {a : Act} {w : World}
    (hr : Region.ready md (o0 :: o1 :: o2 :: o3 :: o4 :: o5 :: o6 :: o7 :: o8 :: o9 :: o10 :: o11 :: o12 :: o13 :: o14 :: o15 :: o16 :: o17 :: rest).toArray listed = [17])
    (h : ∀ K' : Act → World → Prop, Shut (∀ a w, S w → (S w → wpAnyH P md (o0 :: o1 :: o2 :: o3 :: o4 :: o5 :: o6 :: o7 :: o8 :: o9 :: o10 :: o11 :: o12 :: o13 :: o14 :: o15 :: o16 :: o17 :: rest).toArray Q S fuel (listed.setIfInBounds 17 true) a w) → K' a w) → if Region.wanted o17 (yielded (o0 :: o1 :: o2 :: o3 :: o4 :: o5 :: o6 :: o7 :: o8 :: o9 :: o10 :: o11 :: o12 :: o13 :: o14 :: o15 :: o16 :: o17 :: rest).toArray a.tmps) = true then Oper.wp P o17 a w K' Q else K' (a.put o17.dst undef) w) :
    wpAnyH P md (o0 :: o1 :: o2 :: o3 :: o4 :: o5 :: o6 :: o7 :: o8 :: o9 :: o10 :: o11 :: o12 :: o13 :: o14 :: o15 :: o16 :: o17 :: rest).toArray Q S (fuel + 1) listed a w :=
  wpAnyH_ready hr (by simp) (AllReadyH.cons (i := 17) (o := o17) rfl h AllReadyH.nil)
theorem ytake_18 {P : Program} {md : Region.Mode} {Q : Exit → Act → World → Prop} {S : World → Prop} {o0 o1 o2 o3 o4 o5 o6 o7 o8 o9 o10 o11 o12 o13 o14 o15 o16 o17 o18 : Oper} {rest : List Oper} {v : Value} {fuel : Nat} {listed : Array Bool} {a : Act} {w : World}
    (hs : Region.noSelect (o0 :: o1 :: o2 :: o3 :: o4 :: o5 :: o6 :: o7 :: o8 :: o9 :: o10 :: o11 :: o12 :: o13 :: o14 :: o15 :: o16 :: o17 :: o18 :: rest).toArray = true) (hf : Region.free md (o0 :: o1 :: o2 :: o3 :: o4 :: o5 :: o6 :: o7 :: o8 :: o9 :: o10 :: o11 :: o12 :: o13 :: o14 :: o15 :: o16 :: o17 :: o18 :: rest).toArray listed 18 = true) (hr : (Region.ready md (o0 :: o1 :: o2 :: o3 :: o4 :: o5 :: o6 :: o7 :: o8 :: o9 :: o10 :: o11 :: o12 :: o13 :: o14 :: o15 :: o16 :: o17 :: o18 :: rest).toArray listed).contains 18 = true)
    (hQ : ∀ c a w, Q (.panic c) (a.put o18.dst v) w → Q (.panic c) a w) (hy : YieldsIf P (o0 :: o1 :: o2 :: o3 :: o4 :: o5 :: o6 :: o7 :: o8 :: o9 :: o10 :: o11 :: o12 :: o13 :: o14 :: o15 :: o16 :: o17 :: o18 :: rest).toArray S o18 v a) (hS : S w)
    (h : wpAnyH P md (o0 :: o1 :: o2 :: o3 :: o4 :: o5 :: o6 :: o7 :: o8 :: o9 :: o10 :: o11 :: o12 :: o13 :: o14 :: o15 :: o16 :: o17 :: o18 :: rest).toArray Q S fuel (listed.setIfInBounds 18 true) (a.put o18.dst v) w) : wpAnyH P md (o0 :: o1 :: o2 :: o3 :: o4 :: o5 :: o6 :: o7 :: o8 :: o9 :: o10 :: o11 :: o12 :: o13 :: o14 :: o15 :: o16 :: o17 :: o18 :: rest).toArray Q S (fuel + 1) listed a w :=
  wpAnyH_take (i := 18) (oi := o18) rfl hs hf hr hQ hy hS h
theorem yready_18 {P : Program} {md : Region.Mode} {Q : Exit → Act → World → Prop} {S : World → Prop} {o0 o1 o2 o3 o4 o5 o6 o7 o8 o9 o10 o11 o12 o13 o14 o15 o16 o17 o18 : Oper} {rest : List Oper} {fuel : Nat} {listed : Array Bool} {a : Act} {w : World}
    (hr : Region.ready md (o0 :: o1 :: o2 :: o3 :: o4 :: o5 :: o6 :: o7 :: o8 :: o9 :: o10 :: o11 :: o12 :: o13 :: o14 :: o15 :: o16 :: o17 :: o18 :: rest).toArray listed = [18])
    (h : ∀ K' : Act → World → Prop, Shut (∀ a w, S w → (S w → wpAnyH P md (o0 :: o1 :: o2 :: o3 :: o4 :: o5 :: o6 :: o7 :: o8 :: o9 :: o10 :: o11 :: o12 :: o13 :: o14 :: o15 :: o16 :: o17 :: o18 :: rest).toArray Q S fuel (listed.setIfInBounds 18 true) a w) → K' a w) → if Region.wanted o18 (yielded (o0 :: o1 :: o2 :: o3 :: o4 :: o5 :: o6 :: o7 :: o8 :: o9 :: o10 :: o11 :: o12 :: o13 :: o14 :: o15 :: o16 :: o17 :: o18 :: rest).toArray a.tmps) = true then Oper.wp P o18 a w K' Q else K' (a.put o18.dst undef) w) :
    wpAnyH P md (o0 :: o1 :: o2 :: o3 :: o4 :: o5 :: o6 :: o7 :: o8 :: o9 :: o10 :: o11 :: o12 :: o13 :: o14 :: o15 :: o16 :: o17 :: o18 :: rest).toArray Q S (fuel + 1) listed a w :=
  wpAnyH_ready hr (by simp) (AllReadyH.cons (i := 18) (o := o18) rfl h AllReadyH.nil)
theorem ytake_19 {P : Program} {md : Region.Mode} {Q : Exit → Act → World → Prop} {S : World → Prop} {o0 o1 o2 o3 o4 o5 o6 o7 o8 o9 o10 o11 o12 o13 o14 o15 o16 o17 o18 o19 : Oper} {rest : List Oper} {v : Value} {fuel : Nat} {listed : Array Bool} {a : Act} {w : World}
    (hs : Region.noSelect (o0 :: o1 :: o2 :: o3 :: o4 :: o5 :: o6 :: o7 :: o8 :: o9 :: o10 :: o11 :: o12 :: o13 :: o14 :: o15 :: o16 :: o17 :: o18 :: o19 :: rest).toArray = true) (hf : Region.free md (o0 :: o1 :: o2 :: o3 :: o4 :: o5 :: o6 :: o7 :: o8 :: o9 :: o10 :: o11 :: o12 :: o13 :: o14 :: o15 :: o16 :: o17 :: o18 :: o19 :: rest).toArray listed 19 = true) (hr : (Region.ready md (o0 :: o1 :: o2 :: o3 :: o4 :: o5 :: o6 :: o7 :: o8 :: o9 :: o10 :: o11 :: o12 :: o13 :: o14 :: o15 :: o16 :: o17 :: o18 :: o19 :: rest).toArray listed).contains 19 = true)
    (hQ : ∀ c a w, Q (.panic c) (a.put o19.dst v) w → Q (.panic c) a w) (hy : YieldsIf P (o0 :: o1 :: o2 :: o3 :: o4 :: o5 :: o6 :: o7 :: o8 :: o9 :: o10 :: o11 :: o12 :: o13 :: o14 :: o15 :: o16 :: o17 :: o18 :: o19 :: rest).toArray S o19 v a) (hS : S w)
    (h : wpAnyH P md (o0 :: o1 :: o2 :: o3 :: o4 :: o5 :: o6 :: o7 :: o8 :: o9 :: o10 :: o11 :: o12 :: o13 :: o14 :: o15 :: o16 :: o17 :: o18 :: o19 :: rest).toArray Q S fuel (listed.setIfInBounds 19 true) (a.put o19.dst v) w) : wpAnyH P md (o0 :: o1 :: o2 :: o3 :: o4 :: o5 :: o6 :: o7 :: o8 :: o9 :: o10 :: o11 :: o12 :: o13 :: o14 :: o15 :: o16 :: o17 :: o18 :: o19 :: rest).toArray Q S (fuel + 1) listed a w :=
  wpAnyH_take (i := 19) (oi := o19) rfl hs hf hr hQ hy hS h
theorem yready_19 {P : Program} {md : Region.Mode} {Q : Exit → Act → World → Prop} {S : World → Prop} {o0 o1 o2 o3 o4 o5 o6 o7 o8 o9 o10 o11 o12 o13 o14 o15 o16 o17 o18 o19 : Oper} {rest : List Oper} {fuel : Nat} {listed : Array Bool} {a : Act} {w : World}
    (hr : Region.ready md (o0 :: o1 :: o2 :: o3 :: o4 :: o5 :: o6 :: o7 :: o8 :: o9 :: o10 :: o11 :: o12 :: o13 :: o14 :: o15 :: o16 :: o17 :: o18 :: o19 :: rest).toArray listed = [19])
    (h : ∀ K' : Act → World → Prop, Shut (∀ a w, S w → (S w → wpAnyH P md (o0 :: o1 :: o2 :: o3 :: o4 :: o5 :: o6 :: o7 :: o8 :: o9 :: o10 :: o11 :: o12 :: o13 :: o14 :: o15 :: o16 :: o17 :: o18 :: o19 :: rest).toArray Q S fuel (listed.setIfInBounds 19 true) a w) → K' a w) → if Region.wanted o19 (yielded (o0 :: o1 :: o2 :: o3 :: o4 :: o5 :: o6 :: o7 :: o8 :: o9 :: o10 :: o11 :: o12 :: o13 :: o14 :: o15 :: o16 :: o17 :: o18 :: o19 :: rest).toArray a.tmps) = true then Oper.wp P o19 a w K' Q else K' (a.put o19.dst undef) w) :
    wpAnyH P md (o0 :: o1 :: o2 :: o3 :: o4 :: o5 :: o6 :: o7 :: o8 :: o9 :: o10 :: o11 :: o12 :: o13 :: o14 :: o15 :: o16 :: o17 :: o18 :: o19 :: rest).toArray Q S (fuel + 1) listed a w :=
  wpAnyH_ready hr (by simp) (AllReadyH.cons (i := 19) (o := o19) rfl h AllReadyH.nil)
theorem ytake_20 {P : Program} {md : Region.Mode} {Q : Exit → Act → World → Prop} {S : World → Prop} {o0 o1 o2 o3 o4 o5 o6 o7 o8 o9 o10 o11 o12 o13 o14 o15 o16 o17 o18 o19 o20 : Oper} {rest : List Oper} {v : Value} {fuel : Nat} {listed : Array Bool} {a : Act} {w : World}
    (hs : Region.noSelect (o0 :: o1 :: o2 :: o3 :: o4 :: o5 :: o6 :: o7 :: o8 :: o9 :: o10 :: o11 :: o12 :: o13 :: o14 :: o15 :: o16 :: o17 :: o18 :: o19 :: o20 :: rest).toArray = true) (hf : Region.free md (o0 :: o1 :: o2 :: o3 :: o4 :: o5 :: o6 :: o7 :: o8 :: o9 :: o10 :: o11 :: o12 :: o13 :: o14 :: o15 :: o16 :: o17 :: o18 :: o19 :: o20 :: rest).toArray listed 20 = true) (hr : (Region.ready md (o0 :: o1 :: o2 :: o3 :: o4 :: o5 :: o6 :: o7 :: o8 :: o9 :: o10 :: o11 :: o12 :: o13 :: o14 :: o15 :: o16 :: o17 :: o18 :: o19 :: o20 :: rest).toArray listed).contains 20 = true)
    (hQ : ∀ c a w, Q (.panic c) (a.put o20.dst v) w → Q (.panic c) a w) (hy : YieldsIf P (o0 :: o1 :: o2 :: o3 :: o4 :: o5 :: o6 :: o7 :: o8 :: o9 :: o10 :: o11 :: o12 :: o13 :: o14 :: o15 :: o16 :: o17 :: o18 :: o19 :: o20 :: rest).toArray S o20 v a) (hS : S w)
    (h : wpAnyH P md (o0 :: o1 :: o2 :: o3 :: o4 :: o5 :: o6 :: o7 :: o8 :: o9 :: o10 :: o11 :: o12 :: o13 :: o14 :: o15 :: o16 :: o17 :: o18 :: o19 :: o20 :: rest).toArray Q S fuel (listed.setIfInBounds 20 true) (a.put o20.dst v) w) : wpAnyH P md (o0 :: o1 :: o2 :: o3 :: o4 :: o5 :: o6 :: o7 :: o8 :: o9 :: o10 :: o11 :: o12 :: o13 :: o14 :: o15 :: o16 :: o17 :: o18 :: o19 :: o20 :: rest).toArray Q S (fuel + 1) listed a w :=
  wpAnyH_take (i := 20) (oi := o20) rfl hs hf hr hQ hy hS h
theorem yready_20 {P : Program} {md : Region.Mode} {Q : Exit → Act → World → Prop} {S : World → Prop} {o0 o1 o2 o3 o4 o5 o6 o7 o8 o9 o10 o11 o12 o13 o14 o15 o16 o17 o18 o19 o20 : Oper} {rest : List Oper} {fuel : Nat} {listed : Array Bool} {a : Act} {w : World}
    (hr : Region.ready md (o0 :: o1 :: o2 :: o3 :: o4 :: o5 :: o6 :: o7 :: o8 :: o9 :: o10 :: o11 :: o12 :: o13 :: o14 :: o15 :: o16 :: o17 :: o18 :: o19 :: o20 :: rest).toArray listed = [20])
    (h : ∀ K' : Act → World → Prop, Shut (∀ a w, S w → (S w → wpAnyH P md (o0 :: o1 :: o2 :: o3 :: o4 :: o5 :: o6 :: o7 :: o8 :: o9 :: o10 :: o11 :: o12 :: o13 :: o14 :: o15 :: o16 :: o17 :: o18 :: o19 :: o20 :: rest).toArray Q S fuel (listed.setIfInBounds 20 true) a w) → K' a w) → if Region.wanted o20 (yielded (o0 :: o1 :: o2 :: o3 :: o4 :: o5 :: o6 :: o7 :: o8 :: o9 :: o10 :: o11 :: o12 :: o13 :: o14 :: o15 :: o16 :: o17 :: o18 :: o19 :: o20 :: rest).toArray a.tmps) = true then Oper.wp P o20 a w K' Q else K' (a.put o20.dst undef) w) :
    wpAnyH P md (o0 :: o1 :: o2 :: o3 :: o4 :: o5 :: o6 :: o7 :: o8 :: o9 :: o10 :: o11 :: o12 :: o13 :: o14 :: o15 :: o16 :: o17 :: o18 :: o19 :: o20 :: rest).toArray Q S (fuel + 1) listed a w :=
  wpAnyH_ready hr (by simp) (AllReadyH.cons (i := 20) (o := o20) rfl h AllReadyH.nil)
theorem ytake_21 {P : Program} {md : Region.Mode} {Q : Exit → Act → World → Prop} {S : World → Prop} {o0 o1 o2 o3 o4 o5 o6 o7 o8 o9 o10 o11 o12 o13 o14 o15 o16 o17 o18 o19 o20 o21 : Oper} {rest : List Oper} {v : Value} {fuel : Nat} {listed : Array Bool} {a : Act} {w : World}
    (hs : Region.noSelect (o0 :: o1 :: o2 :: o3 :: o4 :: o5 :: o6 :: o7 :: o8 :: o9 :: o10 :: o11 :: o12 :: o13 :: o14 :: o15 :: o16 :: o17 :: o18 :: o19 :: o20 :: o21 :: rest).toArray = true) (hf : Region.free md (o0 :: o1 :: o2 :: o3 :: o4 :: o5 :: o6 :: o7 :: o8 :: o9 :: o10 :: o11 :: o12 :: o13 :: o14 :: o15 :: o16 :: o17 :: o18 :: o19 :: o20 :: o21 :: rest).toArray listed 21 = true) (hr : (Region.ready md (o0 :: o1 :: o2 :: o3 :: o4 :: o5 :: o6 :: o7 :: o8 :: o9 :: o10 :: o11 :: o12 :: o13 :: o14 :: o15 :: o16 :: o17 :: o18 :: o19 :: o20 :: o21 :: rest).toArray listed).contains 21 = true)
    (hQ : ∀ c a w, Q (.panic c) (a.put o21.dst v) w → Q (.panic c) a w) (hy : YieldsIf P (o0 :: o1 :: o2 :: o3 :: o4 :: o5 :: o6 :: o7 :: o8 :: o9 :: o10 :: o11 :: o12 :: o13 :: o14 :: o15 :: o16 :: o17 :: o18 :: o19 :: o20 :: o21 :: rest).toArray S o21 v a) (hS : S w)
    (h : wpAnyH P md (o0 :: o1 :: o2 :: o3 :: o4 :: o5 :: o6 :: o7 :: o8 :: o9 :: o10 :: o11 :: o12 :: o13 :: o14 :: o15 :: o16 :: o17 :: o18 :: o19 :: o20 :: o21 :: rest).toArray Q S fuel (listed.setIfInBounds 21 true) (a.put o21.dst v) w) : wpAnyH P md (o0 :: o1 :: o2 :: o3 :: o4 :: o5 :: o6 :: o7 :: o8 :: o9 :: o10 :: o11 :: o12 :: o13 :: o14 :: o15 :: o16 :: o17 :: o18 :: o19 :: o20 :: o21 :: rest).toArray Q S (fuel + 1) listed a w :=
  wpAnyH_take (i := 21) (oi := o21) rfl hs hf hr hQ hy hS h
theorem yready_21 {P : Program} {md : Region.Mode} {Q : Exit → Act → World → Prop} {S : World → Prop} {o0 o1 o2 o3 o4 o5 o6 o7 o8 o9 o10 o11 o12 o13 o14 o15 o16 o17 o18 o19 o20 o21 : Oper} {rest : List Oper} {fuel : Nat} {listed : Array Bool} {a : Act} {w : World}
    (hr : Region.ready md (o0 :: o1 :: o2 :: o3 :: o4 :: o5 :: o6 :: o7 :: o8 :: o9 :: o10 :: o11 :: o12 :: o13 :: o14 :: o15 :: o16 :: o17 :: o18 :: o19 :: o20 :: o21 :: rest).toArray listed = [21])
    (h : ∀ K' : Act → World → Prop, Shut (∀ a w, S w → (S w → wpAnyH P md (o0 :: o1 :: o2 :: o3 :: o4 :: o5 :: o6 :: o7 :: o8 :: o9 :: o10 :: o11 :: o12 :: o13 :: o14 :: o15 :: o16 :: o17 :: o18 :: o19 :: o20 :: o21 :: rest).toArray Q S fuel (listed.setIfInBounds 21 true) a w) → K' a w) → if Region.wanted o21 (yielded (o0 :: o1 :: o2 :: o3 :: o4 :: o5 :: o6 :: o7 :: o8 :: o9 :: o10 :: o11 :: o12 :: o13 :: o14 :: o15 :: o16 :: o17 :: o18 :: o19 :: o20 :: o21 :: rest).toArray a.tmps) = true then Oper.wp P o21 a w K' Q else K' (a.put o21.dst undef) w) :
    wpAnyH P md (o0 :: o1 :: o2 :: o3 :: o4 :: o5 :: o6 :: o7 :: o8 :: o9 :: o10 :: o11 :: o12 :: o13 :: o14 :: o15 :: o16 :: o17 :: o18 :: o19 :: o20 :: o21 :: rest).toArray Q S (fuel + 1) listed a w :=
  wpAnyH_ready hr (by simp) (AllReadyH.cons (i := 21) (o := o21) rfl h AllReadyH.nil)
theorem ytake_22 {P : Program} {md : Region.Mode} {Q : Exit → Act → World → Prop} {S : World → Prop} {o0 o1 o2 o3 o4 o5 o6 o7 o8 o9 o10 o11 o12 o13 o14 o15 o16 o17 o18 o19 o20 o21 o22 : Oper} {rest : List Oper} {v : Value} {fuel : Nat} {listed : Array Bool} {a : Act} {w : World}
    (hs : Region.noSelect (o0 :: o1 :: o2 :: o3 :: o4 :: o5 :: o6 :: o7 :: o8 :: o9 :: o10 :: o11 :: o12 :: o13 :: o14 :: o15 :: o16 :: o17 :: o18 :: o19 :: o20 :: o21 :: o22 :: rest).toArray = true) (hf : Region.free md (o0 :: o1 :: o2 :: o3 :: o4 :: o5 :: o6 :: o7 :: o8 :: o9 :: o10 :: o11 :: o12 :: o13 :: o14 :: o15 :: o16 :: o17 :: o18 :: o19 :: o20 :: o21 :: o22 :: rest).toArray listed 22 = true) (hr : (Region.ready md (o0 :: o1 :: o2 :: o3 :: o4 :: o5 :: o6 :: o7 :: o8 :: o9 :: o10 :: o11 :: o12 :: o13 :: o14 :: o15 :: o16 :: o17 :: o18 :: o19 :: o20 :: o21 :: o22 :: rest).toArray listed).contains 22 = true)
    (hQ : ∀ c a w, Q (.panic c) (a.put o22.dst v) w → Q (.panic c) a w) (hy : YieldsIf P (o0 :: o1 :: o2 :: o3 :: o4 :: o5 :: o6 :: o7 :: o8 :: o9 :: o10 :: o11 :: o12 :: o13 :: o14 :: o15 :: o16 :: o17 :: o18 :: o19 :: o20 :: o21 :: o22 :: rest).toArray S o22 v a) (hS : S w)
    (h : wpAnyH P md (o0 :: o1 :: o2 :: o3 :: o4 :: o5 :: o6 :: o7 :: o8 :: o9 :: o10 :: o11 :: o12 :: o13 :: o14 :: o15 :: o16 :: o17 :: o18 :: o19 :: o20 :: o21 :: o22 :: rest).toArray Q S fuel (listed.setIfInBounds 22 true) (a.put o22.dst v) w) : wpAnyH P md (o0 :: o1 :: o2 :: o3 :: o4 :: o5 :: o6 :: o7 :: o8 :: o9 :: o10 :: o11 :: o12 :: o13 :: o14 :: o15 :: o16 :: o17 :: o18 :: o19 :: o20 :: o21 :: o22 :: rest).toArray Q S (fuel + 1) listed a w :=
  wpAnyH_take (i := 22) (oi := o22) rfl hs hf hr hQ hy hS h
theorem yready_22 {P : Program} {md : Region.Mode} {Q : Exit → Act → World → Prop} {S : World → Prop} {o0 o1 o2 o3 o4 o5 o6 o7 o8 o9 o10 o11 o12 o13 o14 o15 o16 o17 o18 o19 o20 o21 o22 : Oper} {rest : List Oper} {fuel : Nat} {listed : Array Bool} {a : Act} {w : World}
    (hr : Region.ready md (o0 :: o1 :: o2 :: o3 :: o4 :: o5 :: o6 :: o7 :: o8 :: o9 :: o10 :: o11 :: o12 :: o13 :: o14 :: o15 :: o16 :: o17 :: o18 :: o19 :: o20 :: o21 :: o22 :: rest).toArray listed = [22])
    (h : ∀ K' : Act → World → Prop, Shut (∀ a w, S w → (S w → wpAnyH P md (o0 :: o1 :: o2 :: o3 :: o4 :: o5 :: o6 :: o7 :: o8 :: o9 :: o10 :: o11 :: o12 :: o13 :: o14 :: o15 :: o16 :: o17 :: o18 :: o19 :: o20 :: o21 :: o22 :: rest).toArray Q S fuel (listed.setIfInBounds 22 true) a w) → K' a w) → if Region.wanted o22 (yielded (o0 :: o1 :: o2 :: o3 :: o4 :: o5 :: o6 :: o7 :: o8 :: o9 :: o10 :: o11 :: o12 :: o13 :: o14 :: o15 :: o16 :: o17 :: o18 :: o19 :: o20 :: o21 :: o22 :: rest).toArray a.tmps) = true then Oper.wp P o22 a w K' Q else K' (a.put o22.dst undef) w) :
    wpAnyH P md (o0 :: o1 :: o2 :: o3 :: o4 :: o5 :: o6 :: o7 :: o8 :: o9 :: o10 :: o11 :: o12 :: o13 :: o14 :: o15 :: o16 :: o17 :: o18 :: o19 :: o20 :: o21 :: o22 :: rest).toArray Q S (fuel + 1) listed a w :=
  wpAnyH_ready hr (by simp) (AllReadyH.cons (i := 22) (o := o22) rfl h AllReadyH.nil)
theorem ytake_23 {P : Program} {md : Region.Mode} {Q : Exit → Act → World → Prop} {S : World → Prop} {o0 o1 o2 o3 o4 o5 o6 o7 o8 o9 o10 o11 o12 o13 o14 o15 o16 o17 o18 o19 o20 o21 o22 o23 : Oper} {rest : List Oper} {v : Value} {fuel : Nat} {listed : Array Bool} {a : Act} {w : World}
    (hs : Region.noSelect (o0 :: o1 :: o2 :: o3 :: o4 :: o5 :: o6 :: o7 :: o8 :: o9 :: o10 :: o11 :: o12 :: o13 :: o14 :: o15 :: o16 :: o17 :: o18 :: o19 :: o20 :: o21 :: o22 :: o23 :: rest).toArray = true) (hf : Region.free md (o0 :: o1 :: o2 :: o3 :: o4 :: o5 :: o6 :: o7 :: o8 :: o9 :: o10 :: o11 :: o12 :: o13 :: o14 :: o15 :: o16 :: o17 :: o18 :: o19 :: o20 :: o21 :: o22 :: o23 :: rest).toArray listed 23 = true) (hr : (Region.ready md (o0 :: o1 :: o2 :: o3 :: o4 :: o5 :: o6 :: o7 :: o8 :: o9 :: o10 :: o11 :: o12 :: o13 :: o14 :: o15 :: o16 :: o17 :: o18 :: o19 :: o20 :: o21 :: o22 :: o23 :: rest).toArray listed).contains 23 = true)
    (hQ : ∀ c a w, Q (.panic c) (a.put o23.dst v) w → Q (.panic c) a w) (hy : YieldsIf P (o0 :: o1 :: o2 :: o3 :: o4 :: o5 :: o6 :: o7 :: o8 :: o9 :: o10 :: o11 :: o12 :: o13 :: o14 :: o15 :: o16 :: o17 :: o18 :: o19 :: o20 :: o21 :: o22 :: o23 :: rest).toArray S o23 v a) (hS : S w)
    (h : wpAnyH P md (o0 :: o1 :: o2 :: o3 :: o4 :: o5 :: o6 :: o7 :: o8 :: o9 :: o10 :: o11 :: o12 :: o13 :: o14 :: o15 :: o16 :: o17 :: o18 :: o19 :: o20 :: o21 :: o22 :: o23 :: rest).toArray Q S fuel (listed.setIfInBounds 23 true) (a.put o23.dst v) w) : wpAnyH P md (o0 :: o1 :: o2 :: o3 :: o4 :: o5 :: o6 :: o7 :: o8 :: o9 :: o10 :: o11 :: o12 :: o13 :: o14 :: o15 :: o16 :: o17 :: o18 :: o19 :: o20 :: o21 :: o22 :: o23 :: rest).toArray Q S (fuel + 1) listed a w :=
  wpAnyH_take (i := 23) (oi := o23) rfl hs hf hr hQ hy hS h
theorem yready_23 {P : Program} {md : Region.Mode} {Q : Exit → Act → World → Prop} {S : World → Prop} {o0 o1 o2 o3 o4 o5 o6 o7 o8 o9 o10 o11 o12 o13 o14 o15 o16 o17 o18 o19 o20 o21 o22 o23 : Oper} {rest : List Oper} {fuel : Nat} {listed : Array Bool} {a : Act} {w : World}
    (hr : Region.ready md (o0 :: o1 :: o2 :: o3 :: o4 :: o5 :: o6 :: o7 :: o8 :: o9 :: o10 :: o11 :: o12 :: o13 :: o14 :: o15 :: o16 :: o17 :: o18 :: o19 :: o20 :: o21 :: o22 :: o23 :: rest).toArray listed = [23])
    (h : ∀ K' : Act → World → Prop, Shut (∀ a w, S w → (S w → wpAnyH P md (o0 :: o1 :: o2 :: o3 :: o4 :: o5 :: o6 :: o7 :: o8 :: o9 :: o10 :: o11 :: o12 :: o13 :: o14 :: o15 :: o16 :: o17 :: o18 :: o19 :: o20 :: o21 :: o22 :: o23 :: rest).toArray Q S fuel (listed.setIfInBounds 23 true) a w) → K' a w) → if Region.wanted o23 (yielded (o0 :: o1 :: o2 :: o3 :: o4 :: o5 :: o6 :: o7 :: o8 :: o9 :: o10 :: o11 :: o12 :: o13 :: o14 :: o15 :: o16 :: o17 :: o18 :: o19 :: o20 :: o21 :: o22 :: o23 :: rest).toArray a.tmps) = true then Oper.wp P o23 a w K' Q else K' (a.put o23.dst undef) w) :
    wpAnyH P md (o0 :: o1 :: o2 :: o3 :: o4 :: o5 :: o6 :: o7 :: o8 :: o9 :: o10 :: o11 :: o12 :: o13 :: o14 :: o15 :: o16 :: o17 :: o18 :: o19 :: o20 :: o21 :: o22 :: o23 :: rest).toArray Q S (fuel + 1) listed a w :=
  wpAnyH_ready hr (by simp) (AllReadyH.cons (i := 23) (o := o23) rfl h AllReadyH.nil)
theorem yready_4_6 {P : Program} {md : Region.Mode} {Q : Exit → Act → World → Prop} {S : World → Prop} {o0 o1 o2 o3 o4 o5 o6 : Oper} {rest : List Oper} {fuel : Nat} {listed : Array Bool} {a : Act} {w : World}
    (hr : Region.ready md (o0 :: o1 :: o2 :: o3 :: o4 :: o5 :: o6 :: rest).toArray listed = [4, 6])
    (h4 : ∀ K' : Act → World → Prop, Shut (∀ a w, S w → (S w → wpAnyH P md (o0 :: o1 :: o2 :: o3 :: o4 :: o5 :: o6 :: rest).toArray Q S fuel (listed.setIfInBounds 4 true) a w) → K' a w) → if Region.wanted o4 (yielded (o0 :: o1 :: o2 :: o3 :: o4 :: o5 :: o6 :: rest).toArray a.tmps) = true then Oper.wp P o4 a w K' Q else K' (a.put o4.dst undef) w)
    (h6 : ∀ K' : Act → World → Prop, Shut (∀ a w, S w → (S w → wpAnyH P md (o0 :: o1 :: o2 :: o3 :: o4 :: o5 :: o6 :: rest).toArray Q S fuel (listed.setIfInBounds 6 true) a w) → K' a w) → if Region.wanted o6 (yielded (o0 :: o1 :: o2 :: o3 :: o4 :: o5 :: o6 :: rest).toArray a.tmps) = true then Oper.wp P o6 a w K' Q else K' (a.put o6.dst undef) w) :
    wpAnyH P md (o0 :: o1 :: o2 :: o3 :: o4 :: o5 :: o6 :: rest).toArray Q S (fuel + 1) listed a w :=
  wpAnyH_ready hr (by simp) (AllReadyH.cons (i := 4) (o := o4) rfl h4 (AllReadyH.cons (i := 6) (o := o6) rfl h6 AllReadyH.nil))
theorem yready_4_7 {P : Program} {md : Region.Mode} {Q : Exit → Act → World → Prop} {S : World → Prop} {o0 o1 o2 o3 o4 o5 o6 o7 : Oper} {rest : List Oper} {fuel : Nat} {listed : Array Bool} {a : Act} {w : World}
    (hr : Region.ready md (o0 :: o1 :: o2 :: o3 :: o4 :: o5 :: o6 :: o7 :: rest).toArray listed = [4, 7])
    (h4 : ∀ K' : Act → World → Prop, Shut (∀ a w, S w → (S w → wpAnyH P md (o0 :: o1 :: o2 :: o3 :: o4 :: o5 :: o6 :: o7 :: rest).toArray Q S fuel (listed.setIfInBounds 4 true) a w) → K' a w) → if Region.wanted o4 (yielded (o0 :: o1 :: o2 :: o3 :: o4 :: o5 :: o6 :: o7 :: rest).toArray a.tmps) = true then Oper.wp P o4 a w K' Q else K' (a.put o4.dst undef) w)
    (h7 : ∀ K' : Act → World → Prop, Shut (∀ a w, S w → (S w → wpAnyH P md (o0 :: o1 :: o2 :: o3 :: o4 :: o5 :: o6 :: o7 :: rest).toArray Q S fuel (listed.setIfInBounds 7 true) a w) → K' a w) → if Region.wanted o7 (yielded (o0 :: o1 :: o2 :: o3 :: o4 :: o5 :: o6 :: o7 :: rest).toArray a.tmps) = true then Oper.wp P o7 a w K' Q else K' (a.put o7.dst undef) w) :
    wpAnyH P md (o0 :: o1 :: o2 :: o3 :: o4 :: o5 :: o6 :: o7 :: rest).toArray Q S (fuel + 1) listed a w :=
  wpAnyH_ready hr (by simp) (AllReadyH.cons (i := 4) (o := o4) rfl h4 (AllReadyH.cons (i := 7) (o := o7) rfl h7 AllReadyH.nil))
theorem yready_4_9 {P : Program} {md : Region.Mode} {Q : Exit → Act → World → Prop} {S : World → Prop} {o0 o1 o2 o3 o4 o5 o6 o7 o8 o9 : Oper} {rest : List Oper} {fuel : Nat} {listed : Array Bool} {a : Act} {w : World}
    (hr : Region.ready md (o0 :: o1 :: o2 :: o3 :: o4 :: o5 :: o6 :: o7 :: o8 :: o9 :: rest).toArray listed = [4, 9])
    (h4 : ∀ K' : Act → World → Prop, Shut (∀ a w, S w → (S w → wpAnyH P md (o0 :: o1 :: o2 :: o3 :: o4 :: o5 :: o6 :: o7 :: o8 :: o9 :: rest).toArray Q S fuel (listed.setIfInBounds 4 true) a w) → K' a w) → if Region.wanted o4 (yielded (o0 :: o1 :: o2 :: o3 :: o4 :: o5 :: o6 :: o7 :: o8 :: o9 :: rest).toArray a.tmps) = true then Oper.wp P o4 a w K' Q else K' (a.put o4.dst undef) w)
    (h9 : ∀ K' : Act → World → Prop, Shut (∀ a w, S w → (S w → wpAnyH P md (o0 :: o1 :: o2 :: o3 :: o4 :: o5 :: o6 :: o7 :: o8 :: o9 :: rest).toArray Q S fuel (listed.setIfInBounds 9 true) a w) → K' a w) → if Region.wanted o9 (yielded (o0 :: o1 :: o2 :: o3 :: o4 :: o5 :: o6 :: o7 :: o8 :: o9 :: rest).toArray a.tmps) = true then Oper.wp P o9 a w K' Q else K' (a.put o9.dst undef) w) :
    wpAnyH P md (o0 :: o1 :: o2 :: o3 :: o4 :: o5 :: o6 :: o7 :: o8 :: o9 :: rest).toArray Q S (fuel + 1) listed a w :=
  wpAnyH_ready hr (by simp) (AllReadyH.cons (i := 4) (o := o4) rfl h4 (AllReadyH.cons (i := 9) (o := o9) rfl h9 AllReadyH.nil))
theorem yready_4_10 {P : Program} {md : Region.Mode} {Q : Exit → Act → World → Prop} {S : World → Prop} {o0 o1 o2 o3 o4 o5 o6 o7 o8 o9 o10 : Oper} {rest : List Oper} {fuel : Nat} {listed : Array Bool} {a : Act} {w : World}
    (hr : Region.ready md (o0 :: o1 :: o2 :: o3 :: o4 :: o5 :: o6 :: o7 :: o8 :: o9 :: o10 :: rest).toArray listed = [4, 10])
    (h4 : ∀ K' : Act → World → Prop, Shut (∀ a w, S w → (S w → wpAnyH P md (o0 :: o1 :: o2 :: o3 :: o4 :: o5 :: o6 :: o7 :: o8 :: o9 :: o10 :: rest).toArray Q S fuel (listed.setIfInBounds 4 true) a w) → K' a w) → if Region.wanted o4 (yielded (o0 :: o1 :: o2 :: o3 :: o4 :: o5 :: o6 :: o7 :: o8 :: o9 :: o10 :: rest).toArray a.tmps) = true then Oper.wp P o4 a w K' Q else K' (a.put o4.dst undef) w)
    (h10 : ∀ K' : Act → World → Prop, Shut (∀ a w, S w → (S w → wpAnyH P md (o0 :: o1 :: o2 :: o3 :: o4 :: o5 :: o6 :: o7 :: o8 :: o9 :: o10 :: rest).toArray Q S fuel (listed.setIfInBounds 10 true) a w) → K' a w) → if Region.wanted o10 (yielded (o0 :: o1 :: o2 :: o3 :: o4 :: o5 :: o6 :: o7 :: o8 :: o9 :: o10 :: rest).toArray a.tmps) = true then Oper.wp P o10 a w K' Q else K' (a.put o10.dst undef) w) :
    wpAnyH P md (o0 :: o1 :: o2 :: o3 :: o4 :: o5 :: o6 :: o7 :: o8 :: o9 :: o10 :: rest).toArray Q S (fuel + 1) listed a w :=
  wpAnyH_ready hr (by simp) (AllReadyH.cons (i := 4) (o := o4) rfl h4 (AllReadyH.cons (i := 10) (o := o10) rfl h10 AllReadyH.nil))
theorem yready_4_13 {P : Program} {md : Region.Mode} {Q : Exit → Act → World → Prop} {S : World → Prop} {o0 o1 o2 o3 o4 o5 o6 o7 o8 o9 o10 o11 o12 o13 : Oper} {rest : List Oper} {fuel : Nat} {listed : Array Bool} {a : Act} {w : World}
    (hr : Region.ready md (o0 :: o1 :: o2 :: o3 :: o4 :: o5 :: o6 :: o7 :: o8 :: o9 :: o10 :: o11 :: o12 :: o13 :: rest).toArray listed = [4, 13])
    (h4 : ∀ K' : Act → World → Prop, Shut (∀ a w, S w → (S w → wpAnyH P md (o0 :: o1 :: o2 :: o3 :: o4 :: o5 :: o6 :: o7 :: o8 :: o9 :: o10 :: o11 :: o12 :: o13 :: rest).toArray Q S fuel (listed.setIfInBounds 4 true) a w) → K' a w) → if Region.wanted o4 (yielded (o0 :: o1 :: o2 :: o3 :: o4 :: o5 :: o6 :: o7 :: o8 :: o9 :: o10 :: o11 :: o12 :: o13 :: rest).toArray a.tmps) = true then Oper.wp P o4 a w K' Q else K' (a.put o4.dst undef) w)
    (h13 : ∀ K' : Act → World → Prop, Shut (∀ a w, S w → (S w → wpAnyH P md (o0 :: o1 :: o2 :: o3 :: o4 :: o5 :: o6 :: o7 :: o8 :: o9 :: o10 :: o11 :: o12 :: o13 :: rest).toArray Q S fuel (listed.setIfInBounds 13 true) a w) → K' a w) → if Region.wanted o13 (yielded (o0 :: o1 :: o2 :: o3 :: o4 :: o5 :: o6 :: o7 :: o8 :: o9 :: o10 :: o11 :: o12 :: o13 :: rest).toArray a.tmps) = true then Oper.wp P o13 a w K' Q else K' (a.put o13.dst undef) w) :
    wpAnyH P md (o0 :: o1 :: o2 :: o3 :: o4 :: o5 :: o6 :: o7 :: o8 :: o9 :: o10 :: o11 :: o12 :: o13 :: rest).toArray Q S (fuel + 1) listed a w :=
  wpAnyH_ready hr (by simp) (AllReadyH.cons (i := 4) (o := o4) rfl h4 (AllReadyH.cons (i := 13) (o := o13) rfl h13 AllReadyH.nil))
theorem yready_4_18 {P : Program} {md : Region.Mode} {Q : Exit → Act → World → Prop} {S : World → Prop} {o0 o1 o2 o3 o4 o5 o6 o7 o8 o9 o10 o11 o12 o13 o14 o15 o16 o17 o18 : Oper} {rest : List Oper} {fuel : Nat} {listed : Array Bool} {a : Act} {w : World}
    (hr : Region.ready md (o0 :: o1 :: o2 :: o3 :: o4 :: o5 :: o6 :: o7 :: o8 :: o9 :: o10 :: o11 :: o12 :: o13 :: o14 :: o15 :: o16 :: o17 :: o18 :: rest).toArray listed = [4, 18])
    (h4 : ∀ K' : Act → World → Prop, Shut (∀ a w, S w → (S w → wpAnyH P md (o0 :: o1 :: o2 :: o3 :: o4 :: o5 :: o6 :: o7 :: o8 :: o9 :: o10 :: o11 :: o12 :: o13 :: o14 :: o15 :: o16 :: o17 :: o18 :: rest).toArray Q S fuel (listed.setIfInBounds 4 true) a w) → K' a w) → if Region.wanted o4 (yielded (o0 :: o1 :: o2 :: o3 :: o4 :: o5 :: o6 :: o7 :: o8 :: o9 :: o10 :: o11 :: o12 :: o13 :: o14 :: o15 :: o16 :: o17 :: o18 :: rest).toArray a.tmps) = true then Oper.wp P o4 a w K' Q else K' (a.put o4.dst undef) w)
    (h18 : ∀ K' : Act → World → Prop, Shut (∀ a w, S w → (S w → wpAnyH P md (o0 :: o1 :: o2 :: o3 :: o4 :: o5 :: o6 :: o7 :: o8 :: o9 :: o10 :: o11 :: o12 :: o13 :: o14 :: o15 :: o16 :: o17 :: o18 :: rest).toArray Q S fuel (listed.setIfInBounds 18 true) a w) → K' a w) → if Region.wanted o18 (yielded (o0 :: o1 :: o2 :: o3 :: o4 :: o5 :: o6 :: o7 :: o8 :: o9 :: o10 :: o11 :: o12 :: o13 :: o14 :: o15 :: o16 :: o17 :: o18 :: rest).toArray a.tmps) = true then Oper.wp P o18 a w K' Q else K' (a.put o18.dst undef) w) :
    wpAnyH P md (o0 :: o1 :: o2 :: o3 :: o4 :: o5 :: o6 :: o7 :: o8 :: o9 :: o10 :: o11 :: o12 :: o13 :: o14 :: o15 :: o16 :: o17 :: o18 :: rest).toArray Q S (fuel + 1) listed a w :=
  wpAnyH_ready hr (by simp) (AllReadyH.cons (i := 4) (o := o4) rfl h4 (AllReadyH.cons (i := 18) (o := o18) rfl h18 AllReadyH.nil))

end Go.Proofs.Ytaccmjgnggepjaa
/-
  Package disk: Sync.
-/
namespace Go.Proofs.Ytaccmjgnggepjaa
open Go.RowKit

theorem sync_facts {w1 : World} {g : Nat} {F : Nat → Prop} {T : PD} {l : Int} {ms : List MF} {m : MF} {p gr nL cap nV nD q : Nat} (h : DiskIn w1 g F T (.slice (some ⟨gr, 0, none⟩) nL cap) l ms) (hm : ms[p]? = some m) (hnV : m.vis.length = nV) (hnD : m.dur.length = nD) (hq : m.same = q) (hnb : ∀ m ∈ ms, gr ∉ m.blks) :
    ∃ AV cV AD cD A1 A2 c2 w2, m.vV = .slice AV nV cV ∧ m.dV = .slice AD nD cD ∧ nV ≤ cV ∧ nD ≤ cD ∧ cV ≤ maxLen ∧ cD ≤ maxLen ∧ ((cV = q → A1 = AV) ∧ (cV ≠ q → ∃ gv, AV = some ⟨gv, 0, none⟩ ∧ A1 = some ⟨gv, q, none⟩)) ∧
      (Builtin.append_ #[48, 48] 48 #[.slice AD q cD, .slice A1 (nV - q) (cV - q)]).run Try.prog w1.drew = .ok (.slice A2 nV c2) w2 ∧
      AtFile w2 gr p m ∧ (∀ o, w2.frozen? ⟨gr, o, none⟩ = false) ∧ w2.ownsRow 0 82 4 (.slice (some ⟨gr, 0, none⟩) nL cap) nL (cellsD ms) ∧ w2.ownsRow 0 5 1 (.slice A2 nV c2) nV (u8s m.vis) ∧ w1.grownBy w2 m.dV.ownBlock ∧ ((Value.slice A2 nV c2).ownBlock = m.dV.ownBlock ∨ (Value.slice A2 nV c2).ownBlock = some w1.heap.size) := by
  have hmem : m ∈ ms := List.mem_of_getElem? hm
  have hf := h.els m hmem
  obtain ⟨AV, cV, hvV, hcV, hmV, hrV⟩ := rd_own hf.rV
  obtain ⟨AD, cD, hdV, hcD, hmD, _⟩ := rd_own hf.rD
  have hs1 := hf.s1
  have hs2 := hf.s2
  have hz1 := hf.z1
  have hz2 := hf.z2
  rw [hnV] at hvV hcV hs1 hz1
  rw [hnD] at hdV hcD hs2 hz2
  rw [hq] at hs1 hs2
  have hrD : w1.ownsRow 0 5 1 (.slice AD nD cD) nD (u8s m.dur) := by have := hf.rD; rwa [hdV, hnD] at this
  have hcut := hrV.cut (k := q) (c := cV) (by rw [u8s_length, hnV]; exact hcV)
  have hown : w1.drew.ownsRow 0 5 1 (.slice AD q cD) q ((u8s m.dur).take q) := row_first hrD hs2
  have hobk : (Value.slice AD q cD).ownBlock = m.dV.ownBlock := by rw [hdV]; cases AD <;> rfl
  have hgr : gr < w1.heap.size := h.lt _ (h.rowF rfl)
  have hgrne : m.dV.ownBlock ≠ some gr := fun e => hnb m hmem (by simp [MF.blks, e])
  obtain ⟨A1, hA1⟩ : ∃ A1, A1 = (if cV = q then AV else AV.map (·.add q)) := ⟨_, rfl⟩
  rw [← hA1] at hcut
  have hlist : (u8s m.dur).take q ++ (u8s m.vis).drop q = u8s m.vis := by
    have h3 := hf.s3
    rw [hq] at h3
    rw [show (u8s m.dur).take q = (u8s m.vis).take q by rw [u8s, u8s, ← List.map_take, ← List.map_take, h3], List.take_append_drop]
  have hall : ∀ c, ∃ A' c' w', (Builtin.append_ #[48, 48] 48 #[.slice AD q cD, .slice A1 (nV - q) c]).run Try.prog w1.drew = .ok (.slice A' (q + (nV - q)) c') w' ∧ w'.ownsRow 0 5 1 (.slice A' (q + (nV - q)) c') (q + (nV - q)) ((u8s m.dur).take q ++ (u8s m.vis).drop q) ∧ w1.drew.grownBy w' (Value.slice AD q cD).ownBlock ∧ ((Value.slice A' (q + (nV - q)) c').ownBlock = (Value.slice AD q cD).ownBlock ∨ (Value.slice A' (q + (nV - q)) c').ownBlock = some w1.drew.heap.size) := fun c =>
    run_app_loc (P := Try.prog) w1.drew 48 48 0 5 (.int .u8 0) 1 Try.underlying48 info_u8 rfl (by decide) (.slice AD q cD) q _ hown A1 (nV - q) c ((u8s m.vis).drop q) (by rw [List.length_drop, u8s_length, hnV]) hcut (fun u hu => u8s_one _ u (List.mem_of_mem_drop hu)) (by omega) (by omega)
  obtain ⟨A2, c2, w2, hr0, ho, hg, hloc⟩ := hall (cV - q)
  have hqq : q + (nV - q) = nV := by omega
  rw [hqq, hlist] at ho
  rw [hqq] at hr0 hloc
  rw [hobk] at hg hloc
  have hg' : w1.grownBy w2 m.dV.ownBlock := ⟨hg.os, hg.tape, hg.output, hg.size, hg.block⟩
  have hgb : w2.heap[gr]? = w1.heap[gr]? := hg'.block gr hgr (fun e => hgrne e.symm)
  have hkf := h.file rfl hm
  refine ⟨AV, cV, AD, cD, A1, A2, c2, w2, hvV, hdV, hcV, hcD, hmV, hmD, ⟨fun e => by rw [hA1, if_pos e], fun e => ?_⟩, hr0, ?_, ?_, ?_, ho, hg', hloc⟩
  · rcases hf.rV.2 with ⟨hv, h0⟩ | ⟨gv, cap', cur, hv, _⟩
    · rw [hvV] at hv
      cases hv
      omega
    · rw [hvV] at hv
      cases hv
      exact ⟨gv, rfl, by rw [hA1, if_neg e]; simp [Addr.add_lit]⟩
  · exact ⟨(World.cell?_of_block (a := ⟨gr, p * 4, none⟩) hgb).trans hkf.a0, (World.cell?_of_block (a := ⟨gr, p * 4 + 1, none⟩) hgb).trans hkf.a1, (World.cell?_of_block (a := ⟨gr, p * 4 + 2, none⟩) hgb).trans hkf.a2, (World.cell?_of_block (a := ⟨gr, p * 4 + 3, none⟩) hgb).trans hkf.a3⟩
  · exact fun o => (World.frozen?_of_block (a := ⟨gr, o, none⟩) hgb).trans (h.rowfz rfl o)
  · have hn : nL = ms.length := by
      rcases h.row.2 with ⟨hv, _⟩ | ⟨_, _, _, hv, _⟩
      · cases hv
      · cases hv; rfl
    have hr := h.row
    rw [← hn] at hr
    exact own_kept hr fun k hk _ => by cases hk; exact hgb

theorem sync_done {w1 w2 : World} {g : Nat} {F : Nat → Prop} {T T' : PD} {l : Int} {ms : List MF} {m : MF} {p gr nL cap nV c2 : Nat} {A2 : Option Addr} (h : DiskIn w1 g F T (.slice (some ⟨gr, 0, none⟩) nL cap) l ms) (hm : ms[p]? = some m) (hnV : m.vis.length = nV) (hnb : ∀ m ∈ ms, gr ∉ m.blks)
    (hfin : AtFile w2 gr p m ∧ (∀ o, w2.frozen? ⟨gr, o, none⟩ = false) ∧ w2.ownsRow 0 82 4 (.slice (some ⟨gr, 0, none⟩) nL cap) nL (cellsD ms) ∧ w2.ownsRow 0 5 1 (.slice A2 nV c2) nV (u8s m.vis) ∧ w1.grownBy w2 m.dV.ownBlock ∧ ((Value.slice A2 nV c2).ownBlock = m.dV.ownBlock ∨ (Value.slice A2 nV c2).ownBlock = some w1.heap.size))
    (hL : T'.L = (ms.map MF.pf).set p { m.pf with dur := m.vis }) (hc : T'.calls = T.calls) (hl : T'.left = T.left) (ho : T'.off = T.off) :
    DiskTo g F T' w1 ((w2.setCell ⟨gr, p * 4 + 2, none⟩ (.slice A2 nV c2)).setCell ⟨gr, p * 4 + 3, none⟩ (.int .i64 (nV : Int))) := by
  obtain ⟨_, _, hrow, hown, hg, hloc⟩ := hfin
  have hmem : m ∈ ms := List.mem_of_getElem? hm
  have hf := h.els m hmem
  have hgr : gr < w1.heap.size := h.lt _ (h.rowF rfl)
  have hbm := hnb m hmem
  have hnd := blks_nd h.ndF hmem
  have s2 := (hrow.stored (p * 4 + 2) (.slice A2 nV c2)).1
  have s3 := (s2.stored (p * 4 + 3) (.int .i64 (nV : Int))).1
  have hset : ((cellsD ms).set (p * 4 + 2) (.slice A2 nV c2)).set (p * 4 + 3) (.int .i64 (nV : Int)) = cellsD (ms.set p { m with dur := m.vis, dV := .slice A2 nV c2, same := nV }) := by
    rw [← cellsD_set_at hm { m with dur := m.vis, dV := .slice A2 nV c2, same := nV } rfl]
    congr 2
    exact (set_same (cellsD_at hm (j := 1) rfl)).symm
  rw [hset] at s3
  obtain ⟨w4, hw4⟩ : ∃ w4, w4 = (w2.setCell ⟨gr, p * 4 + 2, none⟩ (.slice A2 nV c2)).setCell ⟨gr, p * 4 + 3, none⟩ (.int .i64 (nV : Int)) := ⟨_, rfl⟩
  have hset4 : ∀ k, k ≠ gr → w4.heap[k]? = w2.heap[k]? := fun k hk => by
    rw [hw4, heap_setCell_other _ ⟨gr, p * 4 + 3, none⟩ k _ hk, heap_setCell_other _ ⟨gr, p * 4 + 2, none⟩ k _ hk]
  have ht : Touch (fun k => k = gr ∨ k ∈ m.blks) w1 w4 := by
    rw [hw4]
    exact ((Touch.grown (F := fun k => k = gr ∨ k ∈ m.blks) hg fun k hk => .inr (by simp [MF.blks, hk])).set (.inl (.inl rfl)) _).set (.inl (.inl rfl)) _
  rw [← hw4] at s3 ⊢
  have hdg : m.dV.ownBlock ≠ some gr := fun e => hbm (by simp [MF.blks, e])
  have hAg : (Value.slice A2 nV c2).ownBlock ≠ some gr := by
    rcases hloc with e | e <;> rw [e]
    · exact hdg
    · intro e'; cases e'; omega
  have hdis : ∀ k, m.vV.ownBlock = some k → m.dV.ownBlock ≠ some k := by
    intro k hk hk'
    simp only [MF.blks, hk, hk', Option.toList_some, List.nodup_append, List.mem_singleton] at hnd
    exact hnd.2.2 k rfl k rfl rfl
  have hvlt : ∀ k, m.vV.ownBlock = some k → k < w1.heap.size := fun k hk => (own_lt hf.rV hk).1
  have hkV : ∀ k, m.vV.ownBlock = some k → w4.heap[k]? = w1.heap[k]? := fun k hk => by
    have hkg : k ≠ gr := fun e => hbm (by rw [← e]; simp [MF.blks, hk])
    rw [hset4 k hkg]
    exact hg.block k (hvlt k hk) (fun e => hdis k hk e.symm)
  refine h.fileTo (T' := T') hm (m' := { m with dur := m.vis, dV := .slice A2 nV c2, same := nV }) rfl ht s3 ?_ ?_ ?_ hL hc hl ho
  · exact
      { rV := own_kept hf.rV fun k hk _ => hkV k hk
        rD := by
          show w4.ownsRow 0 5 1 (.slice A2 nV c2) m.vis.length (u8s m.vis)
          rw [hnV]
          exact own_kept hown fun k hk _ => hset4 k (fun e => hAg (by rw [hk, e]))
        s1 := by show nV ≤ m.vis.length; omega
        s2 := by show nV ≤ m.vis.length; omega
        s3 := rfl
        b1 := hf.b1
        b2 := hf.b1
        z1 := hf.z1
        z2 := hf.z1
        ok := hf.ok }
  · intro k hk
    simp only [MF.blks, List.mem_append, Option.mem_toList] at hk ⊢
    rcases hk with hk | hk
    · exact .inl (.inl hk)
    · rcases hloc with e | e
      · exact .inl (.inr (by rw [← e]; exact hk))
      · rw [e] at hk; cases hk; exact .inr (Nat.le_refl _)
  · show (m.vV.ownBlock.toList ++ (Value.slice A2 nV c2).ownBlock.toList).Nodup
    rcases hloc with e | e
    · rw [e]; exact hnd
    · rw [e]
      simp only [List.nodup_append, Option.toList_some, List.mem_singleton, Option.mem_toList]
      refine ⟨by cases m.vV.ownBlock <;> simp, by simp, ?_⟩
      rintro a ha b rfl rfl
      exact absurd (hvlt _ ha) (by omega)

set_option maxRecDepth 100000 in
set_option maxHeartbeats 8000000 in
theorem sync_is {F : Nat → Prop} {D : PD} (g : Nat) (s : ByteArray) (w : World) (h : IsDisk w g F D) (hs : s.size ≤ maxLen) (hc : D.calls ≤ 1000000) :
    Calls Try.prog 58 #[.pointer (some ⟨g, 0, none⟩), .string s] w fun e w' => e = .returned (.int .i64 (dSync D s).2) ∧ DiskTo g F (dSync D s).1 w w' := by
  obtain ⟨vL, l, ms, h⟩ := h
  have HD := Lib.hid h
  cases hn : okName s with
  | false =>
    have hr : dSync D s = (D, 1) := by rw [dSync]; exact dOpen_no hn
    rw [hr]
    clear hr h
    go_enter Try.func58, Try.ntmps58
    go_wp2_with (go_at_call 62; refine (open_no _ _ _ hs hn).mono ?_; rintro e w' ⟨rfl, rfl⟩)
    go_ret
    exact ⟨rfl, DiskTo.same ⟨_, _, _, HD.out⟩⟩
  | true =>
    cases hoff : D.tick.off with
    | true =>
      have hr : dSync D s = (D.tick, 9) := by rw [dSync]; exact dOpen_off hn hoff
      rw [hr]
      clear hr h
      go_enter Try.func58, Try.ntmps58
      go_wp2_with (go_at_call 62; refine (open_off _ _ _ HD.out hs hn hc hoff).mono ?_; rintro e w' ⟨rfl, hto⟩)
      go_ret
      exact ⟨rfl, hto.done HD.out.here⟩
    | false =>
      cases hh : D.has s with
      | false =>
        have hr : dSync D s = (D.tick, 3) := by rw [dSync]; exact dOpen_none hn hoff hh
        rw [hr]
        clear hr h
        go_enter Try.func58, Try.ntmps58
        go_wp2_with (go_at_call 62; refine (open_on false _ _ _ _ HD.out hs hn hc hoff hh rfl).mono ?_; rintro e w' ⟨he, hto⟩; simp only [Bool.false_eq_true, if_false] at he; subst he)
        go_ret
        exact ⟨rfl, hto.done HD.out.here⟩
      | true =>
        obtain ⟨m, hm, hmn, hvis, hpl⟩ := h.there hh
        have hfa := h.fileAt hh hm
        have hfew := h.few
        obtain ⟨p, hp⟩ : ∃ p, D.pos s = p := ⟨_, rfl⟩
        rw [hp] at hm hpl
        obtain ⟨gr, cap, hvL, hnc, hcm, hne, hF, hnb⟩ := h.rowAt (by omega)
        have hmem : m ∈ ms := List.mem_of_getElem? hm
        obtain ⟨nL, hnL⟩ : ∃ nL, ms.length = nL := ⟨_, rfl⟩
        rw [hnL] at hvL hnc hpl hfew
        have hr : dSync D s = (D.with (D.L.set p { m.pf with dur := m.vis }), 0) := by rw [dSync, dOpen_yes hn hoff hfa, hp]; rfl
        rw [hr]
        have HVL := Lib.hid hvL
        have HNL := Lib.hid hnL
        have HM := Lib.hid hm
        have HMM := Lib.hid hmem
        have HP := Lib.hid hp
        have HH := Lib.hid hh
        have HBL := Lib.hid hnb
        have hz1 := (h.els m hmem).z1
        have hz2 := (h.els m hmem).z2
        have hs1 := (h.els m hmem).s1
        have hs2 := (h.els m hmem).s2
        obtain ⟨nV, hnV⟩ : ∃ nV, m.vis.length = nV := ⟨_, rfl⟩
        obtain ⟨nD, hnD⟩ : ∃ nD, m.dur.length = nD := ⟨_, rfl⟩
        obtain ⟨q, hq⟩ : ∃ q, m.same = q := ⟨_, rfl⟩
        rw [hnV] at hz1 hs1
        rw [hnD] at hz2 hs2
        rw [hq] at hs1 hs2
        have HNV := Lib.hid hnV
        have HND := Lib.hid hnD
        have HQ := Lib.hid hq
        subst hvL
        clear hr h hfa hvis hm hmem hmn hp hh hnb hnV hnL hnD hq
        have i0 : (0 : Int) ≤ (p : Int) := by omega
        have i1 : (p : Int) < (nL : Int) := by omega
        go_enter Try.func58, Try.ntmps58
        go_wp2_with fail
        refine (open_on true p _ _ _ HD.out hs hn hc hoff HH.out HP.out).mono ?_
        rintro e w1 ⟨he, hto⟩
        simp only [if_true] at he
        subst he
        have HT := Lib.hid (hto.touch HD.out.here)
        obtain ⟨l1, hd1, _⟩ := hto
        have HD1 := Lib.hid hd1
        have hsy := sync_facts hd1 HM.out HNV.out HND.out HQ.out HBL.out
        obtain ⟨AV, cV, AD, cD, A1, A2, c2, w2, hvV, hdV, hqV, hqD, hcV, hcD, hA1, hrun, hfin⟩ := hsy
        have k0 := hd1.c0
        have kf := hd1.file rfl HM.out
        have k1 := kf.a1
        have k2 := kf.a2
        have k3 := kf.a3
        rw [hvV] at k1
        rw [hdV] at k2
        rw [HQ.out] at k3
        have HRUN := Lib.hid hrun
        have HFIN := Lib.hid hfin
        have g1 := hfin.1.a1
        have g2 := hfin.1.a2
        have g3 := hfin.1.a3
        rw [hvV] at g1
        rw [hdV] at g2
        rw [HQ.out] at g3
        have f2 := hfin.2.1 (p * 4 + 2)
        have f3 := hfin.2.1 (p * 4 + 3)
        clear hvV hdV kf hd1 hrun hfin
        unfold maxLen at hcV hcD hcm
        have i2 : (0 : Int) ≤ (q : Int) := by omega
        have i3 : (q : Int) ≤ (cD : Int) := by omega
        have i4 : (q : Int) ≤ (nV : Int) := by omega
        have i5 : q ≤ nV := by omega
        have i6 : q ≤ cD := by omega
        by_cases hcq : cV = q
        · have hA1' := hA1.1 hcq
          obtain rfl : nV = q := by omega
          subst hA1' hcq
          have HRUN2 := HRUN.out
          simp only [Nat.sub_self] at HRUN2
          have HR := Lib.hid HRUN2
          clear HRUN HRUN2 hA1
          go_wp2_with fail
          refine wp_region_held_drew (S := fun w' => w'.cell? ⟨gr, p * 4 + 1, none⟩ = some (.slice A1 cV cV) ∧ w'.cell? ⟨gr, p * 4 + 3, none⟩ = some (.int .i64 cV)) (by kernel_rfl) ⟨k1, k3⟩ (fun _ => ?_)
          refine ytake_0 (v := ?vv21) (by kernel_rfl) (by kernel_rfl) (by kernel_rfl) (fun _ _ _ h => h) (Or.inl ⟨by rfl, ?hy21⟩) ⟨k1, k3⟩ ?_
          case hy21 =>
            intro wX hSw
            go_simp
            try with_reducible rfl
          try simp only [Act.put, List.setIfInBounds_toArray, List.set_cons_zero, List.set_cons_succ]
          refine ytake_1 (v := ?vv22) (by kernel_rfl) (by kernel_rfl) (by kernel_rfl) (fun _ _ _ h => h) (Or.inl ⟨by rfl, ?hy22⟩) ⟨k1, k3⟩ ?_
          case hy22 =>
            intro wX hSw
            go_simp
            try with_reducible rfl
          try simp only [Act.put, List.setIfInBounds_toArray, List.set_cons_zero, List.set_cons_succ]
          refine ytake_2 (v := ?vv23) (by kernel_rfl) (by kernel_rfl) (by kernel_rfl) (fun _ _ _ h => h) (Or.inl ⟨by rfl, ?hy23⟩) ⟨k1, k3⟩ ?_
          case hy23 =>
            intro wX hSw
            go_simp
            try with_reducible rfl
          try simp only [Act.put, List.setIfInBounds_toArray, List.set_cons_zero, List.set_cons_succ]
          refine ytake_3 (v := ?vv24) (by kernel_rfl) (by kernel_rfl) (by kernel_rfl) (fun _ _ _ h => h) (Or.inl ⟨by rfl, ?hy24⟩) ⟨k1, k3⟩ ?_
          case hy24 =>
            intro wX hSw
            go_simp
            try with_reducible rfl
          try simp only [Act.put, List.setIfInBounds_toArray, List.set_cons_zero, List.set_cons_succ]
          refine ytake_5 (v := ?vv25) (by kernel_rfl) (by kernel_rfl) (by kernel_rfl) (fun _ _ _ h => h) (Or.inl ⟨by rfl, ?hy25⟩) ⟨k1, k3⟩ ?_
          case hy25 =>
            intro wX hSw
            go_simp
            try with_reducible rfl
          try simp only [Act.put, List.setIfInBounds_toArray, List.set_cons_zero, List.set_cons_succ]
          refine ytake_6 (v := ?vv26) (by kernel_rfl) (by kernel_rfl) (by kernel_rfl) (fun _ _ _ h => h) (Or.inl ⟨by rfl, ?hy26⟩) ⟨k1, k3⟩ ?_
          case hy26 =>
            intro wX hSw
            go_simp
            try with_reducible rfl
          try simp only [Act.put, List.setIfInBounds_toArray, List.set_cons_zero, List.set_cons_succ]
          refine ytake_7 (v := ?vv27) (by kernel_rfl) (by kernel_rfl) (by kernel_rfl) (fun _ _ _ h => h) (Or.inl ⟨by rfl, ?hy27⟩) ⟨k1, k3⟩ ?_
          case hy27 =>
            intro wX hSw
            go_simp
            try with_reducible rfl
          try simp only [Act.put, List.setIfInBounds_toArray, List.set_cons_zero, List.set_cons_succ]
          refine ytake_8 (v := ?vv28) (by kernel_rfl) (by kernel_rfl) (by kernel_rfl) (fun _ _ _ h => h) (Or.inl ⟨by rfl, ?hy28⟩) ⟨k1, k3⟩ ?_
          case hy28 =>
            intro wX hSw
            have hcc := hSw.2
            go_simp
            try with_reducible rfl
          try simp only [Act.put, List.setIfInBounds_toArray, List.set_cons_zero, List.set_cons_succ]
          refine ytake_10 (v := ?vv29) (by kernel_rfl) (by kernel_rfl) (by kernel_rfl) (fun _ _ _ h => h) (Or.inl ⟨by rfl, ?hy29⟩) ⟨k1, k3⟩ ?_
          case hy29 =>
            intro wX hSw
            go_simp
            try with_reducible rfl
          try simp only [Act.put, List.setIfInBounds_toArray, List.set_cons_zero, List.set_cons_succ]
          refine ytake_11 (v := ?vv30) (by kernel_rfl) (by kernel_rfl) (by kernel_rfl) (fun _ _ _ h => h) (Or.inl ⟨by rfl, ?hy30⟩) ⟨k1, k3⟩ ?_
          case hy30 =>
            intro wX hSw
            go_simp
            try with_reducible rfl
          try simp only [Act.put, List.setIfInBounds_toArray, List.set_cons_zero, List.set_cons_succ]
          refine ytake_12 (v := ?vv31) (by kernel_rfl) (by kernel_rfl) (by kernel_rfl) (fun _ _ _ h => h) (Or.inl ⟨by rfl, ?hy31⟩) ⟨k1, k3⟩ ?_
          case hy31 =>
            intro wX hSw
            go_simp
            try with_reducible rfl
          try simp only [Act.put, List.setIfInBounds_toArray, List.set_cons_zero, List.set_cons_succ]
          refine ytake_13 (v := ?vv32) (by kernel_rfl) (by kernel_rfl) (by kernel_rfl) (fun _ _ _ h => h) (Or.inl ⟨by rfl, ?hy32⟩) ⟨k1, k3⟩ ?_
          case hy32 =>
            intro wX hSw
            have hcc := hSw.1
            go_simp
            try with_reducible rfl
          try simp only [Act.put, List.setIfInBounds_toArray, List.set_cons_zero, List.set_cons_succ]
          refine ytake_14 (v := ?vv33) (by kernel_rfl) (by kernel_rfl) (by kernel_rfl) (fun _ _ _ h => h) (Or.inl ⟨by rfl, ?hy33⟩) ⟨k1, k3⟩ ?_
          case hy33 =>
            intro wX hSw
            go_simp
            try with_reducible rfl
          try simp only [Act.put, List.setIfInBounds_toArray, List.set_cons_zero, List.set_cons_succ]
          refine ytake_15 (v := ?vv34) (by kernel_rfl) (by kernel_rfl) (by kernel_rfl) (fun _ _ _ h => h) (Or.inl ⟨by rfl, ?hy34⟩) ⟨k1, k3⟩ ?_
          case hy34 =>
            intro wX hSw
            go_simp
            try with_reducible rfl
          try simp only [Act.put, List.setIfInBounds_toArray, List.set_cons_zero, List.set_cons_succ]
          refine ytake_16 (v := ?vv35) (by kernel_rfl) (by kernel_rfl) (by kernel_rfl) (fun _ _ _ h => h) (Or.inl ⟨by rfl, ?hy35⟩) ⟨k1, k3⟩ ?_
          case hy35 =>
            intro wX hSw
            go_simp
            try with_reducible rfl
          try simp only [Act.put, List.setIfInBounds_toArray, List.set_cons_zero, List.set_cons_succ]
          refine ytake_17 (v := ?vv36) (by kernel_rfl) (by kernel_rfl) (by kernel_rfl) (fun _ _ _ h => h) (Or.inl ⟨by rfl, ?hy36⟩) ⟨k1, k3⟩ ?_
          case hy36 =>
            intro wX hSw
            have hcc := hSw.2
            go_simp
            try with_reducible rfl
          try simp only [Act.put, List.setIfInBounds_toArray, List.set_cons_zero, List.set_cons_succ]
          refine ytake_18 (v := ?vv37) (by kernel_rfl) (by kernel_rfl) (by kernel_rfl) (fun _ _ _ h => h) (Or.inl ⟨by rfl, ?hy37⟩) ⟨k1, k3⟩ ?_
          case hy37 =>
            intro wX hSw
            go_simp
            try with_reducible rfl
          try simp only [Act.put, List.setIfInBounds_toArray, List.set_cons_zero, List.set_cons_succ]
          refine yready_4 (by kernel_rfl) ?_
          intro KQ hK
          rw [if_pos (by rfl)]
          go_simp
          refine hK.out _ _ ⟨k1, k3⟩ (fun _ => ?_)
          clear hK KQ
          try simp only [Act.put, List.setIfInBounds_toArray, List.set_cons_zero, List.set_cons_succ]
          refine ytake_9 (v := ?vv38) (by kernel_rfl) (by kernel_rfl) (by kernel_rfl) (fun _ _ _ h => h) (Or.inl ⟨by rfl, ?hy38⟩) ⟨k1, k3⟩ ?_
          case hy38 =>
            intro wX hSw
            go_simp
            try with_reducible rfl
          try simp only [Act.put, List.setIfInBounds_toArray, List.set_cons_zero, List.set_cons_succ]
          refine yready_19 (by kernel_rfl) ?_
          intro KQ hK
          rw [if_pos (by rfl)]
          refine wp_call_run _ (.tmp 32) (.tmp 41) 48 48 rfl rfl rfl HR.out ?_
          refine hK.out _ _ ⟨g1, g3⟩ (fun _ => ?_)
          clear hK KQ
          try simp only [Act.put, List.setIfInBounds_toArray, List.set_cons_zero, List.set_cons_succ]
          refine ytake_20 (v := ?vv39) (by kernel_rfl) (by kernel_rfl) (by kernel_rfl) (fun _ _ _ h => h) (Or.inl ⟨by rfl, ?hy39⟩) ⟨g1, g3⟩ ?_
          case hy39 =>
            intro wX hSw
            go_simp
            try with_reducible rfl
          try simp only [Act.put, List.setIfInBounds_toArray, List.set_cons_zero, List.set_cons_succ]
          refine ytake_21 (v := ?vv40) (by kernel_rfl) (by kernel_rfl) (by kernel_rfl) (fun _ _ _ h => h) (Or.inl ⟨by rfl, ?hy40⟩) ⟨g1, g3⟩ ?_
          case hy40 =>
            intro wX hSw
            go_simp
            try with_reducible rfl
          try simp only [Act.put, List.setIfInBounds_toArray, List.set_cons_zero, List.set_cons_succ]
          refine yready_22 (by kernel_rfl) ?_
          intro KQ hK
          rw [if_pos (by rfl)]
          go_simp
          refine hK.out _ _ ⟨by go_simp, by go_simp⟩ (fun _ => ?_)
          clear hK KQ
          try simp only [Act.put, List.setIfInBounds_toArray, List.set_cons_zero, List.set_cons_succ]
          refine wpAnyH_done (by kernel_rfl) ?_ _
          go_wp2_with fail
          go_ret
          refine ⟨rfl, DiskTo.behind HT.out ?_⟩
          exact sync_done HD1.out HM.out HNV.out HBL.out HFIN.out (T' := D.with (D.L.set p { m.pf with dur := m.vis })) (by show D.L.set p _ = _; rw [HD.out.eqL]) rfl rfl rfl
        · obtain ⟨gv, hAV, hA1'⟩ := hA1.2 hcq
          have HCQ := Lib.hid hcq
          subst hAV hA1'
          have HR := Lib.hid HRUN.out
          clear HRUN hA1
          go_wp2_with fail
          refine wp_region_held_drew (S := fun w' => w'.cell? ⟨gr, p * 4 + 1, none⟩ = some (.slice (some ⟨gv, 0, none⟩) nV cV) ∧ w'.cell? ⟨gr, p * 4 + 3, none⟩ = some (.int .i64 q)) (by kernel_rfl) ⟨k1, k3⟩ (fun _ => ?_)
          refine ytake_0 (v := ?vv1) (by kernel_rfl) (by kernel_rfl) (by kernel_rfl) (fun _ _ _ h => h) (Or.inl ⟨by rfl, ?hy1⟩) ⟨k1, k3⟩ ?_
          case hy1 =>
            intro wX hSw
            go_simp
            try with_reducible rfl
          try simp only [Act.put, List.setIfInBounds_toArray, List.set_cons_zero, List.set_cons_succ]
          refine ytake_1 (v := ?vv2) (by kernel_rfl) (by kernel_rfl) (by kernel_rfl) (fun _ _ _ h => h) (Or.inl ⟨by rfl, ?hy2⟩) ⟨k1, k3⟩ ?_
          case hy2 =>
            intro wX hSw
            go_simp
            try with_reducible rfl
          try simp only [Act.put, List.setIfInBounds_toArray, List.set_cons_zero, List.set_cons_succ]
          refine ytake_2 (v := ?vv3) (by kernel_rfl) (by kernel_rfl) (by kernel_rfl) (fun _ _ _ h => h) (Or.inl ⟨by rfl, ?hy3⟩) ⟨k1, k3⟩ ?_
          case hy3 =>
            intro wX hSw
            go_simp
            try with_reducible rfl
          try simp only [Act.put, List.setIfInBounds_toArray, List.set_cons_zero, List.set_cons_succ]
          refine ytake_3 (v := ?vv4) (by kernel_rfl) (by kernel_rfl) (by kernel_rfl) (fun _ _ _ h => h) (Or.inl ⟨by rfl, ?hy4⟩) ⟨k1, k3⟩ ?_
          case hy4 =>
            intro wX hSw
            go_simp
            try with_reducible rfl
          try simp only [Act.put, List.setIfInBounds_toArray, List.set_cons_zero, List.set_cons_succ]
          refine ytake_5 (v := ?vv5) (by kernel_rfl) (by kernel_rfl) (by kernel_rfl) (fun _ _ _ h => h) (Or.inl ⟨by rfl, ?hy5⟩) ⟨k1, k3⟩ ?_
          case hy5 =>
            intro wX hSw
            go_simp
            try with_reducible rfl
          try simp only [Act.put, List.setIfInBounds_toArray, List.set_cons_zero, List.set_cons_succ]
          refine ytake_6 (v := ?vv6) (by kernel_rfl) (by kernel_rfl) (by kernel_rfl) (fun _ _ _ h => h) (Or.inl ⟨by rfl, ?hy6⟩) ⟨k1, k3⟩ ?_
          case hy6 =>
            intro wX hSw
            go_simp
            try with_reducible rfl
          try simp only [Act.put, List.setIfInBounds_toArray, List.set_cons_zero, List.set_cons_succ]
          refine ytake_7 (v := ?vv7) (by kernel_rfl) (by kernel_rfl) (by kernel_rfl) (fun _ _ _ h => h) (Or.inl ⟨by rfl, ?hy7⟩) ⟨k1, k3⟩ ?_
          case hy7 =>
            intro wX hSw
            go_simp
            try with_reducible rfl
          try simp only [Act.put, List.setIfInBounds_toArray, List.set_cons_zero, List.set_cons_succ]
          refine ytake_8 (v := ?vv8) (by kernel_rfl) (by kernel_rfl) (by kernel_rfl) (fun _ _ _ h => h) (Or.inl ⟨by rfl, ?hy8⟩) ⟨k1, k3⟩ ?_
          case hy8 =>
            intro wX hSw
            have hcc := hSw.2
            go_simp
            try with_reducible rfl
          try simp only [Act.put, List.setIfInBounds_toArray, List.set_cons_zero, List.set_cons_succ]
          refine ytake_10 (v := ?vv9) (by kernel_rfl) (by kernel_rfl) (by kernel_rfl) (fun _ _ _ h => h) (Or.inl ⟨by rfl, ?hy9⟩) ⟨k1, k3⟩ ?_
          case hy9 =>
            intro wX hSw
            go_simp
            try with_reducible rfl
          try simp only [Act.put, List.setIfInBounds_toArray, List.set_cons_zero, List.set_cons_succ]
          refine ytake_11 (v := ?vv10) (by kernel_rfl) (by kernel_rfl) (by kernel_rfl) (fun _ _ _ h => h) (Or.inl ⟨by rfl, ?hy10⟩) ⟨k1, k3⟩ ?_
          case hy10 =>
            intro wX hSw
            go_simp
            try with_reducible rfl
          try simp only [Act.put, List.setIfInBounds_toArray, List.set_cons_zero, List.set_cons_succ]
          refine ytake_12 (v := ?vv11) (by kernel_rfl) (by kernel_rfl) (by kernel_rfl) (fun _ _ _ h => h) (Or.inl ⟨by rfl, ?hy11⟩) ⟨k1, k3⟩ ?_
          case hy11 =>
            intro wX hSw
            go_simp
            try with_reducible rfl
          try simp only [Act.put, List.setIfInBounds_toArray, List.set_cons_zero, List.set_cons_succ]
          refine ytake_13 (v := ?vv12) (by kernel_rfl) (by kernel_rfl) (by kernel_rfl) (fun _ _ _ h => h) (Or.inl ⟨by rfl, ?hy12⟩) ⟨k1, k3⟩ ?_
          case hy12 =>
            intro wX hSw
            have hcc := hSw.1
            go_simp
            try with_reducible rfl
          try simp only [Act.put, List.setIfInBounds_toArray, List.set_cons_zero, List.set_cons_succ]
          refine ytake_14 (v := ?vv13) (by kernel_rfl) (by kernel_rfl) (by kernel_rfl) (fun _ _ _ h => h) (Or.inl ⟨by rfl, ?hy13⟩) ⟨k1, k3⟩ ?_
          case hy13 =>
            intro wX hSw
            go_simp
            try with_reducible rfl
          try simp only [Act.put, List.setIfInBounds_toArray, List.set_cons_zero, List.set_cons_succ]
          refine ytake_15 (v := ?vv14) (by kernel_rfl) (by kernel_rfl) (by kernel_rfl) (fun _ _ _ h => h) (Or.inl ⟨by rfl, ?hy14⟩) ⟨k1, k3⟩ ?_
          case hy14 =>
            intro wX hSw
            go_simp
            try with_reducible rfl
          try simp only [Act.put, List.setIfInBounds_toArray, List.set_cons_zero, List.set_cons_succ]
          refine ytake_16 (v := ?vv15) (by kernel_rfl) (by kernel_rfl) (by kernel_rfl) (fun _ _ _ h => h) (Or.inl ⟨by rfl, ?hy15⟩) ⟨k1, k3⟩ ?_
          case hy15 =>
            intro wX hSw
            go_simp
            try with_reducible rfl
          try simp only [Act.put, List.setIfInBounds_toArray, List.set_cons_zero, List.set_cons_succ]
          refine ytake_17 (v := ?vv16) (by kernel_rfl) (by kernel_rfl) (by kernel_rfl) (fun _ _ _ h => h) (Or.inl ⟨by rfl, ?hy16⟩) ⟨k1, k3⟩ ?_
          case hy16 =>
            intro wX hSw
            have hcc := hSw.2
            go_simp
            try with_reducible rfl
          try simp only [Act.put, List.setIfInBounds_toArray, List.set_cons_zero, List.set_cons_succ]
          refine ytake_18 (v := ?vv17) (by kernel_rfl) (by kernel_rfl) (by kernel_rfl) (fun _ _ _ h => h) (Or.inl ⟨by rfl, ?hy17⟩) ⟨k1, k3⟩ ?_
          case hy17 =>
            intro wX hSw
            go_simp
            try with_reducible rfl
          try simp only [Act.put, List.setIfInBounds_toArray, List.set_cons_zero, List.set_cons_succ]
          refine yready_4 (by kernel_rfl) ?_
          intro KQ hK
          rw [if_pos (by rfl)]
          go_simp
          refine hK.out _ _ ⟨k1, k3⟩ (fun _ => ?_)
          clear hK KQ
          try simp only [Act.put, List.setIfInBounds_toArray, List.set_cons_zero, List.set_cons_succ]
          refine ytake_9 (v := ?vv18) (by kernel_rfl) (by kernel_rfl) (by kernel_rfl) (fun _ _ _ h => h) (Or.inl ⟨by rfl, ?hy18⟩) ⟨k1, k3⟩ ?_
          case hy18 =>
            intro wX hSw
            go_simp
            try with_reducible rfl
          try simp only [Act.put, List.setIfInBounds_toArray, List.set_cons_zero, List.set_cons_succ]
          refine yready_19 (by kernel_rfl) ?_
          intro KQ hK
          rw [if_pos (by rfl)]
          refine wp_call_run _ (.tmp 32) (.tmp 41) 48 48 rfl rfl rfl HR.out ?_
          refine hK.out _ _ ⟨g1, g3⟩ (fun _ => ?_)
          clear hK KQ
          try simp only [Act.put, List.setIfInBounds_toArray, List.set_cons_zero, List.set_cons_succ]
          refine ytake_20 (v := ?vv19) (by kernel_rfl) (by kernel_rfl) (by kernel_rfl) (fun _ _ _ h => h) (Or.inl ⟨by rfl, ?hy19⟩) ⟨g1, g3⟩ ?_
          case hy19 =>
            intro wX hSw
            go_simp
            try with_reducible rfl
          try simp only [Act.put, List.setIfInBounds_toArray, List.set_cons_zero, List.set_cons_succ]
          refine ytake_21 (v := ?vv20) (by kernel_rfl) (by kernel_rfl) (by kernel_rfl) (fun _ _ _ h => h) (Or.inl ⟨by rfl, ?hy20⟩) ⟨g1, g3⟩ ?_
          case hy20 =>
            intro wX hSw
            go_simp
            try with_reducible rfl
          try simp only [Act.put, List.setIfInBounds_toArray, List.set_cons_zero, List.set_cons_succ]
          refine yready_22 (by kernel_rfl) ?_
          intro KQ hK
          rw [if_pos (by rfl)]
          go_simp
          refine hK.out _ _ ⟨by go_simp, by go_simp⟩ (fun _ => ?_)
          clear hK KQ
          try simp only [Act.put, List.setIfInBounds_toArray, List.set_cons_zero, List.set_cons_succ]
          refine wpAnyH_done (by kernel_rfl) ?_ _
          go_wp2_with fail
          go_ret
          refine ⟨rfl, DiskTo.behind HT.out ?_⟩
          exact sync_done HD1.out HM.out HNV.out HBL.out HFIN.out (T' := D.with (D.L.set p { m.pf with dur := m.vis })) (by show D.L.set p _ = _; rw [HD.out.eqL]) rfl rfl rfl

end Go.Proofs.Ytaccmjgnggepjaa
/-
  Package disk: a file more.
-/
namespace Go.Proofs.Ytaccmjgnggepjaa
open Go.RowKit

theorem flat_ins (ms : List MF) (p : Nat) (m : MF) : ((ms.take p ++ m :: ms.drop p).flatMap MF.blks).Perm (m.blks ++ ms.flatMap MF.blks) := by
  have h : (ms.take p ++ m :: ms.drop p).Perm (m :: ms) := by
    have h1 : (ms.take p ++ m :: ms.drop p).Perm (m :: (ms.take p ++ ms.drop p)) := List.perm_middle
    rwa [List.take_append_drop] at h1
  have h2 := h.flatMap_right MF.blks
  rwa [List.flatMap_cons] at h2
theorem ins_len {α : Type} (l : List α) (p : Nat) (x : α) : (l.take p ++ x :: l.drop p).length = l.length + 1 := by
  rw [List.length_append, List.length_cons]
  have := congrArg List.length (List.take_append_drop p l)
  rw [List.length_append] at this
  omega

theorem set_mid {α : Type} {l : List α} {p : Nat} (h : p ≤ l.length) (x y : α) : (l.take p ++ x :: l.drop p).set p y = l.take p ++ y :: l.drop p := by
  rw [List.set_append_right _ _ (by rw [List.length_take]; omega), List.length_take, Nat.min_eq_left h, Nat.sub_self]
  rfl

section
variable {w w1 w2 w4 w' w'' : World} {g : Nat} {F F1 F' : Nat → Prop} {D D' T T' : PD} {vL vL' v2 : Value} {l l' : Int} {ms ms' ms2 : List MF} {s : ByteArray} {m m' : MF} {i gx : Nat} {f : PF}
/-- behind a disk anew, another one -/
theorem DiskTo.after (ht : Touch F w w') (hs : ∀ k, F1 k → F k ∨ w.heap.size ≤ k) (h2 : DiskTo g F1 D' w' w'') : DiskTo g F D' w w'' := by
  obtain ⟨F2, hd2, ht2, hs2⟩ := h2
  refine ⟨F2, hd2, ht.trans ht2 hs, fun k hk => ?_⟩
  rcases hs2 k hk with h | h
  · exact hs k h
  · exact .inr (Nat.le_trans ht.size h)

/-- one file more is there, where it belongs -/
theorem there_new (hr : RiseN (namesF T.L)) (hh : T.has f.nm = false) (hL : T'.L = T.L.take (T.pos f.nm) ++ f :: T.L.drop (T.pos f.nm)) : RiseN (namesF T'.L) ∧ T'.has f.nm = true ∧ T'.pos f.nm = T.pos f.nm ∧ T'.fileAt f.nm = some f := by
  have hn : namesF T'.L = (namesF T.L).take (T.pos f.nm) ++ f.nm :: (namesF T.L).drop (T.pos f.nm) := by
    rw [hL, namesF, namesF, List.map_append, List.map_cons, List.map_take, List.map_drop]
  have hle : T.pos f.nm ≤ (namesF T.L).length := posN_le _ _
  have hr' : RiseN (namesF T'.L) := by rw [hn]; exact rise_ins hr hh
  have hat : (namesF T'.L)[T.pos f.nm]? = some f.nm := by
    rw [hn, List.getElem?_append_right (by rw [List.length_take]; omega), List.length_take, Nat.min_eq_left hle, Nat.sub_self]
    rfl
  obtain ⟨h1, h2⟩ := hasN_of hr' hat
  refine ⟨hr', h1, h2, ?_⟩
  rw [PD.fileAt, if_pos (show T'.has f.nm = true from h1)]
  show T'.L[T'.pos f.nm]? = _
  rw [show T'.pos f.nm = T.pos f.nm from h2, hL]
  have hle2 : T.pos f.nm ≤ T.L.length := by simpa [namesF] using hle
  rw [List.getElem?_append_right (by rw [List.length_take]; omega), List.length_take, Nat.min_eq_left hle2, Nat.sub_self]
  rfl

/-- slices.Insert of a file where it belongs, and its row in the disk's field -/
theorem ins_file {AL : Option Addr} {nL cL : Nat} (h : DiskIn w4 g F T (.slice AL nL cL) l ms) (hfew : ms.length < 16) (hf : FileIn w4 m) (hb : ∀ k ∈ m.blks, F k ∧ k ≠ g ∧ (Value.slice AL nL cL).ownBlock ≠ some k) (hnd : (m.blks ++ ms.flatMap MF.blks).Nodup) (hh : T.has m.nm = false)
    (hgx : w4.heap[gx]? = some (.cells m.cells.toArray 82 (0, 0))) (hgF : ¬ F gx) :
    Calls Try.prog 84 #[.slice AL nL cL, .int .i64 (T.pos m.nm), .slice (some ⟨gx, 0, none⟩) 1 1] w4 fun e w5 => ∃ A5 c5, e = .returned (.slice A5 (nL + 1) c5) ∧ w5.cell? ⟨g, 0, none⟩ = some (.slice AL nL cL) ∧ w5.frozen? ⟨g, 0, none⟩ = false ∧
      ∀ T' : PD, T'.L = T.L.take (T.pos m.nm) ++ m.pf :: T.L.drop (T.pos m.nm) → T'.calls = T.calls → T'.left = T.left → T'.off = T.off → DiskTo g F T' w4 (w5.setCell ⟨g, 0, none⟩ (.slice A5 (nL + 1) c5)) := by
  have hgl : g < w4.heap.size := h.lt _ h.here
  have hn : ms.length = nL := by
    rcases h.row.2 with ⟨hv, h0⟩ | ⟨_, _, _, hv, _⟩
    · cases hv; exact h0
    · cases hv; rfl
  have hpl : T.pos m.nm ≤ ms.length := by rw [PD.pos, h.nmL]; have := posN_le (ms.map MF.nm) m.nm; simpa using this
  have hrow := h.row
  rw [hn] at hrow
  have hone : ∀ v ∈ m.cells, v.oneCell' = true := by
    have := cells_one (w := w4) (ms := [m]) (fun x hx => by rw [List.mem_singleton] at hx; rw [hx]; exact hf)
    simpa [cellsD] using this
  refine (insert_any 0 gx nL (T.pos m.nm) (.slice AL nL cL) (cellsD ms) m.cells w4 hrow (Nat.zero_le _) (by omega) (by omega) (cells_one h.els) rfl hgx hone (fun e => hgF (h.rowF e))).mono ?_
  rintro e w5 ⟨v5, rfl, hown5, hg5, hloc⟩
  obtain ⟨A5, c5, rfl, _⟩ := ownS_slice hown5
  have hbg : w5.heap[g]? = w4.heap[g]? := hg5.block g hgl (fun e => h.rowNe e.symm)
  refine ⟨A5, c5, rfl, (World.cell?_of_block (a := ⟨g, 0, none⟩) hbg).trans h.c0, (World.frozen?_of_block (a := ⟨g, 0, none⟩) hbg).trans (h.fz 0), ?_⟩
  intro T' hL hc hl ho
  have hT := there_new (f := m.pf) (T := T) (T' := T') h.rise hh hL
  rw [cellsD_put] at hown5
  have hlen : (ms.take (T.pos m.nm) ++ m :: ms.drop (T.pos m.nm)).length = nL + 1 := by rw [ins_len, hn]
  refine h.rowTo (T' := T') (ms2 := ms.take (T.pos m.nm) ++ m :: ms.drop (T.pos m.nm)) hg5 ?_ hloc ?_ ?_ ?_ ?_ hT.1 (by omega) hc hl ho
  · rw [hlen]; exact hown5
  · intro x hx
    simp only [List.mem_append, List.mem_cons] at hx
    rcases hx with hx | rfl | hx
    · exact h.els x (List.mem_of_mem_take hx)
    · exact hf
    · exact h.els x (List.mem_of_mem_drop hx)
  · intro x hx k hk
    simp only [List.mem_append, List.mem_cons] at hx
    have old : x ∈ ms → F k ∧ k ≠ g ∧ (Value.slice AL nL cL).ownBlock ≠ some k := fun hx => ⟨h.elF hx hk, h.apart hx hk⟩
    rcases hx with hx | rfl | hx
    · exact old (List.mem_of_mem_take hx)
    · exact hb k hk
    · exact old (List.mem_of_mem_drop hx)
  · exact (flat_ins ms _ m).nodup_iff.2 hnd
  · rw [hL, List.map_append, List.map_cons, List.map_take, List.map_drop, ← h.eqL]
end

end Go.Proofs.Ytaccmjgnggepjaa
