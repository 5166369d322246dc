/-
  What stays of a file that is synced and left alone, on plain data.
-/
import Derived.Test.YtecgagfpckaieaaDEq
import Derived.Test.YtecgagfpckaieaaDNames
import Derived.Test.YtecgagfpckaieaaDCopy
namespace Go.Proofs.Ytecgagfpckaieaa
open Go.RowKit

def kN : ByteArray := ⟨#[107, 101, 112, 116]⟩
def keepL : List Int := [107, 101, 112, 116, 32, 102, 111, 114, 32, 101, 118, 101, 114, 44, 32, 119, 104, 97, 116, 101, 118, 101, 114, 32, 101, 108, 115, 101, 32, 116, 104, 101, 114, 101, 32, 105, 115, 44, 32, 97, 110, 100, 32, 109, 111, 114, 101, 32, 116, 104, 97, 110, 32, 111, 110, 101, 32, 115, 101, 99, 116, 111, 114, 32, 108, 111, 110, 103, 44, 32, 97, 115, 32, 105, 116, 32, 119, 97, 115, 32, 115, 121, 110, 99, 101, 100]
theorem keep_len : keepL.length = 86 := by decide
theorem keep_byts : Byts keepL := by
  have h : keepL.all (fun x => decide (0 ≤ x) && decide (x ≤ 255)) = true := by decide +kernel
  intro x hx
  have := List.all_eq_true.1 h x hx
  simp only [Bool.and_eq_true, decide_eq_true_eq] at this
  exact this
theorem kN_list : kN.toList = [107, 101, 112, 116] := by rw [Lib.toList_data]; rfl
theorem ne_list {a : ByteArray} (h : a ≠ kN) : ¬ a.toList = [107, 101, 112, 116] := fun e => h (ba_inj (e.trans kN_list.symm))
theorem kN_ok : okName kN = true := by decide +kernel
def kPF : PF := ⟨kN, keepL, keepL⟩

theorem mem_set9 {α : Type} {l : List α} {i : Nat} {x y z : α} (hx : x ∈ l) (hy : l[i]? = some y) (hne : x ≠ y) : x ∈ l.set i z := by
  obtain ⟨j, hj⟩ := List.mem_iff_getElem?.1 hx
  have hij : i ≠ j := fun e => by subst e; rw [hj] at hy; cases hy; exact hne rfl
  exact List.mem_iff_getElem?.2 ⟨j, by rw [List.getElem?_set_ne hij]; exact hj⟩
theorem mem_cut9 {α : Type} {l : List α} {i : Nat} {x y : α} (hx : x ∈ l) (hy : l[i]? = some y) (hne : x ≠ y) : x ∈ l.take i ++ l.drop (i + 1) := by
  have hi := (List.getElem?_eq_some_iff.1 hy).1
  have e : l = l.take i ++ y :: l.drop (i + 1) := by
    conv => lhs; rw [← List.take_append_drop i l]
    rw [List.drop_eq_getElem_cons hi, (List.getElem?_eq_some_iff.1 hy).2]
  rw [e] at hx
  rcases List.mem_append.1 hx with h | h
  · exact List.mem_append.2 (.inl h)
  · rcases List.mem_cons.1 h with h | h
    · exact absurd h hne
    · exact List.mem_append.2 (.inr h)
theorem mem_put9 {α : Type} {l : List α} {i : Nat} {x y : α} (hx : x ∈ l) : x ∈ l.take i ++ y :: l.drop i := by
  rw [← List.take_append_drop i l] at hx
  rcases List.mem_append.1 hx with h | h
  · exact List.mem_append.2 (.inl h)
  · exact List.mem_append.2 (.inr (List.mem_cons_of_mem _ h))
theorem fileAt_some {D : PD} {s : ByteArray} {f : PF} (h : D.fileAt s = some f) : D.L[D.pos s]? = some f ∧ f.nm = s := by
  unfold PD.fileAt at h
  split at h
  · rename_i hh
    have h1 := hasN_at hh
    refine ⟨h, ?_⟩
    have h2 : (namesF D.L)[posN (namesF D.L) s]? = some f.nm := by
      rw [namesF, List.getElem?_map]
      have h3 : D.L[posN (D.L.map PF.nm) s]? = some f := h
      rw [h3]
      rfl
    rw [h2] at h1
    exact Option.some.inj h1
  · cases h

/-- the power is on for good, and the file is there, whole -/
structure SafeD (D : PD) (n : Nat) : Prop where
  mem : kPF ∈ D.L
  on : D.off = false
  left : D.left = 0
  calls : D.calls ≤ n
theorem SafeD.tick {D : PD} {n : Nat} (h : SafeD D n) : SafeD D.tick (n + 1) := by
  have e : D.tick = { D with calls := D.calls + 1 } := by
    unfold PD.tick
    rw [if_neg (by rw [h.on]; decide), if_pos h.left]
  rw [e]
  exact ⟨h.mem, h.on, h.left, by have := h.calls; show D.calls + 1 ≤ _; omega⟩
theorem SafeD.more {D : PD} {n : Nat} (h : SafeD D n) : SafeD D (n + 1) := ⟨h.mem, h.on, h.left, by have := h.calls; omega⟩
theorem SafeD.with {D : PD} {n : Nat} (h : SafeD D n) {L : List PF} (hL : kPF ∈ L) : SafeD (D.with L) (n + 1) := by
  have ht := h.tick
  exact ⟨hL, ht.on, ht.left, ht.calls⟩
theorem SafeD.open_ {D : PD} {n : Nat} {s : ByteArray} {k : PF → PD × Int} (h : SafeD D n) (hk : ∀ f, D.L[D.pos s]? = some f → f.nm = s → SafeD (k f).1 (n + 1)) : SafeD (dOpen D s k).1 (n + 1) := by
  unfold dOpen
  split
  · exact h.more
  · split
    · exact h.tick
    · split
      · exact h.tick
      · rename_i f hf
        exact hk f (fileAt_some hf).1 (fileAt_some hf).2
theorem kPF_ne {f : PF} {s : ByteArray} (h : f.nm = s) (hs : s ≠ kN) : kPF ≠ f := fun e => hs (by rw [← h, ← e]; rfl)
theorem SafeD.append {D : PD} {n : Nat} (h : SafeD D n) {s : ByteArray} (hs : s ≠ kN) (b : List Int) : SafeD (dAppend D s b).1 (n + 1) := by
  unfold dAppend
  split
  · exact h.more
  · split
    · exact h.tick
    · split
      · exact h.tick
      · split
        · rename_i f hf
          obtain ⟨h1, h2⟩ := fileAt_some hf
          exact h.with (mem_set9 h.mem h1 (kPF_ne h2 hs))
        · split
          · exact h.tick
          · exact h.with (mem_put9 h.mem)
theorem SafeD.cut {D : PD} {n : Nat} (h : SafeD D n) {s : ByteArray} (hs : s ≠ kN) (m : Int) : SafeD (dCut D s m).1 (n + 1) := by
  unfold dCut
  split
  · exact h.more
  · refine h.open_ fun f h1 h2 => ?_
    split
    · exact h.tick
    · exact h.with (mem_set9 h.mem h1 (kPF_ne h2 hs))
theorem SafeD.sync {D : PD} {n : Nat} (h : SafeD D n) {s : ByteArray} (hs : s ≠ kN) : SafeD (dSync D s).1 (n + 1) := by
  unfold dSync
  exact h.open_ fun f h1 h2 => h.with (mem_set9 h.mem h1 (kPF_ne h2 hs))
theorem SafeD.remove {D : PD} {n : Nat} (h : SafeD D n) {s : ByteArray} (hs : s ≠ kN) : SafeD (dRemove D s).1 (n + 1) := by
  unfold dRemove
  exact h.open_ fun f h1 h2 => h.with (mem_cut9 h.mem h1 (kPF_ne h2 hs))
theorem putL_mem {L : List PF} {f : PF} (h : kPF ∈ L) (hf : f.nm ≠ kN) : kPF ∈ putL L f := by
  unfold putL
  split
  · rename_i hh
    have h1 := hasN_at hh
    rw [namesF, List.getElem?_map, Option.map_eq_some_iff] at h1
    obtain ⟨y, h2, h3⟩ := h1
    exact mem_set9 h h2 (kPF_ne h3 hf)
  · exact mem_put9 h
theorem SafeD.rename {D : PD} {n : Nat} (h : SafeD D n) {a b : ByteArray} (ha : a ≠ kN) (hb : b ≠ kN) : SafeD (dRename D a b).1 (n + 1) := by
  unfold dRename
  split
  · exact h.more
  · exact h.open_ fun f h1 h2 => h.with (putL_mem (mem_cut9 h.mem h1 (kPF_ne h2 ha)) hb)

/-- what is true of a disk that lies in memory -/
structure GoodD (D : PD) : Prop where
  rise : RiseN (namesF D.L)
  few : D.L.length ≤ 16
  els : ∀ f ∈ D.L, okName f.nm = true ∧ f.vis.length ≤ 1048576 ∧ f.dur.length ≤ 1048576
theorem DiskIn.good {w : World} {g : Nat} {F : Nat → Prop} {D : PD} {vL : Value} {l : Int} {ms : List MF} (h : DiskIn w g F D vL l ms) : GoodD D :=
  ⟨h.rise, by rw [h.lenL]; exact h.few, fun f hf => by
    rw [h.eqL] at hf
    obtain ⟨m, hm, rfl⟩ := List.mem_map.1 hf
    have := h.els m hm
    exact ⟨this.ok, this.z1, this.z2⟩⟩
theorem HDG.good {G : Nat → Prop} {w : World} {g : Nat} {D : PD} (h : HDG G w g D) : GoodD D := by
  obtain ⟨_, F, ⟨vL, l, ms, h⟩, _⟩ := h
  exact h.good
theorem outl_len (v d : List Int) (p : Int) : (outl v d p).length = v.length ∨ (outl v d p).length = d.length := by
  unfold outl
  split
  · exact .inr rfl
  · split
    · exact .inl rfl
    · left; simp [tornB]
theorem crashL_len : ∀ (L : List PF) (ps : List Int), (crashL L ps).length = L.length
  | [], _ => rfl
  | f :: L, ps => by
    simp only [crashL]
    split <;> simp [crashL_len L]
theorem crashL_names : ∀ (L : List PF) (ps : List Int), (crashL L ps).map Prod.fst = namesF L
  | [], _ => rfl
  | f :: L, ps => by
    simp only [crashL]
    split <;> simp [namesF, crashL_names L]
theorem crashL_els : ∀ (L : List PF) (ps : List Int), (∀ f ∈ L, okName f.nm = true ∧ f.vis.length ≤ 1048576 ∧ f.dur.length ≤ 1048576) → ∀ x ∈ crashL L ps, okName x.1 = true ∧ x.2.length ≤ 1048576
  | [], _, _, x, hx => by simp [crashL] at hx
  | f :: L, ps, h, x, hx => by
    have h0 := h f (by simp)
    have ih := fun ps => crashL_els L ps fun f hf => h f (by simp [hf])
    simp only [crashL] at hx
    split at hx
    · rcases List.mem_cons.1 hx with rfl | hx
      · exact ⟨h0.1, h0.2.2⟩
      · exact ih _ x hx
    · rcases List.mem_cons.1 hx with rfl | hx
      · refine ⟨h0.1, ?_⟩
        rcases outl_len f.vis f.dur (ps.headD 0) with e | e
        · show (outl _ _ _).length ≤ _; omega
        · show (outl _ _ _).length ≤ _; omega
      · exact ih _ x hx
theorem crashL_kept : ∀ (L : List PF) (ps : List Int), kPF ∈ L → (kN, keepL) ∈ crashL L ps
  | [], _, h => by simp at h
  | f :: L, ps, h => by
    rcases List.mem_cons.1 h with rfl | h
    · have e : crashL (kPF :: L) ps = (kN, keepL) :: crashL L ps := by
        simp only [crashL]
        rw [if_pos (by rfl)]
        rfl
      rw [e]
      exact List.mem_cons_self
    · have ih := fun ps => crashL_kept L ps h
      simp only [crashL]
      split
      · exact List.mem_cons_of_mem _ (ih _)
      · exact List.mem_cons_of_mem _ (ih _)
theorem crash_may {D : PD} (h : GoodD D) (ps : List Int) : mayB (dCrash D ps) = true := by
  have hl := crashL_len D.L ps
  have hn := crashL_names D.L ps
  refine mayB_yes (by show (crashL D.L ps).length ≤ 16; rw [hl]; exact h.few) fun i hi => ?_
  have hi' : i < (crashL D.L ps).length := hi
  obtain ⟨x, hx⟩ : ∃ x, (crashL D.L ps)[i]? = some x := ⟨(crashL D.L ps)[i], by simp [hi']⟩
  have hel := crashL_els D.L ps h.els x (List.mem_of_getElem? hx)
  show okAt (crashL D.L ps) i = true
  rw [okAt, hx]
  simp only [hel.1, Bool.true_and, Bool.and_eq_true, decide_eq_true_eq, Bool.or_eq_true]
  refine ⟨hel.2, ?_⟩
  rcases Nat.eq_zero_or_pos i with h0 | h0
  · exact .inl h0
  · right
    obtain ⟨y, hy⟩ : ∃ y, (crashL D.L ps)[i - 1]? = some y := ⟨(crashL D.L ps)[i - 1]'(by omega), by simp [show i - 1 < (crashL D.L ps).length by omega]⟩
    rw [hy]
    refine rise_at h.rise (i := i - 1) (j := i) (by omega) ?_ ?_
    · rw [← hn, List.getElem?_map, hy]; rfl
    · rw [← hn, List.getElem?_map, hx]; rfl
theorem new_names (fs : List (ByteArray × List Int)) : namesF (dNew fs).L = fs.map Prod.fst := by
  show (fs.map mkPF).map PF.nm = _
  rw [List.map_map]
  rfl
theorem crash_read {D : PD} {n : Nat} (h : GoodD D) (hs : SafeD D n) (ps : List Int) : dRead (dNew (dCrash D ps)) kN = (keepL, 0) := by
  have hm := crashL_kept D.L ps hs.mem
  obtain ⟨j, hj⟩ := List.mem_iff_getElem?.1 hm
  have hn : namesF (dNew (dCrash D ps)).L = namesF D.L := by rw [new_names]; exact crashL_names D.L ps
  have hnj : (namesF (dNew (dCrash D ps)).L)[j]? = some kN := by
    rw [new_names, List.getElem?_map]
    show ((crashL D.L ps)[j]?).map Prod.fst = _
    rw [hj]
    rfl
  obtain ⟨h1, h2⟩ := hasN_of (by rw [hn]; exact h.rise) hnj
  rw [dRead, if_neg (by rw [kN_ok]; decide), if_neg (by show ¬ (false = true); decide), if_pos (by show hasN _ _ = true; exact h1)]
  have h3 : (dNew (dCrash D ps)).visAt kN = keepL := by
    rw [PD.visAt, PD.pos, h2]
    show (((crashL D.L ps).map mkPF)[j]?.map PF.vis).getD [] = _
    rw [List.getElem?_map, hj]
    rfl
  rw [h3]
theorem crash_list (D : PD) (ps : List Int) : (dList (dNew (dCrash D ps))).2 = 0 ∧ (dList (dNew (dCrash D ps))).1.length = (dCrash D ps).length := by
  refine ⟨rfl, ?_⟩
  show (namesF (dNew (dCrash D ps)).L).length = _
  rw [new_names, List.length_map]

/-- with the power off -/
theorem off_read {D : PD} (h : D.off = true) : dRead D kN = ([], 9) := by rw [dRead, if_neg (by rw [kN_ok]; decide), if_pos h]
theorem off_list {D : PD} (h : D.off = true) : dList D = ([], 9) := by rw [dList, if_pos h]
theorem off_tick {D : PD} (h : D.off = true) : D.tick.off = true ∧ D.tick.calls = D.calls + 1 := by
  have e : D.tick = { D with calls := D.calls + 1 } := by unfold PD.tick; rw [if_pos h]
  rw [e]
  exact ⟨h, rfl⟩
theorem off_open {D : PD} (h : D.off = true) {k : PF → PD × Int} : dOpen D kN k = (D.tick, 9) := dOpen_off kN_ok (off_tick h).1
theorem off_sync {D : PD} (h : D.off = true) : dSync D kN = (D.tick, 9) := off_open h
theorem off_append {D : PD} (h : D.off = true) (b : List Int) : dAppend D kN b = (D.tick, 9) := by rw [dAppend, if_neg (by rw [kN_ok]; decide), if_pos (off_tick h).1]
theorem off_cut {D : PD} (h : D.off = true) : dCut D kN 0 = (D.tick, 9) := by rw [dCut, if_neg (by decide)]; exact off_open h
theorem off_remove {D : PD} (h : D.off = true) : dRemove D kN = (D.tick, 9) := off_open h
theorem off_rename {D : PD} (h : D.off = true) : dRename D kN bA = (D.tick, 9) := by rw [dRename, if_neg (by decide +kernel)]; exact off_open h

end Go.Proofs.Ytecgagfpckaieaa
