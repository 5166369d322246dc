/-
  Rows whose elements are of several cells: append within what there is room for, copy, clear: as equations. Of no program.
-/
import Derived.Laws.Rows
import Derived.Laws.CopyRow
import Derived.Lib.AppendZerosOnto
import Derived.Lib.Overlaps
import Derived.Test.YteepobghdpnabaaGreatRows
import Derived.WalkSpells
import Derived.WalkLawsBesides
import Derived.Deep.QuietTactic
import Derived.BigQuiet
import Derived.LoopTactic
import Derived.Outline
import Derived.Deep.RegionLaw
import Derived.StillTailTactics
import Derived.Laws.Externs
import Derived.Test.YteepobghdpnabaaGreatKWorkerTicksa
import Derived.Test.YteepobghdpnabaaGreatKWorkerTicksb
namespace Go.Proofs.YteepobghdpnabaaGreat
open Go.RowKit

section
variable {P : Program} (w : World)

/-- laid over a row from a place on -/
def over (cur : Array Value) (o : Nat) (cs : List Value) : Array Value := (cur.toList.take o ++ cs ++ cur.toList.drop (o + cs.length)).toArray
theorem over_nil (cur : Array Value) (o : Nat) : over cur o [] = cur := by simp [over]
theorem over_size {cur : Array Value} {o : Nat} {cs : List Value} (h : o + cs.length ≤ cur.size) : (over cur o cs).size = cur.size := by
  simp [over]; omega
theorem over_list {cur : Array Value} {o : Nat} {cs : List Value} : (over cur o cs).toList = cur.toList.take o ++ cs ++ cur.toList.drop (o + cs.length) := by simp [over]

theorem row_over {g : Nat} {cur : Array Value} {t : TypeId} (hg : w.heap[g]? = some (.cells cur t (0, 0))) (o : Nat) (cs : List Value) : (w.setRow g (over cur o cs)).heap[g]? = some (.cells (over cur o cs) t (0, 0)) :=
  setRow_heap w g cur _ t _ hg

theorem run_append_in {t ty e : TypeId} {i : TypeInfo} (ht : P.underlying t = some (.slice e)) (hi : P.info? e = some i)
    {g n cap : Nat} {cur : Array Value} {T : TypeId} (hg : w.heap[g]? = some (.cells cur T (0, 0))) {A : Option Addr} {k kc : Nat} {cs : List Value} (hl : cs.length = k * i.size)
    (hA : 0 < k → ∃ a, A = some a ∧ ∀ j v, cs[j]? = some v → w.cell? (a.add j) = some v) (hroom : n + k ≤ cap) (hfit : (n + k) * i.size ≤ cur.size) (h1 : ∀ v ∈ cs, v.oneCell' = true) :
    (Builtin.append_ #[t, t] ty #[.slice (some ⟨g, 0, none⟩) n cap, .slice A k kc]).run P w = .ok (.slice (some ⟨g, 0, none⟩) (n + k) cap) (w.setRow g (over cur (n * i.size) cs)) := by
  have hfirst : (Builtin.firstCells i.size k (.slice A k kc)).run P w = .ok cs.toArray w := by
    rcases Nat.eq_zero_or_pos k with h0 | h0
    · subst h0
      have : cs = [] := List.eq_nil_of_length_eq_zero (by simpa using hl)
      subst this
      cases A with
      | none => simp [Builtin.firstCells]
      | some a =>
        have := run_loadCells_list (P := P) w a [] (by simp)
        simpa [Builtin.firstCells] using this
    · obtain ⟨a, rfl, hc⟩ := hA h0
      have := run_loadCells_list (P := P) w a cs hc
      simp only [Builtin.firstCells, ← hl]
      exact this
  have hst := run_storeCells_at P g (n * i.size) T cs 0 cur w hg (by rw [hl, Nat.add_zero, ← Nat.add_mul]; exact hfit) h1
  have hadd : (⟨g, 0, none⟩ : Addr).add (n * i.size) = ⟨g, n * i.size, none⟩ := by rw [Addr.add_lit, Nat.zero_add]
  simp [Builtin.append_, run_underlying ht, sizeOf, typeInfo, hi, Builtin.lenOf, hroom, hfirst, hadd, hst, over]

theorem run_copy_in {t ty e : TypeId} {i : TypeInfo} (ht : P.underlying t = some (.slice e)) (hi : P.info? e = some i)
    {g o : Nat} {cur : Array Value} {T : TypeId} (hg : w.heap[g]? = some (.cells cur T (0, 0))) {D A : Option Addr} {dn dc k kc m : Nat} {cs : List Value} (hm : Nat.min k dn = m) (hl : cs.length = m * i.size)
    (hA : 0 < m → D = some ⟨g, o, none⟩ ∧ ∃ a, A = some a ∧ ∀ j v, cs[j]? = some v → w.cell? (a.add j) = some v) (hfit : o + m * i.size ≤ cur.size) (h1 : ∀ v ∈ cs, v.oneCell' = true) :
    (Builtin.copy_ #[t, t] ty #[.slice D dn dc, .slice A k kc]).run P w = .ok (goInt m) (w.setRow g (over cur o cs)) := by
  rcases Nat.eq_zero_or_pos m with h0 | h0
  · subst h0
    have : cs = [] := List.eq_nil_of_length_eq_zero (by simpa using hl)
    subst this
    have hfirst : (Builtin.firstCells i.size 0 (.slice A k kc)).run P w = .ok #[] w := by
      cases A with
      | none => simp [Builtin.firstCells]
      | some a =>
        have := run_loadCells_list (P := P) w a [] (by simp)
        simpa [Builtin.firstCells] using this
    rw [over_nil, setRow_self w g cur T (0, 0) hg]
    cases D with
    | none => simp [Builtin.copy_, run_underlying ht, sizeOf, typeInfo, hi, Builtin.lenOf, hm, hfirst]
    | some d => simp [Builtin.copy_, run_underlying ht, sizeOf, typeInfo, hi, Builtin.lenOf, hm, hfirst, storeCells]
  · obtain ⟨rfl, a, rfl, hc⟩ := hA h0
    have hfirst : (Builtin.firstCells i.size m (.slice (some a) k kc)).run P w = .ok cs.toArray w := by
      have := run_loadCells_list (P := P) w a cs hc
      simp only [Builtin.firstCells, ← hl]
      exact this
    have hst := run_storeCells_at P g o T cs 0 cur w hg (by rw [hl, Nat.add_zero]; exact hfit) h1
    simp [Builtin.copy_, run_underlying ht, sizeOf, typeInfo, hi, Builtin.lenOf, hm, hfirst, hst, over]

theorem run_clear_in {t ty e : TypeId} {i : TypeInfo} {z : Value} (ht : P.underlying t = some (.slice e)) (hi : P.info? e = some i) (hz : i.zero = some z)
    {g o : Nat} {cur : Array Value} {T : TypeId} (hg : w.heap[g]? = some (.cells cur T (0, 0))) {n c : Nat} (hfit : o + n * z.cells.size ≤ cur.size) (h1 : ∀ v ∈ z.cells.toList, v.oneCell' = true) (hzs : 0 < z.cells.size) (hn : 0 < n) :
    (Builtin.clear_ #[t] ty #[.slice (some ⟨g, o, none⟩) n c]).run P w = .ok (.tuple #[]) (w.setRow g (over cur o (Builtin.zeroCells z.cells n).toList)) := by
  have hl : (Builtin.zeroCells z.cells n).toList.length = n * z.cells.size := by rw [Array.length_toList, size_zeroCells]
  have hone : ∀ v ∈ (Builtin.zeroCells z.cells n).toList, v.oneCell' = true := fun v hv => by
    simp only [Builtin.zeroCells, Array.toList_map, List.mem_map] at hv
    obtain ⟨x, _, rfl⟩ := hv
    have hx : x % z.cells.size < z.cells.size := Nat.mod_lt _ hzs
    rw [getElem!_pos z.cells _ hx]
    exact h1 _ (by simp)
  have hst := run_storeCells_at P g o T (Builtin.zeroCells z.cells n).toList 0 cur w hg (by rw [hl, Nat.add_zero]; exact hfit) hone
  cases n with
  | zero => omega
  | succ n => simp [Builtin.clear_, run_underlying ht, zeroValue, typeInfo, hi, hz, hst, over]

/-- such an operation, met by the walk -/
theorem wp_call_run {o : Oper} {a : Act} {K : Act → World → Prop} {Q : Exit → Act → World → Prop} (s x : Operand) (t t' : TypeId) (ho : o.op = .call { callee := .builtin .append, args := #[s, x], argTypes := #[t, t'] })
    {v u v' : Value} {w' : World} (hs : a.eval s = v) (hx : a.eval x = u) (hr : (Builtin.append_ #[t, t'] o.type #[v, u]).run P w = .ok v' w') (h : K (a.put o.dst v') w') : o.wp P a w K Q := by
  unfold Oper.wp execOp
  simp only [ho, resolve, invoke, builtin, Sem.run_bind, Sem.run_pure, Result.andThen_ok, List.map_toArray, List.map_cons, List.map_nil, hs, hx, hr]
  exact h
theorem wpList_app_run {ops : Array Oper} {rest : List Oper} {o : Oper} {a : Act} {Q : Exit → Act → World → Prop} (hgd : o.guard = none) (s x : Operand) (t t' : TypeId) (ho : o.op = .call { callee := .builtin .append, args := #[s, x], argTypes := #[t, t'] })
    {v u v' : Value} {w' : World} (hs : a.eval s = v) (hx : a.eval x = u) (hr : (Builtin.append_ #[t, t'] o.type #[v, u]).run P w = .ok v' w') (h : wpList P ops Q rest (a.put o.dst v') w') : wpList P ops Q (o :: rest) a w :=
  wpList_plain hgd fun _ hK => wp_call_run w s x t t' ho hs hx hr (hK _ _ h)
theorem wp_copy_run {o : Oper} {a : Act} {K : Act → World → Prop} {Q : Exit → Act → World → Prop} (s x : Operand) (t t' : TypeId) (ho : o.op = .call { callee := .builtin .copy, args := #[s, x], argTypes := #[t, t'] })
    {v u v' : Value} {w' : World} (hs : a.eval s = v) (hx : a.eval x = u) (hr : (Builtin.copy_ #[t, t'] o.type #[v, u]).run P w = .ok v' w') (h : K (a.put o.dst v') w') : o.wp P a w K Q := by
  unfold Oper.wp execOp
  simp only [ho, resolve, invoke, builtin, Sem.run_bind, Sem.run_pure, Result.andThen_ok, List.map_toArray, List.map_cons, List.map_nil, hs, hx, hr]
  exact h
theorem wpList_copy_run {ops : Array Oper} {rest : List Oper} {o : Oper} {a : Act} {Q : Exit → Act → World → Prop} (hgd : o.guard = none) (s x : Operand) (t t' : TypeId) (ho : o.op = .call { callee := .builtin .copy, args := #[s, x], argTypes := #[t, t'] })
    {v u v' : Value} {w' : World} (hs : a.eval s = v) (hx : a.eval x = u) (hr : (Builtin.copy_ #[t, t'] o.type #[v, u]).run P w = .ok v' w') (h : wpList P ops Q rest (a.put o.dst v') w') : wpList P ops Q (o :: rest) a w :=
  wpList_plain hgd fun _ hK => wp_copy_run w s x t t' ho hs hx hr (hK _ _ h)
theorem wpList_clear_run {ops : Array Oper} {rest : List Oper} {o : Oper} {a : Act} {Q : Exit → Act → World → Prop} (hgd : o.guard = none) (s : Operand) (t : TypeId) (ho : o.op = .call { callee := .builtin .clear, args := #[s], argTypes := #[t] })
    {v v' : Value} {w' : World} (hs : a.eval s = v) (hr : (Builtin.clear_ #[t] o.type #[v]).run P w = .ok v' w') (h : wpList P ops Q rest (a.put o.dst v') w') : wpList P ops Q (o :: rest) a w :=
  wpList_plain hgd fun _ hK => by
    unfold Oper.wp execOp
    simp only [ho, resolve, invoke, builtin, Sem.run_bind, Sem.run_pure, Result.andThen_ok, List.map_toArray, List.map_cons, List.map_nil, hs, hr]
    exact hK _ _ h

theorem setRow_grown (g : Nat) (cs : Array Value) : w.grownBy (w.setRow g cs) (some g) :=
  ⟨rfl, rfl, rfl, by simp, fun k _ hk => setRow_other w g k cs (fun e => hk (by rw [e]))⟩
theorem grown_trans {w w' w'' : World} {r : Option Nat} (h : w.grownBy w' r) (k : w'.grownBy w'' r) : w.grownBy w'' r :=
  ⟨k.os.trans h.os, k.tape.trans h.tape, k.output.trans h.output, Nat.le_trans h.size k.size, fun i hi hn => (k.block i (Nat.lt_of_lt_of_le hi h.size) hn).trans (h.block i hi hn)⟩
end

end Go.Proofs.YteepobghdpnabaaGreat
namespace Go.Proofs.YteepobghdpnabaaGreat
open Go.RowKit

/-- a row whose block is known whole -/
theorem row_open {w : World} {B g n cap s : Nat} {e : TypeId} {xs : List Value} (h : w.ownsRow B e s (.slice (some ⟨g, 0, none⟩) n cap) n xs) :
    ∃ cur : Array Value, w.heap[g]? = some (.cells cur e (0, 0)) ∧ B ≤ g ∧ n ≤ cap ∧ cap ≤ maxLen ∧ cur.size = cap * s ∧ cur.toList.take (n * s) = xs := by
  rcases h.2 with ⟨hv, _⟩ | ⟨g', cap', cur, hv, hb, hg, h1, h2, h3, h4⟩
  · cases hv
  · cases hv
    exact ⟨cur, hg, hb, h1, h2, h3, h4⟩
theorem row_shut {w : World} {B g n cap s : Nat} {e : TypeId} {xs : List Value} {cur : Array Value} (hg : w.heap[g]? = some (.cells cur e (0, 0))) (hb : B ≤ g) (hn : n ≤ cap) (hm : cap ≤ maxLen) (hs : cur.size = cap * s) (hx : cur.toList.take (n * s) = xs) :
    w.ownsRow B e s (.slice (some ⟨g, 0, none⟩) n cap) n xs :=
  ⟨by rw [← hx, List.length_take, Array.length_toList, hs]; exact Nat.min_eq_left (Nat.mul_le_mul_right _ hn), .inr ⟨g, cap, cur, rfl, hb, hg, hn, hm, hs, hx⟩⟩

theorem cells_part {w : World} {g : Nat} {cur : Array Value} {t : TypeId} (hg : w.heap[g]? = some (.cells cur t (0, 0))) (o k : Nat) : ∀ j v, ((cur.toList.drop o).take k)[j]? = some v → w.cell? ((⟨g, o, none⟩ : Addr).add j) = some v := by
  intro j v hv
  rw [Addr.add_lit, cell_of_row w g (o + j) cur t (0, 0) hg]
  rw [List.getElem?_take] at hv
  split at hv
  · rw [List.getElem?_drop] at hv
    simpa using hv
  · cases hv

end Go.Proofs.YteepobghdpnabaaGreat
namespace Go.Proofs.YteepobghdpnabaaGreat
open Go.RowKit

theorem one_part {cur : Array Value} (h1 : ∀ v ∈ cur.toList, v.oneCell' = true) {o k : Nat} : ∀ v ∈ (cur.toList.drop o).take k, v.oneCell' = true :=
  fun v hv => h1 v (List.mem_of_mem_drop (List.mem_of_mem_take hv))
theorem one_part_in {cur : Array Value} {xs : List Value} {N : Nat} (hx : cur.toList.take N = xs) (h1 : ∀ v ∈ xs, v.oneCell' = true) {o k : Nat} (h : o + k ≤ N) : ∀ v ∈ (cur.toList.drop o).take k, v.oneCell' = true := by
  intro v hv
  refine h1 v ?_
  rw [← hx]
  rw [List.mem_iff_getElem?] at hv ⊢
  obtain ⟨j, hj⟩ := hv
  refine ⟨o + j, ?_⟩
  rw [List.getElem?_take] at hj
  split at hj
  · rw [List.getElem?_drop] at hj
    rw [List.getElem?_take, if_pos (by omega)]
    exact hj
  · cases hj

end Go.Proofs.YteepobghdpnabaaGreat
namespace Go.Proofs.YteepobghdpnabaaGreat
open Go.RowKit

def zwait : Value := .agg #[.int .i64 0, .slice none 0 0]
theorem info_zwait : (Tryz.prog.info? 56).map (fun i => (i.zero, i.size, i.bytes)) = some (some zwait, 2, 32) := by kernel_rfl
/-- what stands ahead of i, the new element, what stood from i on -/
def putInW (xs us : List Value) (i : Nat) : List Value := xs.take (i * 2) ++ us ++ xs.drop (i * 2)

set_option maxRecDepth 100000 in
set_option maxHeartbeats 8000000 in
theorem insert_roomW (B g cap n i gx : Nat) (xs us : List Value) (w : World) (h : w.ownsRow B 56 2 (.slice (some ⟨g, 0, none⟩) n cap) n xs) (hi : i < n) (hroom : n + 1 ≤ cap) (hn : n ≤ 1000000) (h1 : ∀ v ∈ xs, v.oneCell' = true)
    (hu : us.length = 2) (hgx : w.heap[gx]? = some (.cells us.toArray 56 (0, 0))) (hu1 : ∀ v ∈ us, v.oneCell' = true) (hne : gx ≠ g) :
    Calls Tryz.prog 94 #[.slice (some ⟨g, 0, none⟩) n cap, .int .i64 i, .slice (some ⟨gx, 0, none⟩) 1 1] w fun e w' =>
      e = .returned (.slice (some ⟨g, 0, none⟩) (n + 1) cap) ∧ w'.ownsRow B 56 2 (.slice (some ⟨g, 0, none⟩) (n + 1) cap) (n + 1) (putInW xs us i) ∧ w.grownBy w' (some g) := by
  obtain ⟨cur, hg, hb, hnc, hcm, hcs, hx⟩ := row_open h
  obtain ⟨i0, hi0, hz0, hz1, hz2⟩ := info_parts info_zwait
  have HCM := Lib.hid hcm
  unfold maxLen at hcm
  have hgd : w.drew.heap[g]? = some (.cells cur 56 (0, 0)) := hg
  -- slices.overlaps
  have hov : ∀ lb cb, (callFunc 129 #[.slice (some ⟨gx, 0, none⟩) 1 1, .slice (some ⟨g, (i + 1) * 2, none⟩) lb cb]).run Tryz.prog w = .ok (.value (.bool false)) w := fun lb cb => by
    rw [run_callFunc_extern Tryz.func129 (by kernel_rfl) (by kernel_rfl) (by kernel_rfl) (e := Extern.SlicesOverlaps.overlaps #[23, 23] #[4]) (by kernel_rfl),
      Lib.run_overlaps_apart w 23 4 56 Tryz.underlying23 2 Tryz.sizeOf56 ⟨gx, 0, none⟩ ⟨g, (i + 1) * 2, none⟩ 1 1 lb cb hne 56 56 2 cur.size (by unfold World.shape?; rw [hgx]; simp [hu]) (by unfold World.shape?; rw [hg]) (by omega) (frozen_of_row _ _ _ _ _ hgx) (frozen_of_row _ _ _ _ _ hgx)]
    rfl
  -- what stood from i on goes up
  obtain ⟨cs1, hcs1⟩ : ∃ cs1, cs1 = (cur.toList.drop (i * 2)).take ((n - i) * 2) := ⟨_, rfl⟩
  have hlen : cs1.length = (n - i) * 2 := by rw [hcs1]; simp; omega
  obtain ⟨cur1, hcur1⟩ : ∃ cur1, cur1 = over cur ((i + 1) * 2) cs1 := ⟨_, rfl⟩
  obtain ⟨w1, hw1⟩ : ∃ w1, w1 = w.drew.setRow g cur1 := ⟨_, rfl⟩
  have hsz1 : cur1.size = cur.size := by rw [hcur1]; exact over_size (by omega)
  have hg1 : w1.heap[g]? = some (.cells cur1 56 (0, 0)) := by rw [hw1, hcur1]; exact row_over _ hgd _ _
  have hgx1 : w1.heap[gx]? = some (.cells us.toArray 56 (0, 0)) := by rw [hw1, setRow_other _ _ _ _ hne]; exact hgx
  have hcp1 : ∀ ty dc sc, (Builtin.copy_ #[23, 23] ty #[.slice (some ⟨g, (i + 1) * 2, none⟩) (n - i) dc, .slice (some ⟨g, i * 2, none⟩) (n + 1 - i) sc]).run Tryz.prog w.drew = .ok (goInt (n - i : Nat)) w1 := by
    intro ty dc sc
    have := run_copy_in (P := Tryz.prog) w.drew (t := 23) (ty := ty) Tryz.underlying23 hi0 hgd (o := (i + 1) * 2) (D := some ⟨g, (i + 1) * 2, none⟩) (A := some ⟨g, i * 2, none⟩) (dn := n - i) (dc := dc) (k := n + 1 - i) (kc := sc) (m := n - i) (cs := cs1)
      (by simp only [Nat.min_def]; split <;> omega) (by rw [hz1]; exact hlen) (fun _ => ⟨rfl, _, rfl, by rw [hcs1]; exact cells_part hgd _ _⟩) (by rw [hz1]; omega) (by rw [hcs1]; exact one_part_in hx h1 (by omega))
    rw [← hcur1, ← hw1] at this
    exact this
  obtain ⟨cur2, hcur2⟩ : ∃ cur2, cur2 = over cur1 (i * 2) us := ⟨_, rfl⟩
  obtain ⟨w2, hw2⟩ : ∃ w2, w2 = w1.setRow g cur2 := ⟨_, rfl⟩
  have hcp2 : ∀ ty dc, (Builtin.copy_ #[23, 23] ty #[.slice (some ⟨g, i * 2, none⟩) (n + 1 - i) dc, .slice (some ⟨gx, 0, none⟩) 1 1]).run Tryz.prog w1 = .ok (goInt (1 : Nat)) w2 := by
    intro ty dc
    have := run_copy_in (P := Tryz.prog) w1 (t := 23) (ty := ty) Tryz.underlying23 hi0 hg1 (o := i * 2) (D := some ⟨g, i * 2, none⟩) (A := some ⟨gx, 0, none⟩) (dn := n + 1 - i) (dc := dc) (k := 1) (kc := 1) (m := 1) (cs := us)
      (by simp only [Nat.min_def]; split <;> omega) (by rw [hz1]; omega) (fun _ => ⟨rfl, _, rfl, fun j v hj => by rw [Addr.add_lit, cell_of_row _ _ _ _ _ _ hgx1]; simpa using hj⟩) (by rw [hz1]; omega) hu1
    rw [← hcur2, ← hw2] at this
    exact this
  have hres : w2.ownsRow B 56 2 (.slice (some ⟨g, 0, none⟩) (n + 1) cap) (n + 1) (putInW xs us i) ∧ w.grownBy w2 (some g) := by
    refine ⟨row_shut (cur := cur2) ?_ hb (by omega) HCM.out ?_ ?_, ?_⟩
    · rw [hw2, hcur2]; exact row_over _ hg1 _ _
    · rw [hcur2, over_size (by omega), hsz1, hcs]
    · have hcl : cur.toList.length = cap * 2 := by rw [Array.length_toList, hcs]
      rw [hcur2, over_list, hcur1, over_list, hcs1, hu, putInW, ← hx]
      apply List.ext_getElem?
      intro j
      simp only [List.getElem?_take, List.getElem?_append, List.length_append, List.length_take, List.length_drop, List.getElem?_drop, hcl, hu]
      rcases Nat.lt_or_ge j ((n + 1) * 2) with hj | hj
      · rw [if_pos hj]
        rcases Nat.lt_or_ge j (i * 2) with h2 | h2
        · repeat' split
          all_goals first | rfl | (exfalso; omega)
        · rcases Nat.lt_or_ge j (i * 2 + 2) with h3 | h3
          · repeat' split
            all_goals first | rfl | (exfalso; omega) | (congr 1; omega)
          · repeat' split
            all_goals first | rfl | (exfalso; omega) | (congr 1; omega)
      · rw [if_neg (by omega)]
        repeat' split
        all_goals first | rfl | (exfalso; omega) | (symm; apply List.getElem?_eq_none; omega)
    · rw [hw2, hw1]
      exact grown_trans (w' := w.drew.setRow g cur1) (grown_trans (w' := w.drew) ⟨rfl, rfl, rfl, Nat.le_refl _, fun _ _ _ => rfl⟩ (setRow_grown w.drew g cur1)) (setRow_grown _ g cur2)
  have HV := Lib.hid hov
  have H1 := Lib.hid hcp1
  have H2 := Lib.hid hcp2
  have HS := Lib.hid hres
  clear hov hcp1 hcp2 hres hsz1 hcs hlen hz0 hz1 hz2 hi0 h1 hcur1 hcs1 hx hw1 hw2 hcur2 h hg hgd hg1 hgx hgx1 hu hu1
  have e1 : (0 : Int) ≤ (i : Int) := by omega
  have e2 : (i : Int) ≤ (n : Int) := by omega
  have e3 : ¬ ((i : Int) = (n : Int)) := by omega
  have e4 : ¬ ((cap : Int) < (n : Int) + 1) := by omega
  have e6 : ((i : Int) + 1).toNat = i + 1 := by omega
  have e7 : (0 : Int) ≤ (i : Int) + 1 := by omega
  have e8 : (i : Int) + 1 ≤ (n : Int) + 1 := by omega
  have e9 : (i : Int) ≤ (n : Int) + 1 := by omega
  have f1 : ¬ (cap = i) := by omega
  have f2 : ¬ (cap = i + 1) := by omega
  have f3 : (n : Int) + 1 ≤ (cap : Int) := by omega
  have f4 : i ≤ n + 1 := by omega
  have f5 : ((n : Int) + 1).toNat = n + 1 := by omega
  have f6 : n + 1 ≤ cap := hroom
  have f7 : i + 1 ≤ n + 1 := by omega
  have f8 : i ≤ n := by omega
  have hov := HV.out
  go_enter Tryz.func94, Tryz.ntmps94
  go_wp2
  clear hov
  have g1 : IntKind.i64.wrap ((i : Int) + 1) = (i : Int) + 1 := IntWalk.i64_in _ (by omega)
  go_still_tail 8, (by kernel_rfl)
  change wpList _ _ _ _ _ w.drew
  go_wp2_with (first | refine wpList_copy_run (o := ⟨some 77, _, _, _, _, _⟩) _ rfl (.tmp 73) (.tmp 76) 23 23 rfl rfl rfl (H1.out _ _ _) ?_ | refine wpList_copy_run (o := ⟨some 82, _, _, _, _, _⟩) _ rfl (.tmp 80) (.tmp 81) 23 23 rfl rfl rfl (H2.out _ _) ?_)
  go_ret
  exact ⟨rfl, HS.out⟩

end Go.Proofs.YteepobghdpnabaaGreat
namespace Go.Proofs.YteepobghdpnabaaGreat
open Go.RowKit

def zheld : Value := .agg #[.int .i64 0, .int .i64 0, .int .i64 0, .slice none 0 0]
theorem info_zheld : (Tryz.prog.info? 70).map (fun i => (i.zero, i.size, i.bytes)) = some (some zheld, 4, 48) := by kernel_rfl
/-- what stands ahead of i, the new element, what stood from i on -/
def putInH (xs us : List Value) (i : Nat) : List Value := xs.take (i * 4) ++ us ++ xs.drop (i * 4)

set_option maxRecDepth 100000 in
set_option maxHeartbeats 8000000 in
theorem insert_roomH (B g cap n i gx : Nat) (xs us : List Value) (w : World) (h : w.ownsRow B 70 4 (.slice (some ⟨g, 0, none⟩) n cap) n xs) (hi : i < n) (hroom : n + 1 ≤ cap) (hn : n ≤ 1000000) (h1 : ∀ v ∈ xs, v.oneCell' = true)
    (hu : us.length = 4) (hgx : w.heap[gx]? = some (.cells us.toArray 70 (0, 0))) (hu1 : ∀ v ∈ us, v.oneCell' = true) (hne : gx ≠ g) :
    Calls Tryz.prog 126 #[.slice (some ⟨g, 0, none⟩) n cap, .int .i64 i, .slice (some ⟨gx, 0, none⟩) 1 1] w fun e w' =>
      e = .returned (.slice (some ⟨g, 0, none⟩) (n + 1) cap) ∧ w'.ownsRow B 70 4 (.slice (some ⟨g, 0, none⟩) (n + 1) cap) (n + 1) (putInH xs us i) ∧ w.grownBy w' (some g) := by
  obtain ⟨cur, hg, hb, hnc, hcm, hcs, hx⟩ := row_open h
  obtain ⟨i0, hi0, hz0, hz1, hz2⟩ := info_parts info_zheld
  have HCM := Lib.hid hcm
  unfold maxLen at hcm
  have hgd : w.drew.heap[g]? = some (.cells cur 70 (0, 0)) := hg
  -- slices.overlaps
  have hov : ∀ lb cb, (callFunc 142 #[.slice (some ⟨gx, 0, none⟩) 1 1, .slice (some ⟨g, (i + 1) * 4, none⟩) lb cb]).run Tryz.prog w = .ok (.value (.bool false)) w := fun lb cb => by
    rw [run_callFunc_extern Tryz.func142 (by kernel_rfl) (by kernel_rfl) (by kernel_rfl) (e := Extern.SlicesOverlaps.overlaps #[24, 24] #[4]) (by kernel_rfl),
      Lib.run_overlaps_apart w 24 4 70 Tryz.underlying24 4 Tryz.sizeOf70 ⟨gx, 0, none⟩ ⟨g, (i + 1) * 4, none⟩ 1 1 lb cb hne 70 70 4 cur.size (by unfold World.shape?; rw [hgx]; simp [hu]) (by unfold World.shape?; rw [hg]) (by omega) (frozen_of_row _ _ _ _ _ hgx) (frozen_of_row _ _ _ _ _ hgx)]
    rfl
  -- what stood from i on goes up
  obtain ⟨cs1, hcs1⟩ : ∃ cs1, cs1 = (cur.toList.drop (i * 4)).take ((n - i) * 4) := ⟨_, rfl⟩
  have hlen : cs1.length = (n - i) * 4 := by rw [hcs1]; simp; omega
  obtain ⟨cur1, hcur1⟩ : ∃ cur1, cur1 = over cur ((i + 1) * 4) cs1 := ⟨_, rfl⟩
  obtain ⟨w1, hw1⟩ : ∃ w1, w1 = w.drew.setRow g cur1 := ⟨_, rfl⟩
  have hsz1 : cur1.size = cur.size := by rw [hcur1]; exact over_size (by omega)
  have hg1 : w1.heap[g]? = some (.cells cur1 70 (0, 0)) := by rw [hw1, hcur1]; exact row_over _ hgd _ _
  have hgx1 : w1.heap[gx]? = some (.cells us.toArray 70 (0, 0)) := by rw [hw1, setRow_other _ _ _ _ hne]; exact hgx
  have hcp1 : ∀ ty dc sc, (Builtin.copy_ #[24, 24] ty #[.slice (some ⟨g, (i + 1) * 4, none⟩) (n - i) dc, .slice (some ⟨g, i * 4, none⟩) (n + 1 - i) sc]).run Tryz.prog w.drew = .ok (goInt (n - i : Nat)) w1 := by
    intro ty dc sc
    have := run_copy_in (P := Tryz.prog) w.drew (t := 24) (ty := ty) Tryz.underlying24 hi0 hgd (o := (i + 1) * 4) (D := some ⟨g, (i + 1) * 4, none⟩) (A := some ⟨g, i * 4, none⟩) (dn := n - i) (dc := dc) (k := n + 1 - i) (kc := sc) (m := n - i) (cs := cs1)
      (by simp only [Nat.min_def]; split <;> omega) (by rw [hz1]; exact hlen) (fun _ => ⟨rfl, _, rfl, by rw [hcs1]; exact cells_part hgd _ _⟩) (by rw [hz1]; omega) (by rw [hcs1]; exact one_part_in hx h1 (by omega))
    rw [← hcur1, ← hw1] at this
    exact this
  obtain ⟨cur2, hcur2⟩ : ∃ cur2, cur2 = over cur1 (i * 4) us := ⟨_, rfl⟩
  obtain ⟨w2, hw2⟩ : ∃ w2, w2 = w1.setRow g cur2 := ⟨_, rfl⟩
  have hcp2 : ∀ ty dc, (Builtin.copy_ #[24, 24] ty #[.slice (some ⟨g, i * 4, none⟩) (n + 1 - i) dc, .slice (some ⟨gx, 0, none⟩) 1 1]).run Tryz.prog w1 = .ok (goInt (1 : Nat)) w2 := by
    intro ty dc
    have := run_copy_in (P := Tryz.prog) w1 (t := 24) (ty := ty) Tryz.underlying24 hi0 hg1 (o := i * 4) (D := some ⟨g, i * 4, none⟩) (A := some ⟨gx, 0, none⟩) (dn := n + 1 - i) (dc := dc) (k := 1) (kc := 1) (m := 1) (cs := us)
      (by simp only [Nat.min_def]; split <;> omega) (by rw [hz1]; omega) (fun _ => ⟨rfl, _, rfl, fun j v hj => by rw [Addr.add_lit, cell_of_row _ _ _ _ _ _ hgx1]; simpa using hj⟩) (by rw [hz1]; omega) hu1
    rw [← hcur2, ← hw2] at this
    exact this
  have hres : w2.ownsRow B 70 4 (.slice (some ⟨g, 0, none⟩) (n + 1) cap) (n + 1) (putInH xs us i) ∧ w.grownBy w2 (some g) := by
    refine ⟨row_shut (cur := cur2) ?_ hb (by omega) HCM.out ?_ ?_, ?_⟩
    · rw [hw2, hcur2]; exact row_over _ hg1 _ _
    · rw [hcur2, over_size (by omega), hsz1, hcs]
    · have hcl : cur.toList.length = cap * 4 := by rw [Array.length_toList, hcs]
      rw [hcur2, over_list, hcur1, over_list, hcs1, hu, putInH, ← hx]
      apply List.ext_getElem?
      intro j
      simp only [List.getElem?_take, List.getElem?_append, List.length_append, List.length_take, List.length_drop, List.getElem?_drop, hcl, hu]
      rcases Nat.lt_or_ge j ((n + 1) * 4) with hj | hj
      · rw [if_pos hj]
        rcases Nat.lt_or_ge j (i * 4) with h2 | h2
        · repeat' split
          all_goals first | rfl | (exfalso; omega)
        · rcases Nat.lt_or_ge j (i * 4 + 4) with h3 | h3
          · repeat' split
            all_goals first | rfl | (exfalso; omega) | (congr 1; omega)
          · repeat' split
            all_goals first | rfl | (exfalso; omega) | (congr 1; omega)
      · rw [if_neg (by omega)]
        repeat' split
        all_goals first | rfl | (exfalso; omega) | (symm; apply List.getElem?_eq_none; omega)
    · rw [hw2, hw1]
      exact grown_trans (w' := w.drew.setRow g cur1) (grown_trans (w' := w.drew) ⟨rfl, rfl, rfl, Nat.le_refl _, fun _ _ _ => rfl⟩ (setRow_grown w.drew g cur1)) (setRow_grown _ g cur2)
  have HV := Lib.hid hov
  have H1 := Lib.hid hcp1
  have H2 := Lib.hid hcp2
  have HS := Lib.hid hres
  clear hov hcp1 hcp2 hres hsz1 hcs hlen hz0 hz1 hz2 hi0 h1 hcur1 hcs1 hx hw1 hw2 hcur2 h hg hgd hg1 hgx hgx1 hu hu1
  have e1 : (0 : Int) ≤ (i : Int) := by omega
  have e2 : (i : Int) ≤ (n : Int) := by omega
  have e3 : ¬ ((i : Int) = (n : Int)) := by omega
  have e4 : ¬ ((cap : Int) < (n : Int) + 1) := by omega
  have e6 : ((i : Int) + 1).toNat = i + 1 := by omega
  have e7 : (0 : Int) ≤ (i : Int) + 1 := by omega
  have e8 : (i : Int) + 1 ≤ (n : Int) + 1 := by omega
  have e9 : (i : Int) ≤ (n : Int) + 1 := by omega
  have f1 : ¬ (cap = i) := by omega
  have f2 : ¬ (cap = i + 1) := by omega
  have f3 : (n : Int) + 1 ≤ (cap : Int) := by omega
  have f4 : i ≤ n + 1 := by omega
  have f5 : ((n : Int) + 1).toNat = n + 1 := by omega
  have f6 : n + 1 ≤ cap := hroom
  have f7 : i + 1 ≤ n + 1 := by omega
  have f8 : i ≤ n := by omega
  have hov := HV.out
  go_enter Tryz.func126, Tryz.ntmps126
  go_wp2
  clear hov
  have g1 : IntKind.i64.wrap ((i : Int) + 1) = (i : Int) + 1 := IntWalk.i64_in _ (by omega)
  go_still_tail 8, (by kernel_rfl)
  change wpList _ _ _ _ _ w.drew
  go_wp2_with (first | refine wpList_copy_run (o := ⟨some 77, _, _, _, _, _⟩) _ rfl (.tmp 73) (.tmp 76) 24 24 rfl rfl rfl (H1.out _ _ _) ?_ | refine wpList_copy_run (o := ⟨some 82, _, _, _, _, _⟩) _ rfl (.tmp 80) (.tmp 81) 24 24 rfl rfl rfl (H2.out _ _) ?_)
  go_ret
  exact ⟨rfl, HS.out⟩

end Go.Proofs.YteepobghdpnabaaGreat
namespace Go.Proofs.YteepobghdpnabaaGreat
open Go.RowKit

def zint : Value := .int .i64 0
theorem info_zint : (Tryz.prog.info? 3).map (fun i => (i.zero, i.size, i.bytes)) = some (some zint, 1, 8) := by kernel_rfl
end Go.Proofs.YteepobghdpnabaaGreat
