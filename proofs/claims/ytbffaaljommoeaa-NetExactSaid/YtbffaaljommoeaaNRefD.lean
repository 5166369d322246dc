/-
  The page's own net: on plain data, and as it lies in memory.
-/
import Derived.Test.YtbffaaljommoeaaNMem
namespace Go.Proofs.Ytbffaaljommoeaa
open Go.RowKit

/-! ### plain -/
/-- a way: its messages, each with the slice that shows it -/
structure WayD where
  f : Int
  t : Int
  v : Value
  ps : List (Value × List Int)
def WayD.msgs (W : WayD) : List (List Int) := W.ps.map Prod.snd
def WayD.cells (W : WayD) : List Value := [.int .i64 W.f, .int .i64 W.t, W.v]
def cellsWay (l : List WayD) : List Value := l.flatMap WayD.cells
def isWay (f t : Int) (W : WayD) : Prop := W.f = f ∧ W.t = t
instance (f t : Int) (W : WayD) : Decidable (isWay f t W) := inferInstanceAs (Decidable (_ ∧ _))
def lookW : List WayD → Int → Int → List (List Int)
  | [], _, _ => []
  | W :: r, f, t => if isWay f t W then W.msgs else lookW r f t
def posW : List WayD → Int → Int → Nat
  | [], _, _ => 0
  | W :: r, f, t => if isWay f t W then 0 else posW r f t + 1
def clrW (t : Int) (W : WayD) : WayD := if W.t = t then { W with v := .slice none 0 0, ps := [] } else W

theorem pos_le : ∀ (Ws : List WayD) (f t : Int), posW Ws f t ≤ Ws.length
  | [], _, _ => Nat.le_refl _
  | W :: r, f, t => by
    have := pos_le r f t
    rw [posW]
    split <;> simp <;> omega
theorem pos_at : ∀ {Ws : List WayD} {f t : Int}, posW Ws f t < Ws.length → ∃ W, Ws[posW Ws f t]? = some W ∧ isWay f t W ∧ lookW Ws f t = W.msgs
  | [], _, _, h => by simp at h
  | W :: r, f, t, h => by
    rw [posW, lookW]
    rw [posW] at h
    by_cases hs : isWay f t W
    · rw [if_pos hs, if_pos hs]
      exact ⟨W, rfl, hs, rfl⟩
    · rw [if_neg hs] at h
      rw [if_neg hs, if_neg hs]
      obtain ⟨W', h1, h2, h3⟩ := pos_at (Ws := r) (f := f) (t := t) (by simpa using h)
      exact ⟨W', by simpa using h1, h2, h3⟩
theorem pos_none : ∀ {Ws : List WayD} {f t : Int}, posW Ws f t = Ws.length → lookW Ws f t = []
  | [], _, _, _ => rfl
  | W :: r, f, t, h => by
    rw [posW] at h
    rw [lookW]
    by_cases hs : isWay f t W
    · rw [if_pos hs] at h
      simp at h
    · rw [if_neg hs] at h
      rw [if_neg hs]
      exact pos_none (by simpa using h)
theorem pos_before : ∀ {Ws : List WayD} {f t : Int} {j : Nat} {W : WayD}, j < posW Ws f t → Ws[j]? = some W → ¬ isWay f t W
  | [], _, _, _, _, h, _ => by simp [posW] at h
  | X :: r, f, t, j, W, h, hj => by
    rw [posW] at h
    by_cases hs : isWay f t X
    · rw [if_pos hs] at h; omega
    · rw [if_neg hs] at h
      cases j with
      | zero => simp at hj; rw [← hj]; exact hs
      | succ j => exact pos_before (Ws := r) (j := j) (by omega) (by simpa using hj)
theorem look_push : ∀ (Ws : List WayD) (f t f' t' : Int) (v : Value), lookW (Ws ++ [⟨f, t, v, []⟩]) f' t' = lookW Ws f' t'
  | [], f, t, f', t', v => by
    show (if isWay f' t' ⟨f, t, v, []⟩ then [] else []) = []
    split <;> rfl
  | W :: r, f, t, f', t', v => by
    show (if isWay f' t' W then W.msgs else lookW (r ++ [⟨f, t, v, []⟩]) f' t') = _
    rw [look_push r, lookW]
theorem pos_push : ∀ (Ws : List WayD) (f t : Int) (v : Value), posW Ws f t = Ws.length → posW (Ws ++ [⟨f, t, v, []⟩]) f t = Ws.length
  | [], f, t, v, _ => by
    show (if isWay f t ⟨f, t, v, []⟩ then 0 else _) = _
    rw [if_pos ⟨rfl, rfl⟩]; rfl
  | W :: r, f, t, v, h => by
    rw [posW] at h
    by_cases hs : isWay f t W
    · rw [if_pos hs] at h; simp at h
    · rw [if_neg hs] at h
      show (if isWay f t W then 0 else posW (r ++ [⟨f, t, v, []⟩]) f t + 1) = _
      rw [if_neg hs, pos_push r f t v (by simpa using h)]
      rfl
theorem look_set : ∀ {Ws : List WayD} {f t : Int} {W W' : WayD} (f' t' : Int), Ws[posW Ws f t]? = some W → isWay f t W' →
    lookW (Ws.set (posW Ws f t) W') f' t' = if f' = f ∧ t' = t then W'.msgs else lookW Ws f' t'
  | [], _, _, _, _, _, _, h, _ => by simp at h
  | X :: r, f, t, W, W', f', t', h, hw => by
    rw [posW] at h ⊢
    by_cases hs : isWay f t X
    · rw [if_pos hs]
      show (if isWay f' t' W' then W'.msgs else lookW r f' t') = _
      rw [lookW]
      obtain ⟨w1, w2⟩ := hw
      obtain ⟨x1, x2⟩ := hs
      by_cases e : f' = f ∧ t' = t
      · rw [if_pos e, if_pos ⟨by rw [w1, e.1], by rw [w2, e.2]⟩]
      · rw [if_neg e, if_neg (fun q => e ⟨by rw [← q.1, w1], by rw [← q.2, w2]⟩), if_neg (fun q => e ⟨by rw [← q.1, x1], by rw [← q.2, x2]⟩)]
    · rw [if_neg hs] at h ⊢
      show (if isWay f' t' X then X.msgs else lookW (r.set (posW r f t) W') f' t') = _
      rw [look_set (Ws := r) f' t' (by simpa using h) hw, lookW]
      by_cases e : f' = f ∧ t' = t
      · rw [if_pos e, if_pos e, if_neg (fun q => hs ⟨by rw [q.1, e.1], by rw [q.2, e.2]⟩)]
      · rw [if_neg e, if_neg e]
theorem look_clear (t f' t' : Int) : ∀ Ws : List WayD, lookW (Ws.map (clrW t)) f' t' = if t' = t then [] else lookW Ws f' t'
  | [] => by
    show [] = if t' = t then [] else []
    split <;> rfl
  | W :: r => by
    show (if isWay f' t' (clrW t W) then (clrW t W).msgs else lookW (r.map (clrW t)) f' t') = _
    rw [look_clear t f' t' r, lookW]
    have hf : isWay f' t' (clrW t W) ↔ isWay f' t' W := by
      unfold isWay clrW
      split <;> rfl
    by_cases hs : isWay f' t' W
    · rw [if_pos (hf.2 hs), if_pos hs]
      by_cases e : t' = t
      · rw [if_pos e, clrW, if_pos (by rw [hs.2, e])]; rfl
      · rw [if_neg e, clrW, if_neg (fun q => e (by rw [← hs.2, q]))]
    · rw [if_neg (fun q => hs (hf.1 q)), if_neg hs]

theorem cellsWay_length (l : List WayD) : (cellsWay l).length = l.length * 3 := by
  induction l with
  | nil => rfl
  | cons m ms ih => simp only [cellsWay, List.flatMap_cons, List.length_append] at ih ⊢; rw [ih]; simp [WayD.cells]; omega
theorem cellsWay_append (a b : List WayD) : cellsWay (a ++ b) = cellsWay a ++ cellsWay b := by simp [cellsWay]
theorem cellsWay_at : ∀ {l : List WayD} {i : Nat} {a : WayD}, l[i]? = some a → ∀ {j : Nat} {v : Value}, a.cells[j]? = some v → (cellsWay l)[i * 3 + j]? = some v
  | [], _, _, h, _, _, _ => by simp at h
  | x :: l, 0, a, h, j, v, hv => by
    simp at h
    subst h
    show (x.cells ++ cellsWay l)[0 * 3 + j]? = some v
    rw [Nat.zero_mul, Nat.zero_add, List.getElem?_append_left (List.getElem?_eq_some_iff.1 hv).1]
    exact hv
  | x :: l, i + 1, a, h, j, v, hv => by
    have ih := cellsWay_at (l := l) (i := i) (by simpa using h) hv
    show (x.cells ++ cellsWay l)[(i + 1) * 3 + j]? = some v
    have e : x.cells.length = 3 := rfl
    rw [List.getElem?_append_right (by rw [e]; omega), e, show (i + 1) * 3 + j - 3 = i * 3 + j by omega]
    exact ih
theorem cellsWay_set : ∀ {l : List WayD} {i : Nat} {W : WayD} (v2 : Value) (ps2 : List (Value × List Int)), l[i]? = some W → (cellsWay l).set (i * 3 + 2) v2 = cellsWay (l.set i { W with v := v2, ps := ps2 })
  | [], _, _, _, _, h => by simp at h
  | x :: l, 0, W, v2, ps2, h => by
    simp at h
    subst h
    rfl
  | x :: l, i + 1, W, v2, ps2, h => by
    have ih := cellsWay_set (l := l) (i := i) v2 ps2 (by simpa using h)
    show (x.cells ++ cellsWay l).set ((i + 1) * 3 + 2) v2 = x.cells ++ cellsWay (l.set i { W with v := v2, ps := ps2 })
    have e : x.cells.length = 3 := rfl
    rw [← ih, List.set_append_right _ _ (by rw [e]; omega), e, show (i + 1) * 3 + 2 - 3 = i * 3 + 2 by omega]

/-! ### in memory -/
theorem own_type {w : World} {B e s n : Nat} {v : Value} {xs : List Value} (h : w.ownsRow B e s v n xs) {b : Nat} (hb : v.ownBlock = some b) : ∃ cur, w.heap[b]? = some (.cells cur e (0, 0)) := by
  rcases h.2 with ⟨rfl, _⟩ | ⟨g', cap, cur, rfl, hB, hh, _⟩
  · simp [Value.ownBlock] at hb
  · have : g' = b := by simpa [Value.ownBlock] using hb
    subst this
    exact ⟨cur, hh⟩
theorem ne_type {w : World} {b b' : Nat} {cur cur' : Array Value} {T T' : TypeId} {fr fr' : Nat × Nat} (h : w.heap[b]? = some (.cells cur T fr)) (h' : w.heap[b']? = some (.cells cur' T' fr')) (hT : T ≠ T') : b ≠ b' := by
  rintro rfl
  rw [h] at h'
  cases h'
  exact hT rfl

structure RefN (w : World) (g : Nat) (F : Nat → Prop) (vL : Value) (Ws : List WayD) : Prop where
  blk : w.heap[g]? = some (.cells #[vL] 29 (0, 0))
  row : w.ownsRow 0 63 3 vL Ws.length (cellsWay Ws)
  way : ∀ W ∈ Ws, w.ownsRow 0 30 1 W.v W.ps.length (W.ps.map Prod.fst)
  inn : ∀ W ∈ Ws, ∀ p ∈ W.ps, w.ownsRow 0 5 1 p.1 p.2.length (u8s p.2)
  ap : ∀ (i j : Nat) (W X : WayD), Ws[i]? = some W → Ws[j]? = some X → i ≠ j → ∀ b, W.v.ownBlock = some b → X.v.ownBlock ≠ some b
  here : F g
  rowF : ∀ b, vL.ownBlock = some b → F b
  wayF : ∀ W ∈ Ws, ∀ b, W.v.ownBlock = some b → F b
  innF : ∀ W ∈ Ws, ∀ p ∈ W.ps, ∀ b, p.1.ownBlock = some b → F b
  lt : ∀ k, F k → k < w.heap.size
  ok : ∀ W ∈ Ws, OkMsgs W.msgs
  node : ∀ W ∈ Ws, bothN W.f W.t = true
/-- the page's net has these messages, in at most so many ways -/
def IsRefN (w : World) (g : Nat) (F : Nat → Prop) (L : PN) (c : Nat) : Prop := ∃ vL Ws, RefN w g F vL Ws ∧ Ws.length ≤ c ∧ ∀ f t, lookW Ws f t = L.at_ f t
def RefNTo (g : Nat) (F : Nat → Prop) (L : PN) (c : Nat) (w w' : World) : Prop := ∃ F' : Nat → Prop, IsRefN w' g F' L c ∧ Touch F w w' ∧ ∀ k, F' k → F k ∨ w.heap.size ≤ k

section
variable {w w' w2 : World} {g gr i n cap c : Nat} {F : Nat → Prop} {vL v2 : Value} {Ws : List WayD} {W : WayD} {L : PN}
theorem RefN.kept (h : RefN w g F vL Ws) (hs : w.heap.size ≤ w'.heap.size) (hk : ∀ k, F k → w'.heap[k]? = w.heap[k]?) : RefN w' g F vL Ws where
  blk := (hk g h.here).trans h.blk
  row := own_kept h.row fun b hb _ => hk b (h.rowF b hb)
  way := fun W hW => own_kept (h.way W hW) fun b hb _ => hk b (h.wayF W hW b hb)
  inn := fun W hW p hp => own_kept (h.inn W hW p hp) fun b hb _ => hk b (h.innF W hW p hp b hb)
  ap := h.ap
  here := h.here
  rowF := h.rowF
  wayF := h.wayF
  innF := h.innF
  lt := fun k hf => Nat.lt_of_lt_of_le (h.lt k hf) hs
  ok := h.ok
  node := h.node
theorem RefN.below (h : RefN w g F vL Ws) (hb : Below w.heap.size w w') : RefN w' g F vL Ws := h.kept hb.size fun k hk => hb.block k (h.lt k hk)
theorem IsRefN.kept (h : IsRefN w g F L c) (hs : w.heap.size ≤ w'.heap.size) (hk : ∀ k, F k → w'.heap[k]? = w.heap[k]?) : IsRefN w' g F L c := by
  obtain ⟨vL, Ws, h, h1, h2⟩ := h
  exact ⟨vL, Ws, h.kept hs hk, h1, h2⟩
theorem IsRefN.lt (h : IsRefN w g F L c) : ∀ k, F k → k < w.heap.size := by
  obtain ⟨vL, Ws, h, h1, h2⟩ := h
  exact h.lt
theorem IsRefN.below (h : IsRefN w g F L c) (hb : Below w.heap.size w w') : IsRefN w' g F L c := h.kept hb.size fun k hk => hb.block k (h.lt k hk)
theorem IsRefN.more (h : IsRefN w g F L c) {c' : Nat} (hc : c ≤ c') : IsRefN w g F L c' := by
  obtain ⟨vL, Ws, h, h1, h2⟩ := h
  exact ⟨vL, Ws, h, Nat.le_trans h1 hc, h2⟩
theorem refNTo_same (h : IsRefN w g F L c) (hb : Below w.heap.size w w') : RefNTo g F L c w w' := ⟨F, h.below hb, Touch.of hb, fun _ hk => .inl hk⟩
theorem RefN.c0 (h : RefN w g F vL Ws) : w.cell? ⟨g, 0, none⟩ = some vL := cell_of_row w g 0 _ _ _ h.blk
theorem RefN.f0 (h : RefN w g F vL Ws) : w.frozen? ⟨g, 0, none⟩ = false := frozen_of_row w g 0 _ _ h.blk
theorem RefN.slice (h : RefN w g F vL Ws) (hn : Ws.length = n) : ∃ A c, vL = .slice A n c ∧ n ≤ c ∧ c ≤ maxLen ∧ Rd w A (cellsWay Ws) := by
  subst hn
  obtain ⟨A, c, h1, h2, h3, h4, _⟩ := ownS_slice h.row
  exact ⟨A, c, h1, h2, h3, h4⟩
/-- a way, as it lies -/
theorem RefN.at_ (h : RefN w g F vL Ws) (hn : Ws.length = n) (hi : Ws[i]? = some W) : ∃ gr cap, vL = .slice (some ⟨gr, 0, none⟩) n cap ∧ n ≤ cap ∧ cap ≤ maxLen ∧ i < n ∧ gr < w.heap.size ∧
    w.cell? ⟨gr, i * 3, none⟩ = some (.int .i64 W.f) ∧ w.cell? ⟨gr, i * 3 + 1, none⟩ = some (.int .i64 W.t) ∧ w.cell? ⟨gr, i * 3 + 2, none⟩ = some W.v ∧ ∀ o, w.frozen? ⟨gr, o, none⟩ = false := by
  have hil := (List.getElem?_eq_some_iff.1 hi).1
  subst hn
  rcases h.row.2 with ⟨_, h0⟩ | ⟨gr, cap, cur, hv, _, hg, hnc, hcm, _⟩
  · omega
  · have hc := fun j v (hv' : W.cells[j]? = some v) => h.row.cells (g := gr) (by rw [hv]; rfl) _ v (cellsWay_at hi hv')
    have e0 := hc 0 _ rfl
    have e1 := hc 1 _ rfl
    have e2 := hc 2 _ rfl
    rw [Addr.add_lit, Nat.zero_add] at e0 e1 e2
    exact ⟨gr, cap, hv, hnc, hcm, hil, lt_of_block hg, e0, e1, e2, fun o => frozen_of_row w gr o _ _ hg⟩

/-- another row of messages for a way -/
theorem RefN.wayTo (h : RefN w g F vL Ws) (hi : Ws[i]? = some W) (hv : vL = .slice (some ⟨gr, 0, none⟩) n cap) (hn : Ws.length = n) (ht : Touch (fun b => W.v.ownBlock = some b) w w2) {ps2 : List (Value × List Int)}
    (hrow : w2.ownsRow 0 30 1 v2 ps2.length (ps2.map Prod.fst)) (hloc : ∀ b, v2.ownBlock = some b → W.v.ownBlock = some b ∨ w.heap.size ≤ b)
    (hinn : ∀ p ∈ ps2, w2.ownsRow 0 5 1 p.1 p.2.length (u8s p.2)) (hinF : ∀ p ∈ ps2, ∀ b, p.1.ownBlock = some b → F b ∨ w.heap.size ≤ b) (hok : OkMsgs (ps2.map Prod.snd)) :
    RefN (w2.setCell ⟨gr, i * 3 + 2, none⟩ v2) g (fun b => F b ∨ (w.heap.size ≤ b ∧ b < w2.heap.size)) vL (Ws.set i { W with v := v2, ps := ps2 }) ∧ Touch F w (w2.setCell ⟨gr, i * 3 + 2, none⟩ v2) := by
  have hW := List.mem_of_getElem? hi
  have hil := (List.getElem?_eq_some_iff.1 hi).1
  have hvb : vL.ownBlock = some gr := by rw [hv]; rfl
  obtain ⟨curR, hgr⟩ := own_type h.row hvb
  have hgrl := lt_of_block hgr
  have hgl : g < w.heap.size := h.lt _ h.here
  have hgne : g ≠ gr := ne_type h.blk hgr (by decide)
  have hgW : W.v.ownBlock ≠ some g := fun e => by
    obtain ⟨cur, hc⟩ := own_type (h.way W hW) e
    exact ne_type h.blk hc (by decide) rfl
  have hgrW : W.v.ownBlock ≠ some gr := fun e => by
    obtain ⟨cur, hc⟩ := own_type (h.way W hW) e
    exact ne_type hgr hc (by decide) rfl
  have hgr2 : w2.heap[gr]? = w.heap[gr]? := ht.block gr hgrl hgrW
  have hsz : (w2.setCell ⟨gr, i * 3 + 2, none⟩ v2).heap.size = w2.heap.size := by simp
  have hoth : ∀ b, b ≠ gr → (w2.setCell ⟨gr, i * 3 + 2, none⟩ v2).heap[b]? = w2.heap[b]? := fun b hb => heap_setCell_other w2 ⟨gr, i * 3 + 2, none⟩ b v2 hb
  have hold : ∀ b, b < w.heap.size → b ≠ gr → W.v.ownBlock ≠ some b → (w2.setCell ⟨gr, i * 3 + 2, none⟩ v2).heap[b]? = w.heap[b]? := fun b hb h1 h2 => (hoth b h1).trans (ht.block b hb h2)
  have hF' : ∀ b, F b → F b ∨ (w.heap.size ≤ b ∧ b < w2.heap.size) := fun b hb => .inl hb
  have hset : ∀ X ∈ Ws.set i { W with v := v2, ps := ps2 }, X = { W with v := v2, ps := ps2 } ∨ ∃ j, j ≠ i ∧ Ws[j]? = some X := fun X hX => by
    obtain ⟨j, hj⟩ := List.mem_iff_getElem?.1 hX
    by_cases hji : j = i
    · subst hji
      rw [List.getElem?_set_self hil] at hj
      exact .inl (Option.some.inj hj).symm
    · rw [List.getElem?_set_ne (Ne.symm hji)] at hj
      exact .inr ⟨j, hji, hj⟩
  have hat : ∀ j X, (Ws.set i { W with v := v2, ps := ps2 })[j]? = some X → (j = i ∧ X.v = v2) ∨ (j ≠ i ∧ Ws[j]? = some X) := fun j X hj => by
    by_cases hji : j = i
    · subst hji
      rw [List.getElem?_set_self hil] at hj
      have := Option.some.inj hj
      exact .inl ⟨rfl, by rw [← this]⟩
    · rw [List.getElem?_set_ne (Ne.symm hji)] at hj
      exact .inr ⟨hji, hj⟩
  have hv2gr : v2.ownBlock ≠ some gr := fun e => by
    obtain ⟨cur, hc⟩ := own_type hrow e
    rw [hgr2, hgr] at hc
    cases hc
  refine ⟨⟨?_, ?_, fun X hX => ?_, fun X hX p hp => ?_, fun j k X Y hj hk hjk b hb => ?_, .inl h.here, fun b hb => .inl (h.rowF b hb), fun X hX b hb => ?_, fun X hX p hp b hb => ?_, fun k hk => ?_, fun X hX => ?_, fun X hX => ?_⟩, ?_⟩
  · rw [hold g hgl hgne hgW]; exact h.blk
  · rw [List.length_set, ← cellsWay_set v2 ps2 hi]
    have hr : w2.ownsRow 0 63 3 vL Ws.length (cellsWay Ws) := own_kept h.row fun b hb _ => by
      rw [hvb] at hb
      cases hb
      exact hgr2
    rw [hv, ← hn] at hr ⊢
    exact (hr.stored (i * 3 + 2) v2).1
  · rcases hset X hX with rfl | ⟨j, hji, hj⟩
    · exact own_kept hrow fun b hb _ => hoth b fun e => hv2gr (by rw [hb, e])
    · have hXm := List.mem_of_getElem? hj
      refine own_kept (h.way X hXm) fun b hb hlt => hold b hlt (fun e => ?_) fun e => h.ap i j W X hi hj (Ne.symm hji) b e hb
      obtain ⟨cur, hc⟩ := own_type (h.way X hXm) hb
      exact ne_type hgr hc (by decide) e.symm
  · rcases hset X hX with rfl | ⟨j, hji, hj⟩
    · refine own_kept (hinn p hp) fun b hb _ => hoth b fun e => ?_
      obtain ⟨cur, hc⟩ := own_type (hinn p hp) hb
      rw [e, hgr2, hgr] at hc
      cases hc
    · have hXm := List.mem_of_getElem? hj
      refine own_kept (h.inn X hXm p hp) fun b hb hlt => ?_
      obtain ⟨cur, hc⟩ := own_type (h.inn X hXm p hp) hb
      refine hold b hlt (fun e => ne_type hgr hc (by decide) e.symm) fun e => ?_
      obtain ⟨cur', hc'⟩ := own_type (h.way W hW) e
      exact ne_type hc hc' (by decide) rfl
  · have key : ∀ j X, j ≠ i → Ws[j]? = some X → X.v.ownBlock = some b → v2.ownBlock ≠ some b := fun j X hji hj hXb e => by
      rcases hloc b e with e' | e'
      · exact h.ap i j W X hi hj (Ne.symm hji) b e' hXb
      · have := h.lt b (h.wayF X (List.mem_of_getElem? hj) b hXb); omega
    rcases hat j X hj with ⟨rfl, hX⟩ | ⟨hji, hj'⟩
    · rcases hat k Y hk with ⟨rfl, _⟩ | ⟨hki, hk'⟩
      · omega
      · rw [hX] at hb
        exact fun e => key k Y hki hk' e hb
    · rcases hat k Y hk with ⟨rfl, hY⟩ | ⟨hki, hk'⟩
      · rw [hY]
        exact key j X hji hj' hb
      · exact h.ap j k X Y hj' hk' hjk b hb
  · rcases hset X hX with rfl | ⟨j, hji, hj⟩
    · rcases hloc b hb with e | e
      · exact .inl (h.wayF W hW b e)
      · exact .inr ⟨e, (own_lt hrow hb).1⟩
    · exact .inl (h.wayF X (List.mem_of_getElem? hj) b hb)
  · rcases hset X hX with rfl | ⟨j, hji, hj⟩
    · rcases hinF p hp b hb with e | e
      · exact .inl e
      · exact .inr ⟨e, (own_lt (hinn p hp) hb).1⟩
    · exact .inl (h.innF X (List.mem_of_getElem? hj) p hp b hb)
  · rw [hsz]
    rcases hk with hk | hk
    · exact Nat.lt_of_lt_of_le (h.lt k hk) ht.size
    · exact hk.2
  · rcases hset X hX with rfl | ⟨j, hji, hj⟩
    · exact hok
    · exact h.ok X (List.mem_of_getElem? hj)
  · rcases hset X hX with rfl | ⟨j, hji, hj⟩
    · exact h.node W hW
    · exact h.node X (List.mem_of_getElem? hj)
  · exact (ht.mono fun b hb => h.wayF W hW b hb).set (.inl (h.rowF gr hvb)) _

/-- one way more, of which nothing was gone yet -/
theorem RefN.push {f t : Int} (h : RefN w g F vL Ws) (ht : Touch (fun b => vL.ownBlock = some b) w w2) (hrow : w2.ownsRow 0 63 3 v2 (Ws.length + 1) (cellsWay Ws ++ [.int .i64 f, .int .i64 t, .slice none 0 0]))
    (hloc : ∀ b, v2.ownBlock = some b → vL.ownBlock = some b ∨ w.heap.size ≤ b) (hb : bothN f t = true) :
    RefN (w2.setCell ⟨g, 0, none⟩ v2) g (fun b => F b ∨ (w.heap.size ≤ b ∧ b < w2.heap.size)) v2 (Ws ++ [⟨f, t, .slice none 0 0, []⟩]) ∧ Touch F w (w2.setCell ⟨g, 0, none⟩ v2) := by
  have hgl : g < w.heap.size := h.lt _ h.here
  have hgv : vL.ownBlock ≠ some g := fun e => by
    obtain ⟨cur, hc⟩ := own_type h.row e
    exact ne_type h.blk hc (by decide) rfl
  have hsz : (w2.setCell ⟨g, 0, none⟩ v2).heap.size = w2.heap.size := by simp
  have hoth : ∀ b, b ≠ g → (w2.setCell ⟨g, 0, none⟩ v2).heap[b]? = w2.heap[b]? := fun b hb => heap_setCell_other w2 ⟨g, 0, none⟩ b v2 hb
  have hold : ∀ b, b < w.heap.size → b ≠ g → vL.ownBlock ≠ some b → (w2.setCell ⟨g, 0, none⟩ v2).heap[b]? = w.heap[b]? := fun b hb h1 h2 => (hoth b h1).trans (ht.block b hb h2)
  have hv2g : v2.ownBlock ≠ some g := fun e => by
    rcases hloc g e with e' | e'
    · exact hgv e'
    · omega
  have hmem : ∀ X ∈ Ws ++ [(⟨f, t, .slice none 0 0, []⟩ : WayD)], X ∈ Ws ∨ X = ⟨f, t, .slice none 0 0, []⟩ := fun X hX => by
    rcases List.mem_append.1 hX with h' | h'
    · exact .inl h'
    · exact .inr (List.mem_singleton.1 h')
  refine ⟨⟨?_, ?_, fun X hX => ?_, fun X hX p hp => ?_, fun j k X Y hj hk hjk b hb' => ?_, .inl h.here, fun b hb' => ?_, fun X hX b hb' => ?_, fun X hX p hp b hb' => ?_, fun k hk => ?_, fun X hX => ?_, fun X hX => ?_⟩, ?_⟩
  · exact heap_setCell_same w2 g 0 _ _ v2 ((ht.block g hgl hgv).trans h.blk)
  · rw [List.length_append, cellsWay_append]
    exact own_kept hrow fun b hb' _ => hoth b fun e => hv2g (by rw [hb', e])
  · rcases hmem X hX with hX | rfl
    · refine own_kept (h.way X hX) fun b hb' hlt => ?_
      obtain ⟨cur, hc⟩ := own_type (h.way X hX) hb'
      refine hold b hlt (fun e => ne_type h.blk hc (by decide) e.symm) fun e => ?_
      obtain ⟨cur', hc'⟩ := own_type h.row e
      exact ne_type hc hc' (by decide) rfl
    · exact World.ownsRow_nil _ _ _ _
  · rcases hmem X hX with hX | rfl
    · refine own_kept (h.inn X hX p hp) fun b hb' hlt => ?_
      obtain ⟨cur, hc⟩ := own_type (h.inn X hX p hp) hb'
      refine hold b hlt (fun e => ne_type h.blk hc (by decide) e.symm) fun e => ?_
      obtain ⟨cur', hc'⟩ := own_type h.row e
      exact ne_type hc hc' (by decide) rfl
    · simp at hp
  · have low : ∀ (j : Nat) (X : WayD), (Ws ++ [(⟨f, t, .slice none 0 0, []⟩ : WayD)])[j]? = some X → Ws[j]? = some X ∨ X.v.ownBlock = none := fun j X hj => by
      rcases Nat.lt_or_ge j Ws.length with hl | hl
      · rw [List.getElem?_append_left hl] at hj; exact .inl hj
      · rw [List.getElem?_append_right hl] at hj
        have h0 : j - Ws.length = 0 := by
          rcases Nat.eq_zero_or_pos (j - Ws.length) with h0 | h0
          · exact h0
          · rw [List.getElem?_eq_none (by simp; omega)] at hj; cases hj
        rw [h0] at hj
        simp at hj
        right
        rw [← hj]
        simp [Value.ownBlock]
    rcases low j X hj with hj' | hj'
    · rcases low k Y hk with hk' | hk'
      · exact h.ap j k X Y hj' hk' hjk b hb'
      · exact fun e => by rw [hk'] at e; cases e
    · rw [hj'] at hb'; cases hb'
  · rcases hloc b hb' with e | e
    · exact .inl (h.rowF b e)
    · exact .inr ⟨e, (own_lt hrow hb').1⟩
  · rcases hmem X hX with hX | rfl
    · exact .inl (h.wayF X hX b hb')
    · simp [Value.ownBlock] at hb'
  · rcases hmem X hX with hX | rfl
    · exact .inl (h.innF X hX p hp b hb')
    · simp at hp
  · rw [hsz]
    rcases hk with hk | hk
    · exact Nat.lt_of_lt_of_le (h.lt k hk) ht.size
    · exact hk.2
  · rcases hmem X hX with hX | rfl
    · exact h.ok X hX
    · exact OkMsgs.nil
  · rcases hmem X hX with hX | rfl
    · exact h.node X hX
    · exact hb
  · exact (ht.mono fun b hb' => h.rowF b hb').set (.inl h.here) _
end

end Go.Proofs.Ytbffaaljommoeaa
