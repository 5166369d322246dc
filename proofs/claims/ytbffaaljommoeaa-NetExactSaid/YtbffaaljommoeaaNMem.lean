/-
  A net on plain data, and as it lies in memory.
-/
import Derived.Test.YtbffaaljommoeaaNDel
import Derived.Test.YtbffaaljommoeaaWr
import Derived.Deep.CutBlock
namespace Go.Proofs.Ytbffaaljommoeaa
open Go.RowKit

/-! ### plain -/
/-- the messages of each link, by its place -/
abbrev PN := Nat → List (List Int)
def nodeN (n : Int) : Bool := decide (1 ≤ n) && decide (n ≤ 16)
def bothN (f t : Int) : Bool := nodeN f && nodeN t
def wayN (f t : Int) : Nat := (f - 1).toNat * 16 + (t - 1).toNat
def PN.at_ (L : PN) (f t : Int) : List (List Int) := if bothN f t = true then L (wayN f t) else []
def PN.put (L : PN) (k : Nat) (l : List (List Int)) : PN := fun i => if i = k then l else L i
def delN (l : List (List Int)) (k : Nat) : List (List Int) := l.take k ++ l.drop (k + 1)
def hasK (L : PN) (f t k : Int) : Bool := decide (0 ≤ k) && decide (k < ((L.at_ f t).length : Int))
def msgN (L : PN) (f t k : Int) : List Int := ((L.at_ f t)[k.toNat]?).getD []
def nPut (L : PN) (f t : Int) (b : List Int) : PN × Int :=
  if bothN f t = false then (L, 1) else if (L (wayN f t)).length = 1024 then (L, 8) else (L.put (wayN f t) (L (wayN f t) ++ [b]), 0)
def nDrop (L : PN) (f t k : Int) : PN × Int := if hasK L f t k = false then (L, 3) else (L.put (wayN f t) (delN (L (wayN f t)) k.toNat), 0)
def nDouble (L : PN) (f t k : Int) : PN × Int :=
  if hasK L f t k = false then (L, 3) else if (L (wayN f t)).length = 1024 then (L, 8) else (L.put (wayN f t) (L (wayN f t) ++ [msgN L f t k]), 0)
def clrN (L : PN) (y i : Nat) : PN := fun j => if j % 16 = y ∧ j / 16 < i then [] else L j
def nClear (L : PN) (t : Int) : PN := if nodeN t = false then L else clrN L (t - 1).toNat 16
def nNone : PN := fun _ => []

theorem nodeN_iff {n : Int} : nodeN n = true ↔ 1 ≤ n ∧ n ≤ 16 := by simp [nodeN]
theorem bothN_iff {f t : Int} : bothN f t = true ↔ (1 ≤ f ∧ f ≤ 16) ∧ 1 ≤ t ∧ t ≤ 16 := by simp [bothN, nodeN]
theorem wayN_lt {f t : Int} (h : bothN f t = true) : wayN f t < 256 := by
  rw [bothN_iff] at h
  unfold wayN
  omega
theorem at_yes {L : PN} {f t : Int} (h : bothN f t = true) : L.at_ f t = L (wayN f t) := by rw [PN.at_, if_pos h]
theorem at_no {L : PN} {f t : Int} (h : bothN f t = false) : L.at_ f t = [] := by rw [PN.at_, if_neg (by rw [h]; decide)]
theorem hasK_iff {L : PN} {f t k : Int} : hasK L f t k = true ↔ 0 ≤ k ∧ k < ((L.at_ f t).length : Int) := by simp [hasK]
theorem hasK_both {L : PN} {f t k : Int} (h : hasK L f t k = true) : bothN f t = true := by
  cases hb : bothN f t with
  | true => rfl
  | false =>
    rw [hasK_iff, at_no hb] at h
    simp at h
    omega

theorem clrN_zero (L : PN) (y : Nat) : clrN L y 0 = L := by funext j; simp [clrN]
theorem clrN_next (L : PN) {y i : Nat} (hy : y < 16) : (clrN L y i).put (i * 16 + y) [] = clrN L y (i + 1) := by
  funext j
  unfold PN.put clrN
  by_cases h : j = i * 16 + y
  · rw [if_pos h, if_pos (by omega)]
  · rw [if_neg h]
    by_cases h1 : j % 16 = y ∧ j / 16 < i
    · rw [if_pos h1, if_pos (by omega)]
    · rw [if_neg h1, if_neg (by omega)]
theorem put_at (L : PN) (l : List (List Int)) {f t f' t' : Int} (h : bothN f t = true) : (L.put (wayN f t) l).at_ f' t' = if f' = f ∧ t' = t then l else L.at_ f' t' := by
  rw [bothN_iff] at h
  unfold PN.at_ PN.put
  cases hb : bothN f' t' with
  | true =>
    rw [bothN_iff] at hb
    by_cases e : f' = f ∧ t' = t
    · obtain ⟨rfl, rfl⟩ := e
      simp
    · rw [if_pos rfl, if_pos rfl, if_neg (by unfold wayN; omega), if_neg e]
  | false =>
    by_cases e : f' = f ∧ t' = t
    · obtain ⟨rfl, rfl⟩ := e
      have := bothN_iff.2 h
      rw [hb] at this
      cases this
    · rw [if_neg e]
      simp
theorem clr_at (L : PN) (t f' t' : Int) : (nClear L t).at_ f' t' = if t' = t then [] else L.at_ f' t' := by
  unfold nClear
  cases hn : nodeN t with
  | false =>
    rw [if_pos rfl]
    by_cases e : t' = t
    · subst e
      rw [if_pos rfl, at_no (by rw [bothN, hn, Bool.and_false])]
    · rw [if_neg e]
  | true =>
    rw [if_neg (by decide)]
    rw [nodeN_iff] at hn
    unfold PN.at_ clrN
    cases hb : bothN f' t' with
    | false => simp
    | true =>
      rw [bothN_iff] at hb
      by_cases e : t' = t
      · subst e
        rw [if_pos rfl, if_pos rfl, if_pos (by unfold wayN; omega)]
      · rw [if_pos rfl, if_pos rfl, if_neg e, if_neg (by unfold wayN; omega)]

/-! ### in memory -/
def txtsN (l : List (List Int)) : List Value := strs (l.map strOfNums)
theorem txtsN_length (l : List (List Int)) : (txtsN l).length = l.length := by simp [txtsN, strs_length]
theorem txtsN_append (a b : List (List Int)) : txtsN (a ++ b) = txtsN a ++ txtsN b := by simp [txtsN, strs_append]
theorem txtsN_one (l : List (List Int)) : ∀ u ∈ txtsN l, u.oneCell' = true := strs_one _
theorem txtsN_at {l : List (List Int)} {i : Nat} {m : List Int} (h : l[i]? = some m) : (txtsN l)[i]? = some (.string (strOfNums m)) := by
  simp [txtsN, strs, h]
theorem txtsN_del (l : List (List Int)) (k : Nat) : (txtsN l).take k ++ (txtsN l).drop (k + 1) = txtsN (delN l k) := by
  simp [txtsN, strs, delN, List.map_take, List.map_drop]

/-- messages that may be -/
def OkMsgs (l : List (List Int)) : Prop := l.length ≤ 1024 ∧ ∀ m ∈ l, Byts m ∧ m.length ≤ 1048576
theorem OkMsgs.nil : OkMsgs [] := ⟨by decide, fun m hm => by simp at hm⟩
theorem OkMsgs.snoc {l : List (List Int)} {m : List Int} (h : OkMsgs l) (hl : l.length ≠ 1024) (hm : Byts m) (hz : m.length ≤ 1048576) : OkMsgs (l ++ [m]) :=
  ⟨by have := h.1; simp; omega, fun x hx => by
    rcases List.mem_append.1 hx with hx | hx
    · exact h.2 x hx
    · rw [List.mem_singleton] at hx
      subst hx
      exact ⟨hm, hz⟩⟩
theorem delN_length {l : List (List Int)} {k : Nat} (hk : k < l.length) : (delN l k).length + 1 = l.length := by simp [delN]; omega
theorem delN_mem {l : List (List Int)} {k : Nat} {m : List Int} (h : m ∈ delN l k) : m ∈ l := by
  rcases List.mem_append.1 h with h | h
  · exact List.mem_of_mem_take h
  · exact List.mem_of_mem_drop h
theorem OkMsgs.del {l : List (List Int)} (h : OkMsgs l) {k : Nat} (hk : k < l.length) : OkMsgs (delN l k) :=
  ⟨by have := h.1; have := delN_length hk; omega, fun m hm => h.2 m (delN_mem hm)⟩

structure NetIn (w : World) (g : Nat) (F : Nat → Prop) (V : Nat → Value) (L : PN) : Prop where
  blk : ∃ cur : Array Value, w.heap[g]? = some (.cells cur 55 (0, 0)) ∧ cur.size = 256 ∧ ∀ k, k < 256 → cur[k]? = some (V k)
  row : ∀ k, k < 256 → w.ownsRow 0 9 1 (V k) (L k).length (txtsN (L k))
  ap : ∀ i j, i < 256 → j < 256 → i ≠ j → ∀ b, (V i).ownBlock = some b → (V j).ownBlock ≠ some b
  ng : ∀ k, k < 256 → (V k).ownBlock ≠ some g
  here : F g
  rowF : ∀ k, k < 256 → ∀ b, (V k).ownBlock = some b → F b
  lt : ∀ k, F k → k < w.heap.size
  ok : ∀ k, k < 256 → OkMsgs (L k)
def IsNet (w : World) (g : Nat) (F : Nat → Prop) (L : PN) : Prop := ∃ V, NetIn w g F V L
/-- what a call leaves of it -/
def NetTo (g : Nat) (F : Nat → Prop) (L : PN) (w w' : World) : Prop := ∃ F' : Nat → Prop, IsNet w' g F' L ∧ Touch F w w' ∧ ∀ k, F' k → F k ∨ w.heap.size ≤ k

section
variable {w w' w2 : World} {g k : Nat} {F F' : Nat → Prop} {L L' : PN} {V : Nat → Value} {f t : Int}

theorem NetIn.kept (h : NetIn w g F V L) (hs : w.heap.size ≤ w'.heap.size) (hk : ∀ k, F k → w'.heap[k]? = w.heap[k]?) : NetIn w' g F V L where
  blk := by
    obtain ⟨cur, h1, h2, h3⟩ := h.blk
    exact ⟨cur, (hk g h.here).trans h1, h2, h3⟩
  row := fun k hlt => own_kept (h.row k hlt) fun b hb _ => hk b (h.rowF k hlt b hb)
  ap := h.ap
  ng := h.ng
  here := h.here
  rowF := h.rowF
  lt := fun k hf => Nat.lt_of_lt_of_le (h.lt k hf) hs
  ok := h.ok
theorem IsNet.kept (h : IsNet w g F L) (hs : w.heap.size ≤ w'.heap.size) (hk : ∀ k, F k → w'.heap[k]? = w.heap[k]?) : IsNet w' g F L := by
  obtain ⟨V, h⟩ := h
  exact ⟨V, h.kept hs hk⟩
theorem IsNet.lt (h : IsNet w g F L) : ∀ k, F k → k < w.heap.size := by
  obtain ⟨V, h⟩ := h
  exact h.lt
theorem IsNet.here (h : IsNet w g F L) : F g := by
  obtain ⟨V, h⟩ := h
  exact h.here
theorem IsNet.ok (h : IsNet w g F L) {k : Nat} (hk : k < 256) : OkMsgs (L k) := by
  obtain ⟨V, h⟩ := h
  exact h.ok k hk
theorem IsNet.okA (h : IsNet w g F L) (f t : Int) : OkMsgs (L.at_ f t) := by
  cases hb : bothN f t with
  | true => rw [at_yes hb]; exact h.ok (wayN_lt hb)
  | false => rw [at_no hb]; exact OkMsgs.nil
theorem IsNet.below (h : IsNet w g F L) (hb : Below w.heap.size w w') : IsNet w' g F L := h.kept hb.size fun k hk => hb.block k (h.lt k hk)
theorem NetIn.below (h : NetIn w g F V L) (hb : Below w.heap.size w w') : NetIn w' g F V L := h.kept hb.size fun k hk => hb.block k (h.lt k hk)
theorem NetIn.cell (h : NetIn w g F V L) (hk : k < 256) : w.cell? ⟨g, k, none⟩ = some (V k) := by
  obtain ⟨cur, h1, h2, h3⟩ := h.blk
  rw [cell_of_row w g k _ _ _ h1]
  exact h3 k hk
theorem NetIn.fz (h : NetIn w g F V L) (o : Nat) : w.frozen? ⟨g, o, none⟩ = false := by
  obtain ⟨cur, h1, _⟩ := h.blk
  exact frozen_of_row w g o _ _ h1
/-- a link's slice -/
theorem NetIn.slice (h : NetIn w g F V L) (hk : k < 256) {n : Nat} (hn : (L k).length = n) : ∃ A c, V k = .slice A n c ∧ n ≤ c ∧ c ≤ maxLen ∧ Rd w A (txtsN (L k)) := by
  subst hn
  obtain ⟨A, c, h1, h2, h3, h4, _⟩ := own_val (h.row k hk)
  exact ⟨A, c, h1, h2, h3, h4⟩
theorem netTo_same (h : IsNet w g F L) (hb : Below w.heap.size w w') : NetTo g F L w w' := ⟨F, h.below hb, Touch.of hb, fun _ hk => .inl hk⟩

theorem NetTo.trans {L2 : PN} (h : NetTo g F L' w w') (k : ∀ F', IsNet w' g F' L' → NetTo g F' L2 w' w2) : NetTo g F L2 w w2 := by
  obtain ⟨F1, h1, h2, h3⟩ := h
  obtain ⟨F2, k1, k2, k3⟩ := k F1 h1
  refine ⟨F2, k1, h2.trans k2 h3, fun b hb => ?_⟩
  rcases k3 b hb with e | e
  · exact h3 b e
  · exact .inr (Nat.le_trans h2.size e)
theorem NetTo.before (h : NetTo g F L w' w2) (hb : Below w.heap.size w w') : NetTo g F L w w2 := by
  obtain ⟨F1, h1, h2, h3⟩ := h
  exact ⟨F1, h1, (Touch.of hb : Touch F w w').trans h2 fun _ hk => .inl hk, fun b hk => (h3 b hk).imp id fun e => Nat.le_trans hb.size e⟩

/-- another row for a link -/
theorem NetIn.rowTo (h : NetIn w g F V L) (hk : k < 256) (ht : Touch (fun b => (V k).ownBlock = some b) w w2) {v2 : Value} {l2 : List (List Int)} (hrow : w2.ownsRow 0 9 1 v2 l2.length (txtsN l2))
    (hv : ∀ b, v2.ownBlock = some b → (V k).ownBlock = some b ∨ w.heap.size ≤ b) (hok : OkMsgs l2) : NetTo g F (L.put k l2) w (w2.setCell ⟨g, k, none⟩ v2) := by
  have hgl : g < w.heap.size := h.lt _ h.here
  have hng := h.ng k hk
  have hbg : w2.heap[g]? = w.heap[g]? := ht.block g hgl hng
  obtain ⟨cur, hc1, hc2, hc3⟩ := h.blk
  have hoth : ∀ b, b ≠ g → (w2.setCell ⟨g, k, none⟩ v2).heap[b]? = w2.heap[b]? := fun b hb => heap_setCell_other w2 ⟨g, k, none⟩ b v2 hb
  have hv2g : v2.ownBlock ≠ some g := fun e => by
    rcases hv g e with e' | e'
    · exact hng e'
    · omega
  have hTF : Touch F w w2 := ht.mono fun b hb => h.rowF k hk b hb
  refine ⟨fun b => F b ∨ v2.ownBlock = some b, ⟨fun i => if i = k then v2 else V i, ⟨⟨cur.setIfInBounds k v2, heap_setCell_same w2 g k cur _ v2 (hbg.trans hc1), by simp [hc2], fun i hi => ?_⟩, fun i hi => ?_, fun i j hi hj hij b hb => ?_, fun i hi => ?_, .inl h.here, fun i hi b hb => ?_, fun b hb => ?_, fun i hi => ?_⟩⟩, hTF.set (.inl h.here) _, fun b hb => ?_⟩
  · by_cases hik : i = k
    · subst hik
      simp [hc2, hi]
    · rw [if_neg hik, Array.getElem?_setIfInBounds_ne (Ne.symm hik)]
      exact hc3 i hi
  · by_cases hik : i = k
    · subst hik
      simp only [PN.put, if_true]
      exact own_kept hrow fun b hb _ => hoth b fun e => hv2g (by rw [hb, e])
    · simp only [PN.put, if_neg hik]
      refine own_kept (h.row i hi) fun b hb hlt => ?_
      rw [hoth b (fun e => h.ng i hi (by rw [hb, e]))]
      exact ht.block b hlt (h.ap i k hi hk hik b hb)
  · have key : ∀ i, i < 256 → i ≠ k → (V i).ownBlock = some b → v2.ownBlock ≠ some b := fun i hi hik hb e => by
      rcases hv b e with e' | e'
      · exact h.ap i k hi hk hik b hb e'
      · have := h.lt b (h.rowF i hi b hb); omega
    by_cases hik : i = k
    · rw [if_pos hik] at hb
      rw [if_neg (by omega)]
      exact fun e => key j hj (by omega) e hb
    · rw [if_neg hik] at hb
      by_cases hjk : j = k
      · rw [if_pos hjk]
        exact key i hi hik hb
      · rw [if_neg hjk]
        exact h.ap i j hi hj hij b hb
  · by_cases hik : i = k
    · rw [if_pos hik]; exact hv2g
    · rw [if_neg hik]; exact h.ng i hi
  · by_cases hik : i = k
    · rw [if_pos hik] at hb; exact .inr hb
    · rw [if_neg hik] at hb; exact .inl (h.rowF i hi b hb)
  · have hsz : (w2.setCell ⟨g, k, none⟩ v2).heap.size = w2.heap.size := by simp
    rw [hsz]
    rcases hb with hb | hb
    · exact Nat.lt_of_lt_of_le (h.lt b hb) ht.size
    · exact (own_lt hrow hb).1
  · by_cases hik : i = k
    · simp only [PN.put, if_pos hik]; exact hok
    · simp only [PN.put, if_neg hik]; exact h.ok i hi
  · rcases hb with hb | hb
    · exact .inl hb
    · rcases hv b hb with e | e
      · exact .inl (h.rowF k hk b e)
      · exact .inr e
end

end Go.Proofs.Ytbffaaljommoeaa
