/-
  What 'NetKeeps' puts in, plainly; and how often each has been seen, in memory.
-/
import Derived.Test.YtbffaaljommoeaaNLiveG
namespace Go.Proofs.Ytbffaaljommoeaa
open Go.RowKit

def bsN (L : List ActN) (i : Nat) : List Int := ((L[i]?).map ActN.bs).getD []
def mN (L : List ActN) (i : Nat) : List Int := (i : Int) :: bsN L i
/-- the net: one way's messages by their numbers, the other one's as they are -/
def net2 (L : List ActN) (P : List Nat) (Q : List (List Int)) : PN := (nNone.put 1 (P.map (mN L))).put 16 Q
def oneN (i : Nat) : List Int := [(i : Int)]

theorem bsN_at {L : List ActN} {i : Nat} {a : ActN} (h : L[i]? = some a) : bsN L i = a.bs := by rw [bsN, h]; rfl
section
variable {L : List ActN} {P P' : List Nat} {Q Q' : List (List Int)}
theorem net2_none : net2 L [] [] = nNone := by
  funext j
  simp only [net2, PN.put, List.map_nil]
  split
  · rfl
  · split <;> rfl
theorem net2_1 : net2 L P Q 1 = P.map (mN L) := by simp [net2, PN.put]
theorem net2_16 : net2 L P Q 16 = Q := by simp [net2, PN.put]
theorem net2_put1 : (net2 L P Q).put 1 (P'.map (mN L)) = net2 L P' Q := by
  funext j
  simp only [net2, PN.put]
  by_cases h1 : j = 1
  · subst h1
    simp
  · by_cases h2 : j = 16
    · subst h2
      simp
    · simp [h1, h2]
theorem net2_put16 : (net2 L P Q).put 16 Q' = net2 L P Q' := by
  funext j
  simp only [net2, PN.put]
  by_cases h2 : j = 16
  · subst h2
    simp
  · simp [h2]
theorem way12 : wayN 1 2 = 1 := rfl
theorem way21 : wayN 2 1 = 16 := rfl
theorem both12 : bothN 1 2 = true := rfl
theorem both21 : bothN 2 1 = true := rfl
theorem net2_at12 : (net2 L P Q).at_ 1 2 = P.map (mN L) := by rw [at_yes both12, way12, net2_1]
theorem net2_at21 : (net2 L P Q).at_ 2 1 = Q := by rw [at_yes both21, way21, net2_16]
theorem net2_puts (k : Nat) (h : P.length < 1024) : nPut (net2 L P Q) 1 2 (mN L k) = (net2 L (P ++ [k]) Q, 0) := by
  rw [nPut, if_neg (by rw [both12]; decide), way12, net2_1, if_neg (by simp; omega)]
  rw [show P.map (mN L) ++ [mN L k] = (P ++ [k]).map (mN L) by simp, net2_put1]
theorem net2_puts2 (b : List Int) (h : Q.length < 1024) : nPut (net2 L P Q) 2 1 b = (net2 L P (Q ++ [b]), 0) := by
  rw [nPut, if_neg (by rw [both21]; decide), way21, net2_16, if_neg (by omega), net2_put16]
theorem net2_double {k : Nat} (h : P[0]? = some k) (hl : P.length < 1024) : nDouble (net2 L P Q) 1 2 0 = (net2 L (P ++ [k]) Q, 0) := by
  have h0 := (List.getElem?_eq_some_iff.1 h).1
  have hm : msgN (net2 L P Q) 1 2 0 = mN L k := by rw [msgN, net2_at12, show (0 : Int).toNat = 0 from rfl, List.getElem?_map, h]; rfl
  rw [nDouble, if_neg ?_, hm, way12, net2_1, if_neg (by simp; omega), show P.map (mN L) ++ [mN L k] = (P ++ [k]).map (mN L) by simp, net2_put1]
  rw [Bool.not_eq_false, hasK_iff, net2_at12]
  simp
  omega
theorem net2_del (j : Nat) : (net2 L P Q).put (wayN 1 2) (delN (net2 L P Q (wayN 1 2)) j) = net2 L (P.take j ++ P.drop (j + 1)) Q := by
  rw [way12, net2_1, delN, ← List.map_take, ← List.map_drop, ← List.map_append, net2_put1]
theorem net2_msg {j p : Nat} (h : P[j]? = some p) : (net2 L P Q (wayN 1 2))[j]? = some (mN L p) := by rw [way12, net2_1, List.getElem?_map, h]; rfl
theorem net2_del2 {b : List Int} : (net2 L P (b :: Q)).put (wayN 2 1) (delN (net2 L P (b :: Q) (wayN 2 1)) 0) = net2 L P Q := by
  rw [way21, net2_16, delN, List.take_zero, List.nil_append]
  exact net2_put16
theorem net2_msg2 {b : List Int} : (net2 L P (b :: Q) (wayN 2 1))[0]? = some b := by rw [way21, net2_16]; rfl
theorem net2_no : hasK (net2 L [] Q) 1 2 0 = false := by
  cases h : hasK (net2 L [] Q) 1 2 0 with
  | false => rfl
  | true => rw [hasK_iff, net2_at12] at h; simp at h
end

theorem remN {k d r : Nat} (h : k % d = r) (hr : k ≤ 1000000) : (k : Int).tmod (d : Int) = (r : Int) ∧ wrap64 ((k : Int).tmod (d : Int)) = (r : Int) ∧ IntKind.i64.wrap ((k : Int).tmod (d : Int)) = (r : Int) := by
  have e : (k : Int).tmod (d : Int) = (r : Int) := by
    rw [Int.tmod_eq_emod_of_nonneg (by omega)]
    rw [← h]
    simp
  have hle : r ≤ k := by rw [← h]; exact Nat.mod_le _ _
  rw [e]
  exact ⟨rfl, IntWalk.wrap64_in _ (by omega), IntWalk.i64_in _ (by omega)⟩
def snN (k : Nat) : List (List Int) := (List.range k).map oneN
theorem snN_length (k : Nat) : (snN k).length = k := by simp [snN]
theorem snN_next (k : Nat) : snN (k + 1) = snN k ++ [oneN k] := by simp [snN, List.range_succ]
theorem range_zero {m : Nat} (h : 0 < m) : (List.range m)[0]? = some 0 := by simp [h]

/-- how often each should be seen -/
def wantN (i : Nat) : Nat := if i = 0 then 2 else 1
/-- how often each of the first n has been seen, what is still to come counted in -/
def SeenOk (n : Nat) (s : Nat → Nat) (P : List Nat) : Prop := (∀ i, i < n → s i + P.count i = wantN i) ∧ ∀ p ∈ P, p < n
def upS (s : Nat → Nat) (p : Nat) : Nat → Nat := fun i => if i = p then s i + 1 else s i
theorem count_range (n i : Nat) (h : i < n) : (List.range n).count i = 1 := by
  induction n with
  | zero => omega
  | succ n ih =>
    rw [List.range_succ, List.count_append]
    by_cases e : i = n
    · subst e
      have : (List.range i).count i = 0 := List.count_eq_zero.2 (by simp)
      rw [this]
      simp
    · rw [ih (by omega)]
      have : List.count i [n] = 0 := List.count_eq_zero.2 (by simp; exact e)
      rw [this]
theorem seen_start {n : Nat} (h : 0 < n) : SeenOk n (fun _ => 0) (List.range n ++ [0]) := by
  refine ⟨fun i hi => ?_, fun p hp => ?_⟩
  · rw [List.count_append, count_range n i hi, wantN]
    by_cases e : i = 0
    · subst e; rfl
    · rw [if_neg e]
      have : List.count i [0] = 0 := List.count_eq_zero.2 (by simp; exact e)
      rw [this]
  · rcases List.mem_append.1 hp with h' | h'
    · simpa using h'
    · simp at h'; omega
theorem seen_next {n j p : Nat} {s : Nat → Nat} {P : List Nat} (h : SeenOk n s P) (hp : P[j]? = some p) : SeenOk n (upS s p) (P.take j ++ P.drop (j + 1)) := by
  have hj := (List.getElem?_eq_some_iff.1 hp).1
  have e : P = P.take j ++ p :: P.drop (j + 1) := by
    have h1 := List.take_append_drop j P
    rw [List.drop_eq_getElem_cons hj, (List.getElem?_eq_some_iff.1 hp).2] at h1
    exact h1.symm
  refine ⟨fun i hi => ?_, fun q hq => h.2 q ?_⟩
  · have h1 := h.1 i hi
    rw [e, List.count_append, List.count_cons] at h1
    rw [List.count_append, upS]
    by_cases hip : i = p
    · subst hip
      simp only [beq_self_eq_true, if_true] at h1 ⊢
      omega
    · rw [if_neg hip]
      rw [if_neg (by simp; exact fun h => hip h.symm)] at h1
      omega
  · rcases List.mem_append.1 hq with h' | h'
    · exact List.mem_of_mem_take h'
    · exact List.mem_of_mem_drop h'

/-- the counters, as they lie -/
structure SeenIn (w : World) (g : Nat) (s : Nat → Nat) : Prop where
  cell : ∀ i, i < 40 → w.cell? ⟨g, i, none⟩ = some (.int .i64 (s i : Nat))
  thaw : ∀ o, w.frozen? ⟨g, o, none⟩ = false
  lt : g < w.heap.size
theorem SeenIn.touch {w w' : World} {g : Nat} {s : Nat → Nat} {T : Nat → Prop} (h : SeenIn w g s) (ht : Touch T w w') (hn : ¬ T g) : SeenIn w' g s :=
  ⟨fun i hi => (ht.cell h.lt hn).trans (h.cell i hi), fun o => (ht.frozen h.lt hn).trans (h.thaw o), Nat.lt_of_lt_of_le h.lt ht.size⟩
theorem SeenIn.below {w w' : World} {g : Nat} {s : Nat → Nat} (h : SeenIn w g s) (hb : Below w.heap.size w w') : SeenIn w' g s := h.touch (Touch.of hb : Touch (fun _ => False) w w') id
theorem SeenIn.up {w : World} {g p : Nat} {s : Nat → Nat} (h : SeenIn w g s) (hp : p < 40) : SeenIn (w.setCell ⟨g, p, none⟩ (.int .i64 ((s p + 1 : Nat) : Int))) g (upS s p) where
  cell := fun i hi => by
    by_cases e : i = p
    · subst e
      simp only [upS, if_true]
      exact World.cell?_setCell_same _ _ _ (h.cell i hi)
    · simp only [upS, if_neg e]
      exact (World.cell?_setCell_other _ _ _ _ (fun e' => e (congrArg Addr.off e').symm)).trans (h.cell i hi)
  thaw := fun o => by rw [World.frozen?_setCell]; exact h.thaw o
  lt := by simpa using h.lt
def seenZ : Array Value := Array.replicate 40 (.int .i64 0)
theorem seen_zero (w : World) : (zeroValue 49).run Try.prog w = .ok (.agg seenZ) w := by kernel_rfl
theorem seen_new (w : World) (t : TypeId) : SeenIn (w.alloc (.cells seenZ t)) w.heap.size (fun _ => 0) where
  cell := fun i hi => by
    have hb : (w.alloc (.cells seenZ t)).heap[w.heap.size]? = some (.cells seenZ t) := heap_alloc_new w _
    rw [cell_of_row _ _ _ _ _ _ hb]
    simp [seenZ, hi]
  thaw := fun o => by rw [World.frozen?, heap_alloc_new]; simp
  lt := by simp
theorem seen_of {w w2 : World} {t : TypeId} {cs : Array Value} {g : Nat} (h : w.alloc (.cells cs t) = w2) (hc : cs = seenZ) (hg : g = w.heap.size) : SeenIn w2 g (fun _ => 0) := by
  subst hc hg
  rw [← h]
  exact seen_new w t

end Go.Proofs.Ytbffaaljommoeaa
