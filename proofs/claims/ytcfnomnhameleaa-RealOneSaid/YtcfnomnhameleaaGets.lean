/-
  The walks of package wire that read lists.
-/
import Derived.Test.YtcfnomnhameleaaLists
namespace Go.Proofs.Ytcfnomnhameleaa
open Go.RowKit

/-! ### on lists -/
theorem rdNums_long {c : Nat} {b : List Int} (hb : Byts b) (h : b.length < c) : rdNums c b = none := by
  cases hr : rdNums c b with
  | none => rfl
  | some q =>
    obtain ⟨l, r⟩ := q
    have := (rdNums_get c b l r hb hr).2.2.1
    omega
theorem rdPuts_over {c : Nat} {b : List Int} (hb : Byts b) (h : b.length < c) : rdPuts c b = none := by
  cases hr : rdPuts c b with
  | none => rfl
  | some q =>
    obtain ⟨l, r⟩ := q
    have := (rdPuts_get c b l r hb hr).2.2.1
    omega
/-- what is left to be read, behind what has been read -/
def leftN (L : List Nat) (c : Nat) (b : List Int) : Option (List Nat) := (rdNums c b).bind fun q => if q.2 = [] then some (L ++ q.1) else none
def leftT (L : List (List Int)) (c : Nat) (b : List Int) : Option (List (List Int)) := (rdPuts c b).bind fun q => if q.2 = [] then some (L ++ q.1) else none
theorem leftN_start {zs : List Int} {m k : Nat} (h : gn 0 0 zs = some (m, k)) : getNums zs = leftN [] m (zs.drop k) := by
  unfold getNums leftN; rw [h]; simp
theorem leftT_start {zs : List Int} {m k : Nat} (h : gn 0 0 zs = some (m, k)) : getPuts zs = leftT [] m (zs.drop k) := by
  unfold getPuts leftT; rw [h]; simp
theorem getNums_none {zs : List Int} (h : gn 0 0 zs = none) : getNums zs = none := by unfold getNums; rw [h]; rfl
theorem getPuts_none {zs : List Int} (h : gn 0 0 zs = none) : getPuts zs = none := by unfold getPuts; rw [h]; rfl
theorem leftN_end (L : List Nat) (b : List Int) : leftN L 0 b = if b = [] then some L else none := by simp [leftN, rdNums]
theorem leftT_end (L : List (List Int)) (b : List Int) : leftT L 0 b = if b = [] then some L else none := by simp [leftT, rdPuts]
theorem leftN_none {L : List Nat} {c : Nat} {b : List Int} (h : gn 0 0 b = none) : leftN L (c + 1) b = none := by unfold leftN; rw [rdNums_none h]; rfl
theorem leftT_none {L : List (List Int)} {c : Nat} {b : List Int} (h : gn 0 0 b = none) : leftT L (c + 1) b = none := by unfold leftT; rw [rdPuts_none h]; rfl
theorem leftT_long {L : List (List Int)} {c m k : Nat} {b : List Int} (h : gn 0 0 b = some (m, k)) (hl : b.length - k < m) : leftT L (c + 1) b = none := by unfold leftT; rw [rdPuts_long h hl]; rfl
theorem leftN_some {L : List Nat} {c m k : Nat} {b : List Int} (h : gn 0 0 b = some (m, k)) : leftN L (c + 1) b = leftN (L ++ [m]) c (b.drop k) := by
  unfold leftN; rw [rdNums_some h]
  cases rdNums c (b.drop k) <;> simp
theorem leftT_some {L : List (List Int)} {c m k : Nat} {b : List Int} (h : gn 0 0 b = some (m, k)) (hl : m ≤ b.length - k) : leftT L (c + 1) b = leftT (L ++ [(b.drop k).take m]) c (b.drop (k + m)) := by
  unfold leftT; rw [rdPuts_some h hl]
  cases rdPuts c (b.drop (k + m)) <;> simp
theorem leftN_over {L : List Nat} {c : Nat} {b : List Int} (hb : Byts b) (h : b.length < c) : leftN L c b = none := by unfold leftN; rw [rdNums_long hb h]; rfl
theorem leftT_over {L : List (List Int)} {c : Nat} {b : List Int} (hb : Byts b) (h : b.length < c) : leftT L c b = none := by unfold leftT; rw [rdPuts_over hb h]; rfl

/-- the list that a text of bytes is, and back -/
theorem byt_of {xs : List Int} (h : Byts xs) : byt (strOfNums xs) = xs := by
  unfold byt
  rw [strOfNums_data, List.map_map]
  conv => rhs; rw [← List.map_id xs]
  apply List.map_congr_left
  intro x hx
  have := h x hx
  unfold Byt at this
  simp only [Function.comp, id]
  rw [UInt8.toNat_ofNat']
  omega
theorem strOfNums_byt (s : ByteArray) : strOfNums (byt s) = s := by
  apply byt_inj
  exact byt_of (by
    intro x hx
    unfold byt at hx
    obtain ⟨b, _, rfl⟩ := List.mem_map.1 hx
    have := UInt8.toNat_lt b
    exact ⟨by omega, by omega⟩)
theorem byt_byts (s : ByteArray) : Byts (byt s) := by
  intro x hx
  unfold byt at hx
  obtain ⟨b, _, rfl⟩ := List.mem_map.1 hx
  have := UInt8.toNat_lt b
  exact ⟨by omega, by omega⟩

/-! ### getCount -/
/-- the count that bytes begin with, if there may be so many elements -/
def gc (zs : List Int) : Option (Nat × Nat) := (gn 0 0 zs).bind fun p => if zs.length - p.2 < p.1 then none else some p
theorem gc_some {zs : List Int} {m k : Nat} (hb : Byts zs) (h : gc zs = some (m, k)) : gn 0 0 zs = some (m, k) ∧ m ≤ zs.length - k ∧ k ≤ zs.length := by
  unfold gc at h
  cases hg : gn 0 0 zs with
  | none => rw [hg] at h; cases h
  | some p =>
    obtain ⟨m', k'⟩ := p
    rw [hg] at h
    simp only [Option.bind_some] at h
    split at h
    · cases h
    · simp only [Option.some.injEq, Prod.mk.injEq] at h
      obtain ⟨rfl, rfl⟩ := h
      obtain ⟨_, _, _, _, _, hk, _⟩ := put_get hb hg
      exact ⟨rfl, by omega, hk⟩
theorem gc_none_nums {zs : List Int} (hb : Byts zs) (h : gc zs = none) : getNums zs = none ∧ getPuts zs = none := by
  unfold gc at h
  cases hg : gn 0 0 zs with
  | none => exact ⟨getNums_none hg, getPuts_none hg⟩
  | some p =>
    obtain ⟨m, k⟩ := p
    rw [hg] at h
    simp only [Option.bind_some] at h
    split at h
    · rw [leftN_start hg, leftT_start hg]
      exact ⟨leftN_over (hb.drop k) (by simp; omega), leftT_over (hb.drop k) (by simp; omega)⟩
    · cases h

/-! ### GetNums, Get -/
/-- a list that was read, or none -/
def Got (B : Nat) (e : TypeId) (w : World) (r : Option (List Value)) (en : Ending) (w' : World) : Prop :=
  match r with
  | some xs => Made2 B e w xs (.int .i64 0) en w'
  | none => en = .returned (.tuple #[.slice none 0 0, .int .i64 1]) ∧ Below B w w'
theorem got_some {B : Nat} {e : TypeId} {w w' : World} {r : Option (List Value)} {xs : List Value} {en : Ending} (h : r = some xs) (k : Made2 B e w xs (.int .i64 0) en w') : Got B e w r en w' := by rw [h]; exact k
theorem got_none {B : Nat} {e : TypeId} {w w' : World} {r : Option (List Value)} {en : Ending} (h : r = none) (k : en = .returned (.tuple #[.slice none 0 0, .int .i64 1])) (hb : Below B w w') : Got B e w r en w' := by rw [h]; exact ⟨k, hb⟩

/-- what holds at the label -/
def Wrong47 (p : Prop) (w : World) (a' : Act) (w' : World) : Prop :=
  p ∧ Below w.heap.size w w' ∧ ∃ u0 u1 u2 u3 u4 u5 u6 u7 u8 u9 u10 u11 u12 u13 u14 u15 u16 u17 u18 u19 u20 u21 u22 u23 u24 u25 u26 u27 u28 u29 u30 u31 u32 u33 u34 u35 u36 u37 u38 u39 u40 u41 u42 u43 u44 u45 u46 : Value, a' = { tmps := #[u0, u1, u2, u3, u4, u5, u6, u7, u8, u9, u10, u11, u12, u13, u14, u15, u16, u17, u18, u19, u20, u21, u22, u23, u24, u25, u26, u27, u28, u29, u30, u31, u32, u33, u34, u35, u36, u37, u38, u39, u40, u41, u42, u43, u44, u45, u46], defers := [] }
def Wrong64 (p : Prop) (w : World) (a' : Act) (w' : World) : Prop :=
  p ∧ Below w.heap.size w w' ∧ ∃ u0 u1 u2 u3 u4 u5 u6 u7 u8 u9 u10 u11 u12 u13 u14 u15 u16 u17 u18 u19 u20 u21 u22 u23 u24 u25 u26 u27 u28 u29 u30 u31 u32 u33 u34 u35 u36 u37 u38 u39 u40 u41 u42 u43 u44 u45 u46 u47 u48 u49 u50 u51 u52 u53 u54 u55 u56 u57 u58 u59 u60 u61 u62 u63 : Value, a' = { tmps := #[u0, u1, u2, u3, u4, u5, u6, u7, u8, u9, u10, u11, u12, u13, u14, u15, u16, u17, u18, u19, u20, u21, u22, u23, u24, u25, u26, u27, u28, u29, u30, u31, u32, u33, u34, u35, u36, u37, u38, u39, u40, u41, u42, u43, u44, u45, u46, u47, u48, u49, u50, u51, u52, u53, u54, u55, u56, u57, u58, u59, u60, u61, u62, u63], defers := [] }

/-- numbers that were read -/
def numsOf (r : Option (List Nat)) : Option (List Value) := r.map fun l => i64s (nats l)
def textsOf (r : Option (List (List Int))) : Option (List Value) := r.map fun l => strs (l.map strOfNums)

end Go.Proofs.Ytcfnomnhameleaa
