/-
  Transactions as cells. Of no program.
-/
import Derived.Test.YtkkamcdilpcehaaMemBig
namespace Go.Proofs.Ytkkamcdilpcehaa
open Go.RowKit

/-- a transaction -/
structure TxD where
  s : Int
  q : Int
  k : ByteArray
  v : ByteArray
deriving DecidableEq

def TxD.cells (t : TxD) : List Value := [.int .i64 t.s, .int .i64 t.q, .string t.k, .string t.v]
def TxD.val (t : TxD) : Value := .agg #[.int .i64 t.s, .int .i64 t.q, .string t.k, .string t.v]
def txs (L : List TxD) : List Value := L.flatMap TxD.cells
theorem txs_length (L : List TxD) : (txs L).length = L.length * 4 := by
  induction L with
  | nil => rfl
  | cons t L ih =>
    have : txs (t :: L) = t.cells ++ txs L := rfl
    rw [this, List.length_append, ih]
    simp [TxD.cells]; omega
theorem txs_append (a b : List TxD) : txs (a ++ b) = txs a ++ txs b := by simp [txs]
theorem txs_single (t : TxD) : txs [t] = t.cells := by simp [txs]
theorem txs_one (L : List TxD) : ∀ u ∈ txs L, u.oneCell' = true := fun u hu => by
  obtain ⟨t, _, h⟩ := List.mem_flatMap.1 hu
  simp only [TxD.cells, List.mem_cons, List.not_mem_nil, or_false] at h
  rcases h with rfl | rfl | rfl | rfl <;> rfl
theorem cells_one (t : TxD) : ∀ u ∈ t.cells, u.oneCell' = true := fun u hu => txs_one [t] u (by rwa [txs_single])
theorem txs_at {L : List TxD} : ∀ {i : Nat} {t : TxD}, L[i]? = some t →
    (txs L)[i * 4]? = some (.int .i64 t.s) ∧ (txs L)[i * 4 + 1]? = some (.int .i64 t.q) ∧ (txs L)[i * 4 + 2]? = some (.string t.k) ∧ (txs L)[i * 4 + 3]? = some (.string t.v) := by
  induction L with
  | nil => intro i t h; simp at h
  | cons x L ih =>
    intro i t h
    have e : txs (x :: L) = [.int .i64 x.s, .int .i64 x.q, .string x.k, .string x.v] ++ txs L := rfl
    cases i with
    | zero =>
      simp only [List.getElem?_cons_zero, Option.some.injEq] at h
      subst h
      rw [e]
      exact ⟨rfl, rfl, rfl, rfl⟩
    | succ i =>
      simp only [List.getElem?_cons_succ] at h
      obtain ⟨h0, h1, h2, h3⟩ := ih h
      rw [e]
      have k : ∀ j, ([Value.int .i64 x.s, .int .i64 x.q, .string x.k, .string x.v] ++ txs L)[(i + 1) * 4 + j]? = (txs L)[i * 4 + j]? := fun j => by
        rw [List.getElem?_append_right (by simp; omega)]
        congr 1
        simp; omega
      exact ⟨(k 0).trans h0, (k 1).trans h1, (k 2).trans h2, (k 3).trans h3⟩
theorem txD_at {L : List TxD} {i : Nat} (h : i < L.length) : ∃ t, L[i]? = some t := ⟨L[i], by simp [h]⟩

/-- the cells of the element at an index -/
theorem Rd.tx {w : World} {A : Option Addr} {L : List TxD} (h : Rd w A (txs L)) {i : Nat} (hi : i < L.length) : ∃ b off t, A = some ⟨b, off, none⟩ ∧ b < w.heap.size ∧ L[i]? = some t ∧
    w.cell? ⟨b, off + i * 4, none⟩ = some (.int .i64 t.s) ∧ w.cell? ⟨b, off + i * 4 + 1, none⟩ = some (.int .i64 t.q) ∧ w.cell? ⟨b, off + i * 4 + 2, none⟩ = some (.string t.k) ∧ w.cell? ⟨b, off + i * 4 + 3, none⟩ = some (.string t.v) := by
  obtain ⟨b, off, rfl, hb, hc⟩ := h.open_ (by rw [txs_length]; omega)
  obtain ⟨t, ht⟩ := txD_at hi
  obtain ⟨h0, h1, h2, h3⟩ := txs_at ht
  exact ⟨b, off, t, rfl, hb, ht, hc _ _ h0, hc _ _ h1, hc _ _ h2, hc _ _ h3⟩

end Go.Proofs.Ytkkamcdilpcehaa
