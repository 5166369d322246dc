/-
  append of one element of several cells, as an equation, and where the row lies then. Of no program.
-/
import Derived.Test.YtbffaaljommoeaaMemBigStep
import Derived.Deep.AppendLies
import Derived.Laws.CopyRow
namespace Go.Proofs.Ytbffaaljommoeaa
open Go.RowKit

/-- append of an element of several cells, and where the row lies then -/
theorem run_app_elem {P : Program} (w : World) (t ty : TypeId) (B : Nat) (e : TypeId) (z : Value) (sz bytes : Nat) (ht : P.underlying t = some (.slice e)) (hinfo : (P.info? e).map (fun i => (i.zero, i.size, i.bytes)) = some (some z, sz, bytes)) (hzs : z.cells.size = sz) (hsz : 0 < sz) (hby : bytes ≤ 512)
    (v : Value) (n : Nat) (xs : List Value) (hown : w.ownsRow B e sz v n xs) (g : Nat) (us : List Value) (hu : us.length = sz) (hg : w.heap[g]? = some (.cells us.toArray e (0, 0))) (h1 : ∀ u ∈ us, u.oneCell' = true) (hn : n + 1 ≤ 1000000) (hB : B ≤ w.heap.size) :
    ∃ A' c' w', (Builtin.append_ #[t, t] ty #[v, .slice (some ⟨g, 0, none⟩) 1 1]).run P w = .ok (.slice A' (n + 1) c') w' ∧ w'.ownsRow B e sz (.slice A' (n + 1) c') (n + 1) (xs ++ us) ∧ w.grownBy w' v.ownBlock ∧ ((Value.slice A' (n + 1) c').ownBlock = v.ownBlock ∨ (Value.slice A' (n + 1) c').ownBlock = some w.heap.size) := by
  obtain ⟨i, hi, hz, hsize, hbytes⟩ := info_parts hinfo
  obtain ⟨v', w', hrun, h2, h3, _, h5⟩ := run_append_own_at (P := P) w B t ty e i z sz bytes ht hi hz hsize hbytes hzs hsz v n xs hown ⟨g, 0, none⟩ 1 1 us (by omega) (fun j y hj => by
    rw [Addr.add_lit, cell_of_row w g _ _ _ _ hg]
    simpa using hj) h1 (by unfold maxLen; omega) (by have := Nat.mul_le_mul hn hby; omega) hB
  obtain ⟨A', c', rfl, _⟩ := ownS_slice h2
  exact ⟨A', c', w', hrun, h2, h3, h5⟩

end Go.Proofs.Ytbffaaljommoeaa
