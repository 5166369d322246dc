/-
  slices.Delete of one element of a row of files.
-/
import Derived.Test.YtejkeccoialogaaRows
import Derived.Test.YtejkeccoialogaaDSl
import Derived.WalkSpells
import Derived.WalkLawsBesides
import Derived.Deep.QuietTactic
import Derived.BigQuiet
import Derived.LoopTactic
import Derived.Outline
import Derived.Deep.RegionLaw
import Derived.StillTailTactics
namespace Go.Proofs.Ytejkeccoialogaa
open Go.RowKit

def zfile : Value := .agg #[.string ByteArray.empty, .slice none 0 0, .slice none 0 0, .int .i64 0]
theorem zfile_one : ∀ v ∈ zfile.cells.toList, v.oneCell' = true := by
  intro v hv
  simp [zfile, Value.cells] at hv
  rcases hv with rfl | rfl | rfl <;> rfl

/-- a row whose block is known whole -/
theorem row_open {w : World} {B g n cap s : Nat} {e : TypeId} {xs : List Value} (h : w.ownsRow B e s (.slice (some ⟨g, 0, none⟩) n cap) n xs) :
    ∃ cur : Array Value, w.heap[g]? = some (.cells cur e (0, 0)) ∧ B ≤ g ∧ n ≤ cap ∧ cap ≤ maxLen ∧ cur.size = cap * s ∧ cur.toList.take (n * s) = xs := by
  rcases h.2 with ⟨hv, _⟩ | ⟨g', cap', cur, hv, hb, hg, h1, h2, h3, h4⟩
  · cases hv
  · cases hv
    exact ⟨cur, hg, hb, h1, h2, h3, h4⟩
theorem row_shut {w : World} {B g n cap s : Nat} {e : TypeId} {xs : List Value} {cur : Array Value} (hg : w.heap[g]? = some (.cells cur e (0, 0))) (hb : B ≤ g) (hn : n ≤ cap) (hm : cap ≤ maxLen) (hs : cur.size = cap * s) (hx : cur.toList.take (n * s) = xs) :
    w.ownsRow B e s (.slice (some ⟨g, 0, none⟩) n cap) n xs :=
  ⟨by rw [← hx, List.length_take, Array.length_toList, hs]; exact Nat.min_eq_left (Nat.mul_le_mul_right _ hn), .inr ⟨g, cap, cur, rfl, hb, hg, hn, hm, hs, hx⟩⟩

theorem cells_part {w : World} {g : Nat} {cur : Array Value} {t : TypeId} (hg : w.heap[g]? = some (.cells cur t (0, 0))) (o k : Nat) : ∀ j v, ((cur.toList.drop o).take k)[j]? = some v → w.cell? ((⟨g, o, none⟩ : Addr).add j) = some v := by
  intro j v hv
  rw [Addr.add_lit, cell_of_row w g (o + j) cur t (0, 0) hg]
  rw [List.getElem?_take] at hv
  split at hv
  · rw [List.getElem?_drop] at hv
    simpa using hv
  · cases hv

end Go.Proofs.Ytejkeccoialogaa
