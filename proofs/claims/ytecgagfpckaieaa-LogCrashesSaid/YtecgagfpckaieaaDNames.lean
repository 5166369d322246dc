/-
  Whether any text is a file's name is the page's, by each call that takes one: the walk.
-/
import Derived.Test.YtecgagfpckaieaaDName
namespace Go.Proofs.Ytecgagfpckaieaa
open Go.RowKit

theorem one_at (f : PF) (c l : Nat) (o : Bool) : (⟨[f], c, l, o⟩ : PD).fileAt f.nm = some f ∧ (⟨[f], c, l, o⟩ : PD).pos f.nm = 0 ∧ (⟨[f], c, l, o⟩ : PD).has f.nm = true := by
  have hp : posN [f.nm] f.nm = 0 := by simp [posN, ltN_irrefl]
  have hh : hasN [f.nm] f.nm = true := by simp [hasN, hp]
  refine ⟨?_, hp, hh⟩
  show (if hasN [f.nm] f.nm = true then [f][posN [f.nm] f.nm]? else none) = some f
  rw [if_pos hh, hp]
  rfl
theorem app_new {s : ByteArray} (h : okName s = true) (b : List Int) (hb : b.length ≤ 1048576) : dAppend (dNew []) s b = (⟨[⟨s, b, []⟩], 1, 0, false⟩, 0) := by
  rw [dAppend, if_neg (by rw [h]; decide), if_neg (by decide), if_neg (by show ¬ 1048576 < b.length + 0; omega)]
  rfl
theorem app_no {D : PD} {s : ByteArray} (h : okName s = false) (b : List Int) : dAppend D s b = (D, 1) := by rw [dAppend, if_pos h]
theorem sync_one {f : PF} {c : Nat} (h : okName f.nm = true) : dSync ⟨[f], c, 0, false⟩ f.nm = (⟨[⟨f.nm, f.vis, f.vis⟩], c + 1, 0, false⟩, 0) := by
  rw [dSync, dOpen_yes h (by rfl) (one_at f c 0 false).1, (one_at f c 0 false).2.1]
  rfl
theorem mayB_one (s : ByteArray) : mayB [(s, [])] = okName s := by
  cases h : okName s with
  | true =>
    refine mayB_yes (by simp) fun i hi => ?_
    have : i = 0 := by simpa using hi
    subst this
    simp [okAt, h]
  | false => exact mayB_no (i := 0) (by simp) (by simp [okAt, h])
theorem name_max {s : ByteArray} (h : s.size ≤ 140737488351232) : s.size ≤ maxLen := by unfold maxLen; omega

end Go.Proofs.Ytecgagfpckaieaa
