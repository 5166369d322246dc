/-
  Numbers as texts, and texts as numbers, on plain lists. Of no program.
-/
import Derived.Test.YtejkeccoialogaaWords
namespace Go.Proofs.Ytejkeccoialogaa
open Go.RowKit

/-- the text of a number's bytes -/
def numT (n : Int) : ByteArray := strOfNums (vnum n.toNat)
/-- the number that a text is, if it is one -/
def wholeN (s : ByteArray) : Option Nat := (gn 0 0 (byt s)).bind fun p => if p.2 = s.size then some p.1 else none
theorem byt_numT (n : Int) : byt (numT n) = vnum n.toNat := byt_of (vnum_byts _)
theorem numT_size (n : Int) : (numT n).size = (vnum n.toNat).length := by rw [← byt_length, byt_numT]
theorem whole_num {n : Int} (h0 : 0 ≤ n) (h : n < 9223372036854775808) : wholeN (numT n) = some n.toNat := by
  have := get_put (n := n.toNat) (by omega) []
  rw [List.append_nil] at this
  unfold wholeN
  rw [byt_numT, this, numT_size]
  simp
theorem num_whole {s : ByteArray} {m : Nat} (h : wholeN s = some m) : s = numT m ∧ m < 9223372036854775808 := by
  unfold wholeN at h
  cases hg : gn 0 0 (byt s) with
  | none => rw [hg] at h; simp at h
  | some p =>
    obtain ⟨m', k⟩ := p
    rw [hg] at h
    simp only [Option.bind_some] at h
    split at h
    · rename_i hk
      simp only [Option.some.injEq] at h
      subst h
      obtain ⟨r, h1, h2, h3, _⟩ := put_get (byt_byts s) hg
      have hl := congrArg List.length h1
      rw [byt_length, List.length_append, ← h2] at hl
      have hr : r = [] := List.eq_nil_of_length_eq_zero (by omega)
      subst hr
      rw [List.append_nil] at h1
      refine ⟨byt_inj (by rw [byt_numT, Int.toNat_natCast]; exact h1), h3⟩
    · simp at h
theorem numT_inj {m n : Int} (h0 : 0 ≤ m) (h1 : m < 9223372036854775808) (h2 : 0 ≤ n) (h3 : n < 9223372036854775808) (h : numT m = numT n) : m = n := by
  have a := whole_num h0 h1
  rw [h, whole_num h2 h3, Option.some.injEq] at a
  omega

theorem getPuts_byts {x : List Int} {l : List (List Int)} (hx : Byts x) (h : getPuts x = some l) : ∀ s ∈ l, Byts s := fun s hs c hc => by
  refine hx c ?_
  rw [getPuts_get hx h, putPuts]
  refine List.mem_append_right _ (List.mem_flatMap.2 ⟨s, hs, List.mem_append_right _ hc⟩)
theorem map_strs (l : List ByteArray) : (l.map byt).map strOfNums = l := by
  rw [List.map_map]
  conv => rhs; rw [← List.map_id l]
  exact List.map_congr_left fun t _ => by simp only [Function.comp, id]; exact strOfNums_byt t

end Go.Proofs.Ytejkeccoialogaa
