/-
  slices.Clone of certificates and of numbers.
-/
import Derived.Test.YtlblhpbhcaljhaaSl
import Derived.Test.YtlblhpbhcaljhaaYInsC
import Derived.Deep.AppendLies
namespace Go.Proofs.Ytlblhpbhcaljhaa
open Go.RowKit

theorem info_yint : (Try.prog.info? 3).map (fun i => (i.zero, i.size, i.bytes)) = some (some (.int .i64 0), 1, 8) := by kernel_rfl
/-- a list in memory is handed back as a new one -/
def ClonedY (e s : TypeId) (n : Nat) (xs : List Value) (w : World) (en : Ending) (w' : World) : Prop := ∃ o : Ad, en = .returned o.v ∧ o.n = n ∧ w'.ownsRow w.heap.size e s o.v n xs ∧ Below w.heap.size w w'

set_option maxRecDepth 100000 in
set_option maxHeartbeats 1000000 in
theorem cloneYC_any (a : Ad) (l : Nat) (xs : List Value) (w : World) (h : SlIn w a l xs) (hx : xs.length = l * 6) (h1 : ∀ u ∈ xs, u.oneCell' = true) (hn : l ≤ 1000000) :
    Calls Try.prog 81 #[a.v] w (ClonedY 45 6 l xs w) := by
  obtain ⟨A, n, c⟩ := a
  obtain ⟨hl, hc, hm, hr⟩ := h
  simp only at hl hc hm hr
  subst hl
  unfold Ad.v
  rcases A with _ | ⟨ab, ao, ap⟩
  · have hx0 : xs = [] := by
      rcases Nat.eq_zero_or_pos xs.length with h0 | h0
      · exact List.eq_nil_of_length_eq_zero h0
      · obtain ⟨b, off, he, _⟩ := hr.open_ h0
        cases he
    subst hx0
    obtain rfl : l = 0 := by simp at hx; omega
    have hnil : ∀ w : World, (binOp BinOp.eql 22 (.slice none 0 c) (.slice none 0 0)).run Try.prog w = .ok (.bool true) w := fun w => by kernel_rfl
    go_enter Try.func81, Try.ntmps81
    go_wp2
    go_ret
    exact ⟨noAd, rfl, rfl, World.ownsRow_nil _ _ _ _, Below.refl _ _⟩
  · obtain ⟨i0, hi0, hz0, hz1, hz2⟩ := info_parts info_zcert
    have HX := Lib.hid hx
    have HR := Lib.hid hr
    have H1 := Lib.hid h1
    have HA : ∀ j y, xs[j]? = some y → ∀ wX : World, Below w.heap.size w wX → wX.cell? ((⟨ab, ao, ap⟩ : Addr).add j) = some y := fun j y hj wX hb => by
      obtain ⟨b, off, he, hbl, hcell⟩ := hr.open_ (by have := (List.getElem?_eq_some_iff.1 hj).1; omega)
      cases he
      rw [Addr.add_lit]
      exact (hb.cell (p := ⟨ab, ao + j, none⟩) hbl).trans (hcell j y hj)
    have HC := Lib.hid HA
    clear HA hx hr h1
    have hsom : ∀ w : World, (binOp BinOp.eql 22 (.slice (some ⟨ab, ao, ap⟩) l c) (.slice none 0 0)).run Try.prog w = .ok (.bool false) w := fun w => by kernel_rfl
    go_enter Try.func81, Try.ntmps81
    have HN := ownS_new w w.heap.size 45 6 0 [] (by simp) (by simp [maxLen]) (Nat.le_refl _)
    have HO := Lib.hid HN
    clear HN
    go_wp2_with (at_builtin; refine wpList_append_own _ rfl _ _ 22 rfl w.heap.size 45 i0 _ 6 96 Try.underlying22 hi0 hz0 hz1 hz2 rfl (by decide) _ 0 [] rfl HO.out ⟨ab, ao, ap⟩ l c xs rfl HX.out (fun j y hj => HC.out j y hj _ ((Below.refl _ _).alloc (Nat.le_refl _) _)) H1.out (by unfold maxLen; omega) (by omega) (by simp) ?_)
    intro v' w' hown hg _
    have hb := belowS_own ((Below.refl w.heap.size w).alloc (Nat.le_refl _) _) HO.out hg (by simp)
    obtain ⟨A', c', rfl, _⟩ := ownS_slice hown
    go_wp2
    go_ret
    refine ⟨⟨A', l, c'⟩, by first | rfl | simp [Ad.v], rfl, ?_, hb⟩
    have := ownS_conv (ys := xs) (n' := l) hown (by simp) (by simp)
    first | exact this | simpa [Ad.v] using this

set_option maxRecDepth 100000 in
set_option maxHeartbeats 1000000 in
theorem cloneYN_any (a : Ad) (l : Nat) (xs : List Value) (w : World) (h : SlIn w a l xs) (hx : xs.length = l * 1) (h1 : ∀ u ∈ xs, u.oneCell' = true) (hn : l ≤ 1000000) :
    Calls Try.prog 82 #[a.v] w (ClonedY 3 1 l xs w) := by
  obtain ⟨A, n, c⟩ := a
  obtain ⟨hl, hc, hm, hr⟩ := h
  simp only at hl hc hm hr
  subst hl
  unfold Ad.v
  rcases A with _ | ⟨ab, ao, ap⟩
  · have hx0 : xs = [] := by
      rcases Nat.eq_zero_or_pos xs.length with h0 | h0
      · exact List.eq_nil_of_length_eq_zero h0
      · obtain ⟨b, off, he, _⟩ := hr.open_ h0
        cases he
    subst hx0
    obtain rfl : l = 0 := by simp at hx; omega
    have hnil : ∀ w : World, (binOp BinOp.eql 25 (.slice none 0 c) (.slice none 0 0)).run Try.prog w = .ok (.bool true) w := fun w => by kernel_rfl
    go_enter Try.func82, Try.ntmps82
    go_wp2
    go_ret
    exact ⟨noAd, rfl, rfl, World.ownsRow_nil _ _ _ _, Below.refl _ _⟩
  · obtain ⟨i0, hi0, hz0, hz1, hz2⟩ := info_parts info_yint
    have HX := Lib.hid hx
    have HR := Lib.hid hr
    have H1 := Lib.hid h1
    have HA : ∀ j y, xs[j]? = some y → ∀ wX : World, Below w.heap.size w wX → wX.cell? ((⟨ab, ao, ap⟩ : Addr).add j) = some y := fun j y hj wX hb => by
      obtain ⟨b, off, he, hbl, hcell⟩ := hr.open_ (by have := (List.getElem?_eq_some_iff.1 hj).1; omega)
      cases he
      rw [Addr.add_lit]
      exact (hb.cell (p := ⟨ab, ao + j, none⟩) hbl).trans (hcell j y hj)
    have HC := Lib.hid HA
    clear HA hx hr h1
    have hsom : ∀ w : World, (binOp BinOp.eql 25 (.slice (some ⟨ab, ao, ap⟩) l c) (.slice none 0 0)).run Try.prog w = .ok (.bool false) w := fun w => by kernel_rfl
    go_enter Try.func82, Try.ntmps82
    have HN := ownS_new w w.heap.size 3 1 0 [] (by simp) (by simp [maxLen]) (Nat.le_refl _)
    have HO := Lib.hid HN
    clear HN
    go_wp2_with (at_builtin; refine wpList_append_own _ rfl _ _ 25 rfl w.heap.size 3 i0 _ 1 8 Try.underlying25 hi0 hz0 hz1 hz2 rfl (by decide) _ 0 [] rfl HO.out ⟨ab, ao, ap⟩ l c xs rfl HX.out (fun j y hj => HC.out j y hj _ ((Below.refl _ _).alloc (Nat.le_refl _) _)) H1.out (by unfold maxLen; omega) (by omega) (by simp) ?_)
    intro v' w' hown hg _
    have hb := belowS_own ((Below.refl w.heap.size w).alloc (Nat.le_refl _) _) HO.out hg (by simp)
    obtain ⟨A', c', rfl, _⟩ := ownS_slice hown
    go_wp2
    go_ret
    refine ⟨⟨A', l, c'⟩, by first | rfl | simp [Ad.v], rfl, ?_, hb⟩
    have := ownS_conv (ys := xs) (n' := l) hown (by simp) (by simp)
    first | exact this | simpa [Ad.v] using this

end Go.Proofs.Ytlblhpbhcaljhaa
