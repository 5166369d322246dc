/-
  The contracts of package net in one line each: a net that lives above B.
-/
import Derived.Test.YtbffaaljommoeaaNScr
namespace Go.Proofs.Ytbffaaljommoeaa
open Go.RowKit

def LiveN (B g : Nat) (L : PN) (w : World) : Prop := ∃ F : Nat → Prop, IsNet w g F L ∧ (∀ k, F k → B ≤ k) ∧ B ≤ w.heap.size

section
variable {B g : Nat} {L L' : PN} {w w' : World} {F : Nat → Prop}
theorem LiveN.below (h : LiveN B g L w) (hb : Below w.heap.size w w') : LiveN B g L w' := by
  obtain ⟨F, h1, h2, h3⟩ := h
  exact ⟨F, h1.below hb, h2, Nat.le_trans h3 hb.size⟩
theorem LiveN.le (h : LiveN B g L w) : B ≤ w.heap.size := by
  obtain ⟨F, h1, h2, h3⟩ := h
  exact h3
theorem live_to (h1 : ∀ k, F k → B ≤ k) (h2 : B ≤ w.heap.size) (ht : NetTo g F L' w w') : LiveN B g L' w' ∧ Below B w w' := by
  obtain ⟨F', k1, k2, k3⟩ := ht
  exact ⟨⟨F', k1, fun k hk => by
    rcases k3 k hk with e | e
    · exact h1 k e
    · omega, Nat.le_trans h2 k2.size⟩, k2.below h1 h2⟩

theorem live_new (w : World) : Calls Try.prog 7 #[] w fun e w' => ∃ g : Nat, e = .returned (.pointer (some ⟨g, 0, none⟩)) ∧ LiveN w.heap.size g nNone w' ∧ Below w.heap.size w w' :=
  (new_is w).mono fun _ _ ⟨g, F, he, h1, h2, h3⟩ => ⟨g, he, ⟨F, h1, h2, h3.size⟩, h3⟩
theorem live_count (h : LiveN B g L w) (f t : Int) (hf : Fit f) (ht : Fit t) {n : Nat} (hn : (L.at_ f t).length = n) :
    Calls Try.prog 22 #[.pointer (some ⟨g, 0, none⟩), .int .i64 f, .int .i64 t] w fun e w' => e = .returned (.int .i64 (n : Nat)) ∧ w = w' := by
  obtain ⟨F, h1, h2, h3⟩ := h
  have := count_is g f t w h1 hf ht
  rwa [hn] at this
theorem live_put (h : LiveN B g L w) (f t : Int) (A : Option Addr) (n c : Nat) (zs : List Int) (hf : Fit f) (ht : Fit t) (hz : zs.length = n) (hr : Rd w A (u8s zs)) (hy : Byts zs) (hn : n ≤ 1048576) {x : Int} (hx : nPut L f t zs = (L', x)) :
    Calls Try.prog 20 #[.pointer (some ⟨g, 0, none⟩), .int .i64 f, .int .i64 t, .slice A n c] w fun e w' => e = .returned (.int .i64 x) ∧ LiveN B g L' w' ∧ Below B w w' := by
  obtain ⟨F, h1, h2, h3⟩ := h
  refine (put_is g f t A n c zs w h1 hf ht hz hr hy hn).mono fun e w' ⟨he, hto⟩ => ?_
  rw [hx] at he hto
  exact ⟨he, live_to h2 h3 hto⟩
theorem live_double (h : LiveN B g L w) (f t k : Int) (hf : Fit f) (ht : Fit t) {x : Int} (hx : nDouble L f t k = (L', x)) :
    Calls Try.prog 14 #[.pointer (some ⟨g, 0, none⟩), .int .i64 f, .int .i64 t, .int .i64 k] w fun e w' => e = .returned (.int .i64 x) ∧ LiveN B g L' w' ∧ Below B w w' := by
  obtain ⟨F, h1, h2, h3⟩ := h
  refine (double_is g f t k w h1 hf ht).mono fun e w' ⟨he, hto⟩ => ?_
  rw [hx] at he hto
  exact ⟨he, live_to h2 h3 hto⟩
theorem live_drop (h : LiveN B g L w) (f t k : Int) (hf : Fit f) (ht : Fit t) {x : Int} (hx : nDrop L f t k = (L', x)) :
    Calls Try.prog 16 #[.pointer (some ⟨g, 0, none⟩), .int .i64 f, .int .i64 t, .int .i64 k] w fun e w' => e = .returned (.int .i64 x) ∧ LiveN B g L' w' ∧ Below B w w' := by
  obtain ⟨F, h1, h2, h3⟩ := h
  refine (drop_is g f t k w h1 hf ht).mono fun e w' ⟨he, hto⟩ => ?_
  rw [hx] at he hto
  exact ⟨he, live_to h2 h3 hto⟩
theorem live_clear (h : LiveN B g L w) (t : Int) (ht : Fit t) (hx : nClear L t = L') :
    Calls Try.prog 17 #[.pointer (some ⟨g, 0, none⟩), .int .i64 t] w fun e w' => e = .returned (.tuple #[]) ∧ LiveN B g L' w' ∧ Below B w w' := by
  obtain ⟨F, h1, h2, h3⟩ := h
  refine (clear_is g t w h1 ht).mono fun e w' ⟨he, hto⟩ => ?_
  rw [hx] at hto
  exact ⟨he, live_to h2 h3 hto⟩
theorem live_none (h : LiveN B g L w) (f t k : Int) (hf : Fit f) (ht : Fit t) (hk : hasK L f t k = false) :
    Calls Try.prog 9 #[.pointer (some ⟨g, 0, none⟩), .int .i64 f, .int .i64 t, .int .i64 k] w fun e w' => e = .returned (.tuple #[.slice none 0 0, .int .i64 3]) ∧ w = w' := by
  obtain ⟨F, h1, h2, h3⟩ := h
  exact take_no g f t k w h1 hf ht hk
/-- what Take leaves -/
def TakenN (B g : Nat) (L : PN) (n : Nat) (x : List Int) (w : World) (e : Ending) (w' : World) : Prop :=
  ∃ g' c', e = .returned (.tuple #[.slice (some ⟨g', 0, none⟩) n c', .int .i64 0]) ∧ Wr w' g' c' n x ∧ w.heap.size ≤ g' ∧ LiveN B g L w' ∧ Below B w w'
theorem live_take (h : LiveN B g L w) (j n : Nat) (x : List Int) (f t : Int) (hf : Fit f) (ht : Fit t) (hb : bothN f t = true) (hx : (L (wayN f t))[j]? = some x) (hz : x.length = n) (hL : L.put (wayN f t) (delN (L (wayN f t)) j) = L') :
    Calls Try.prog 9 #[.pointer (some ⟨g, 0, none⟩), .int .i64 f, .int .i64 t, .int .i64 j] w (TakenN B g L' n x w) := by
  obtain ⟨F, h1, h2, h3⟩ := h
  refine (take_yes g j n x f t w h1 hf ht hb hx hz).mono fun e w' ⟨g', c', he, k1, k2, F', k3, k4, k5, k6⟩ => ?_
  rw [hL] at k3
  obtain ⟨l1, l2⟩ := live_to h2 h3 ⟨F', k3, k4, k5⟩
  exact ⟨g', c', he, k1, k2, l1, l2⟩
end

end Go.Proofs.Ytbffaaljommoeaa
