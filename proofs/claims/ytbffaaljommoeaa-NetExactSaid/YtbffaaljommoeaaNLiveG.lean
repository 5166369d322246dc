/-
  The contracts of package net beside what else lies in memory: a net of whose blocks none is one of G's.
-/
import Derived.Test.YtbffaaljommoeaaNScr
import Derived.Test.YtbffaaljommoeaaWithin
namespace Go.Proofs.Ytbffaaljommoeaa
open Go.RowKit

def NetG (G : Nat → Prop) (w : World) (g : Nat) (L : PN) : Prop := (∀ k, G k → k < w.heap.size) ∧ ∃ F : Nat → Prop, IsNet w g F L ∧ ∀ k, F k → ¬ G k

section
variable {G G' S : Nat → Prop} {g B : Nat} {L L' : PN} {w w' : World} {F : Nat → Prop}
theorem NetG.kept (h : NetG G w g L) (hb : Below w.heap.size w w') : NetG G w' g L := by
  obtain ⟨h1, F, h2, h3⟩ := h
  exact ⟨fun k hk => Nat.lt_of_lt_of_le (h1 k hk) hb.size, F, h2.below hb, h3⟩
theorem NetG.keptT (h : NetG G w g L) (ht : Touch S w w') (hS : ∀ k, S k → G k) : NetG G w' g L := by
  obtain ⟨h1, F, h2, h3⟩ := h
  exact ⟨fun k hk => Nat.lt_of_lt_of_le (h1 k hk) ht.size, F, h2.kept ht.size fun k hk => ht.block k (h2.lt k hk) fun hs => h3 k hk (hS k hs), h3⟩
theorem NetG.wide (h : NetG G w g L) (hb : Below w.heap.size w w') : NetG (fun k => G k ∨ (w.heap.size ≤ k ∧ k < w'.heap.size)) w' g L := by
  obtain ⟨h1, F, h2, h3⟩ := h
  refine ⟨fun k hk => ?_, F, h2.below hb, fun k hk hg => ?_⟩
  · rcases hk with hk | hk
    · exact Nat.lt_of_lt_of_le (h1 k hk) hb.size
    · exact hk.2
  · rcases hg with hg | hg
    · exact h3 k hk hg
    · have := h2.lt k hk; omega
theorem NetG.less (h : NetG G w g L) (hS : ∀ k, G' k → G k) : NetG G' w g L := by
  obtain ⟨h1, F, h2, h3⟩ := h
  exact ⟨fun k hk => h1 k (hS k hk), F, h2, fun k hk hg => h3 k hk (hS k hg)⟩
theorem NetG.okA (h : NetG G w g L) (f t : Int) : OkMsgs (L.at_ f t) := by
  obtain ⟨h1, F, h2, h3⟩ := h
  exact h2.okA f t
theorem netg_to (h0 : ∀ k, G k → k < w.heap.size) (h3 : ∀ k, F k → ¬ G k) (ht : NetTo g F L' w w') : NetG G w' g L' ∧ Touch (fun k => ¬ G k) w w' := by
  obtain ⟨F', k1, k2, k3⟩ := ht
  refine ⟨⟨fun k hk => Nat.lt_of_lt_of_le (h0 k hk) k2.size, F', k1, fun k hk hg => ?_⟩, k2.mono h3⟩
  rcases k3 k hk with e | e
  · exact h3 k e hg
  · have := h0 k hg; omega

theorem netg_new (w : World) : Calls Try.prog 7 #[] w fun e w' => ∃ g : Nat, e = .returned (.pointer (some ⟨g, 0, none⟩)) ∧ NetG (fun k => k < w.heap.size) w' g nNone ∧ Below w.heap.size w w' :=
  (new_is w).mono fun _ _ ⟨g, F, he, h1, h2, h3⟩ => ⟨g, he, ⟨fun k hk => Nat.lt_of_lt_of_le hk h3.size, F, h1, fun k hk hg => by have := h2 k hk; omega⟩, h3⟩
theorem netg_count (h : NetG G w g L) (f t : Int) (hf : Fit f) (ht : Fit t) {n : Nat} (hn : (L.at_ f t).length = n) :
    Calls Try.prog 22 #[.pointer (some ⟨g, 0, none⟩), .int .i64 f, .int .i64 t] w fun e w' => e = .returned (.int .i64 (n : Nat)) ∧ w = w' := by
  obtain ⟨h0, F, h1, h3⟩ := h
  have := count_is g f t w h1 hf ht
  rwa [hn] at this
theorem netg_put (h : NetG G w g L) (f t : Int) (A : Option Addr) (n c : Nat) (zs : List Int) (hf : Fit f) (ht : Fit t) (hz : zs.length = n) (hr : Rd w A (u8s zs)) (hy : Byts zs) (hn : n ≤ 1048576) {x : Int} (hx : nPut L f t zs = (L', x)) :
    Calls Try.prog 20 #[.pointer (some ⟨g, 0, none⟩), .int .i64 f, .int .i64 t, .slice A n c] w fun e w' => e = .returned (.int .i64 x) ∧ NetG G w' g L' ∧ Touch (fun k => ¬ G k) w w' := by
  obtain ⟨h0, F, h1, h3⟩ := h
  refine (put_is g f t A n c zs w h1 hf ht hz hr hy hn).mono fun e w' ⟨he, hto⟩ => ?_
  rw [hx] at he hto
  exact ⟨he, netg_to h0 h3 hto⟩
theorem netg_double (h : NetG G w g L) (f t k : Int) (hf : Fit f) (ht : Fit t) {x : Int} (hx : nDouble L f t k = (L', x)) :
    Calls Try.prog 14 #[.pointer (some ⟨g, 0, none⟩), .int .i64 f, .int .i64 t, .int .i64 k] w fun e w' => e = .returned (.int .i64 x) ∧ NetG G w' g L' ∧ Touch (fun k => ¬ G k) w w' := by
  obtain ⟨h0, F, h1, h3⟩ := h
  refine (double_is g f t k w h1 hf ht).mono fun e w' ⟨he, hto⟩ => ?_
  rw [hx] at he hto
  exact ⟨he, netg_to h0 h3 hto⟩
theorem netg_drop (h : NetG G w g L) (f t k : Int) (hf : Fit f) (ht : Fit t) {x : Int} (hx : nDrop L f t k = (L', x)) :
    Calls Try.prog 16 #[.pointer (some ⟨g, 0, none⟩), .int .i64 f, .int .i64 t, .int .i64 k] w fun e w' => e = .returned (.int .i64 x) ∧ NetG G w' g L' ∧ Touch (fun k => ¬ G k) w w' := by
  obtain ⟨h0, F, h1, h3⟩ := h
  refine (drop_is g f t k w h1 hf ht).mono fun e w' ⟨he, hto⟩ => ?_
  rw [hx] at he hto
  exact ⟨he, netg_to h0 h3 hto⟩
theorem netg_clear (h : NetG G w g L) (t : Int) (ht : Fit t) (hx : nClear L t = L') :
    Calls Try.prog 17 #[.pointer (some ⟨g, 0, none⟩), .int .i64 t] w fun e w' => e = .returned (.tuple #[]) ∧ NetG G w' g L' ∧ Touch (fun k => ¬ G k) w w' := by
  obtain ⟨h0, F, h1, h3⟩ := h
  refine (clear_is g t w h1 ht).mono fun e w' ⟨he, hto⟩ => ?_
  rw [hx] at hto
  exact ⟨he, netg_to h0 h3 hto⟩
theorem netg_none (h : NetG G w g L) (f t k : Int) (hf : Fit f) (ht : Fit t) (hk : hasK L f t k = false) :
    Calls Try.prog 9 #[.pointer (some ⟨g, 0, none⟩), .int .i64 f, .int .i64 t, .int .i64 k] w fun e w' => e = .returned (.tuple #[.slice none 0 0, .int .i64 3]) ∧ w = w' := by
  obtain ⟨h0, F, h1, h3⟩ := h
  exact take_no g f t k w h1 hf ht hk
/-- what Take leaves: a row of its own, and a net of which that row is none -/
def TakenG (G : Nat → Prop) (g : Nat) (L : PN) (n : Nat) (x : List Int) (w : World) (e : Ending) (w' : World) : Prop :=
  ∃ g' c', e = .returned (.tuple #[.slice (some ⟨g', 0, none⟩) n c', .int .i64 0]) ∧ Wr w' g' c' n x ∧ w.heap.size ≤ g' ∧ NetG (fun k => G k ∨ k = g') w' g L ∧ Touch (fun k => ¬ G k) w w'
theorem netg_take (h : NetG G w g L) (j n : Nat) (x : List Int) (f t : Int) (hf : Fit f) (ht : Fit t) (hb : bothN f t = true) (hx : (L (wayN f t))[j]? = some x) (hz : x.length = n) (hL : L.put (wayN f t) (delN (L (wayN f t)) j) = L') :
    Calls Try.prog 9 #[.pointer (some ⟨g, 0, none⟩), .int .i64 f, .int .i64 t, .int .i64 j] w (TakenG G g L' n x w) := by
  obtain ⟨h0, F, h1, h3⟩ := h
  refine (take_yes g j n x f t w h1 hf ht hb hx hz).mono fun e w' ⟨g', c', he, k1, k2, F', k3, k4, k5, k6⟩ => ?_
  rw [hL] at k3
  obtain ⟨⟨l0, _⟩, l2⟩ := netg_to h0 h3 ⟨F', k3, k4, k5⟩
  refine ⟨g', c', he, k1, k2, ⟨fun k hk => ?_, F', k3, fun k hk hg => ?_⟩, l2⟩
  · rcases hk with hk | rfl
    · exact l0 k hk
    · exact k1.lt
  · rcases hg with hg | rfl
    · rcases k5 k hk with e | e
      · exact h3 k e hg
      · have := h0 k hg; omega
    · exact k6 hk
theorem NetG.low (h : NetG G w g L) (hG : ∀ k, k < B → G k) : B ≤ w.heap.size := by
  rcases Nat.eq_zero_or_pos B with h0 | h0
  · omega
  · have := h.1 (B - 1) (hG _ (by omega)); omega
theorem touch_low (ht : Touch (fun k => ¬ G k) w w') (hG : ∀ k, k < B → G k) (hB : B ≤ w.heap.size) : Below B w w' :=
  ht.below (fun k hn => by
    rcases Nat.lt_or_ge k B with hlt | hge
    · exact absurd (hG k hlt) hn
    · exact hge) hB
end

end Go.Proofs.Ytbffaaljommoeaa
