/-
  The landed net and the page's own net in one memory.
-/
import Derived.Test.YtbffaaljommoeaaNRefU
namespace Go.Proofs.Ytbffaaljommoeaa
open Go.RowKit

/-- both, apart: the page's blocks and all that was there ahead are none of the landed net's -/
structure PairN (B : Nat) (G F : Nat → Prop) (g gr : Nat) (L E : PN) (c : Nat) (w : World) : Prop where
  hd : NetG G w g L
  rf : IsRefN w gr F E c
  sub : ∀ k, F k → G k ∧ B ≤ k
  low : ∀ k, k < B → G k
def BothN (B g gr : Nat) (L : PN) (c : Nat) (w : World) : Prop := ∃ G F : Nat → Prop, PairN B G F g gr L L c w

section
variable {B : Nat} {G F S : Nat → Prop} {g gr c c' gb : Nat} {L L' E E' : PN} {w w' : World} {vs : List Value}
theorem PairN.size (h : PairN B G F g gr L E c w) : B ≤ w.heap.size := h.hd.low h.low
theorem PairN.below (h : PairN B G F g gr L E c w) (hb : Below w.heap.size w w') : PairN B G F g gr L E c w' := ⟨h.hd.kept hb, h.rf.below hb, h.sub, h.low⟩
theorem PairN.more (h : PairN B G F g gr L E c w) (hc : c ≤ c') : PairN B G F g gr L E c' w := ⟨h.hd, h.rf.more hc, h.sub, h.low⟩
theorem PairN.wide (h : PairN B G F g gr L E c w) (hb : Below w.heap.size w w') : PairN B (fun k => G k ∨ (w.heap.size ≤ k ∧ k < w'.heap.size)) F g gr L E c w' :=
  ⟨h.hd.wide hb, (h.below hb).rf, fun k hk => ⟨.inl (h.sub k hk).1, (h.sub k hk).2⟩, fun k hk => .inl (h.low k hk)⟩
theorem PairN.land (h : PairN B G F g gr L E c w) (hk : NetG G w' g L' ∧ Touch (fun k => ¬ G k) w w') : PairN B G F g gr L' E c w' ∧ Below B w w' :=
  ⟨⟨hk.1, h.rf.kept hk.2.size fun k hf => hk.2.block k (h.rf.lt k hf) fun hn => hn (h.sub k hf).1, h.sub, h.low⟩, touch_low hk.2 h.low h.size⟩
theorem PairN.page (h : PairN B G F g gr L E c w) (ht : RefNTo gr F E' c' w w') : ∃ G' F' : Nat → Prop, PairN B G' F' g gr L E' c' w' ∧ Below B w w' ∧ (∀ k, G k → G' k) ∧ ∀ k, F' k → F k ∨ w.heap.size ≤ k := by
  obtain ⟨F', hr, htt, hs⟩ := ht
  have hd := h.hd.keptT htt fun k hk => (h.sub k hk).1
  refine ⟨fun k => G k ∨ (w.heap.size ≤ k ∧ k < w'.heap.size), F', ⟨⟨fun k hk => ?_, ?_⟩, hr, fun k hk => ?_, fun k hk => .inl (h.low k hk)⟩, htt.below (fun k hk => (h.sub k hk).2) h.size, fun k hk => .inl hk, hs⟩
  · rcases hk with hk | hk
    · exact hd.1 k hk
    · exact hk.2
  · obtain ⟨h1, Fd, h2, h3⟩ := h.hd
    refine ⟨Fd, h2.kept htt.size fun k hk => htt.block k (h2.lt k hk) fun hf => h3 k hk (h.sub k hf).1, fun k hk hg => ?_⟩
    rcases hg with hg | hg
    · exact h3 k hk hg
    · have := h2.lt k hk; omega
  · rcases hs k hk with hk' | hk'
    · exact ⟨.inl (h.sub k hk').1, (h.sub k hk').2⟩
    · exact ⟨.inr ⟨hk', hr.lt k hk⟩, Nat.le_trans h.size hk'⟩
theorem PairN.spoil (h : PairN B G F g gr L E c w) (ht : Touch S w w') (hS : ∀ k, S k → G k ∧ ¬ F k ∧ B ≤ k) : PairN B G F g gr L E c w' ∧ Below B w w' :=
  ⟨⟨h.hd.keptT ht fun k hk => (hS k hk).1, h.rf.kept ht.size fun k hf => ht.block k (h.rf.lt k hf) fun hs => (hS k hs).2.1 hf, h.sub, h.low⟩, ht.below (fun k hk => (hS k hk).2.2) h.size⟩
theorem PairN.both (h : PairN B G F g gr L L c w) : BothN B g gr L c w := ⟨G, F, h⟩

/-! ### a block of several cells -/
def BoxN (w : World) (g : Nat) (vs : List Value) : Prop := g < w.heap.size ∧ ∀ i v, vs[i]? = some v → w.cell? ⟨g, i, none⟩ = some v
theorem BoxN.below (h : BoxN w gb vs) (hb : Below w.heap.size w w') : BoxN w' gb vs :=
  ⟨Nat.lt_of_lt_of_le h.1 hb.size, fun i v hv => (hb.cell (p := ⟨gb, i, none⟩) h.1).trans (h.2 i v hv)⟩
theorem boxN_new (w : World) (vs : List Value) (t : TypeId) : BoxN (w.alloc (.cells vs.toArray t)) w.heap.size vs :=
  ⟨by simp, fun i v hv => by rw [World.cell?_alloc_at _ _ _ _ rfl]; simpa using hv⟩
theorem BoxN.touch (h : BoxN w gb vs) (ht : Touch S w w') (hn : ¬ S gb) : BoxN w' gb vs := ⟨Nat.lt_of_lt_of_le h.1 ht.size, fun i v hv => (ht.cell h.1 hn).trans (h.2 i v hv)⟩
theorem RefNTo.box (ht : RefNTo gr F E' c' w w') (h : BoxN w gb vs) (hn : ¬ F gb) : BoxN w' gb vs := by
  obtain ⟨F', _, htt, _⟩ := ht
  exact h.touch htt hn
end

end Go.Proofs.Ytbffaaljommoeaa
