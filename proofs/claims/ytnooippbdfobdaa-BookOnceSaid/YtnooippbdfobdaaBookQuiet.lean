/-
  Calls that only read, in statements whose order is open; acts as a list.
-/
import Derived.Test.YtnooippbdfobdaaBookC
namespace Go.Proofs.Ytnooippbdfobdaa
open Go.RowKit

theorem quiet_left {P : Program} {f : FuncId} {args : Array Value} {w : World} {n : Nat} {v : Value}
    (h : Calls P f args (w.drewN n) fun e w' => e = .returned v ∧ w.drewN n = w') : Calls P f args (w.drewN n) fun e w'' => e = .returned v ∧ ∃ m, w'' = w.drewN m :=
  h.mono fun _ _ ⟨he, hm⟩ => ⟨he, n, hm.symm⟩
theorem quiet_more {P : Program} {f : FuncId} {args : Array Value} {w : World} {n : Nat} {v : Value}
    (h : Calls P f args (w.drewN n) fun e w' => e = .returned v ∧ ∃ d, w' = (w.drewN n).drewN d) : Calls P f args (w.drewN n) fun e w'' => e = .returned v ∧ ∃ m, w'' = w.drewN m :=
  h.mono fun _ _ ⟨he, d, hm⟩ => ⟨he, n + d, hm.trans (World.drewN_drewN _ _ _)⟩
theorem BookC.drewN {I : BookIs} (K : BookC I) {w : World} {g : Nat} {F : Nat → Prop} {L : List (List Int)} {S : List (Int × Int)} (h : I w g F L S) (n : Nat) : I (w.drewN n) g F L S := K.kept h (Nat.le_refl _) fun _ _ => rfl
theorem BookC.drew {I : BookIs} (K : BookC I) {w : World} {g : Nat} {F : Nat → Prop} {L : List (List Int)} {S : List (Int × Int)} (h : I w g F L S) : I w.drew g F L S := K.kept h (Nat.le_refl _) fun _ _ => rfl
theorem IsRef.drewN {w : World} {g : Nat} {F : Nat → Prop} {L : List (List Int)} {S : List (Int × Int)} (h : IsRef w g F L S) (n : Nat) : IsRef (w.drewN n) g F L S := h.kept (Nat.le_refl _) fun _ _ => rfl

theorem Pair.drewN {I : BookIs} (K : BookC I) {B gb gr : Nat} {F G : Nat → Prop} {L L' : List (List Int)} {S S' : List (Int × Int)} {w : World} (h : Pair I B gb gr F G L L' S S' w) (n : Nat) : Pair I B gb gr F G L L' S S' (w.drewN n) := h.below K (drewN_below _ _)

theorem ActOk.lowB {w : World} {q : ActD} (h : ActOk w q) {x : Addr} (hx : q.AB = some x) (h0 : 0 < q.B.length) : x.block < w.heap.size := by
  obtain ⟨b, off, e, hb, _⟩ := h.rB.open_ (by rw [u8s_length]; exact h0)
  rw [hx] at e
  cases e
  exact hb
/-- the act at an index -/
def ActIs (w : World) (a : Option Addr) (i : Nat) (q : ActD) : Prop :=
  ∃ (b off : Nat), a = some ⟨b, off, none⟩ ∧ b < w.heap.size ∧ ActOk w q ∧
    w.cell? ⟨b, off + i * 4, none⟩ = some (.int .i64 q.k) ∧ w.cell? ⟨b, off + i * 4 + 1, none⟩ = some (.int .i64 q.who) ∧
    w.cell? ⟨b, off + i * 4 + 2, none⟩ = some (.int .i64 q.d) ∧ w.cell? ⟨b, off + i * 4 + 3, none⟩ = some (.slice q.AB q.B.length q.cB)
theorem acts_upto {α : Type} {P : Nat → α → Prop} : ∀ {n : Nat}, (∀ i, i < n → ∃ a, P i a) → ∃ L : List α, L.length = n ∧ ∀ i x, L[i]? = some x → P i x
  | 0, _ => ⟨[], rfl, fun i x hx => by simp at hx⟩
  | n + 1, h => by
    obtain ⟨L, hl, hL⟩ := acts_upto (n := n) fun i hi => h i (by omega)
    obtain ⟨x, hx⟩ := h n (by omega)
    refine ⟨L ++ [x], by simp [hl], fun i y hy => ?_⟩
    rcases Nat.lt_or_ge i n with hi | hi
    · exact hL i y (by rwa [List.getElem?_append_left (by omega)] at hy)
    · rw [List.getElem?_append_right (by omega), hl] at hy
      have h0 : i - n = 0 := by
        rcases Nat.eq_zero_or_pos (i - n) with h0 | h0
        · exact h0
        · rw [List.getElem?_eq_none (by simp; omega)] at hy; cases hy
      rw [h0] at hy
      simp at hy
      have : i = n := by omega
      subst this hy
      exact hx
theorem act_list {w : World} {a : Option Addr} {len cap : Nat} (h : Acts w a len cap) : ∃ Q : List ActD, Q.length = len ∧ ∀ i q, Q[i]? = some q → ActIs w a i q :=
  acts_upto fun i hi => by
    obtain ⟨b, off, q, h⟩ := h.2.2 i hi
    exact ⟨q, b, off, h⟩
theorem ActIs.all {w : World} {a : Option Addr} {i : Nat} {q : ActD} (h : ActIs w a i q) : ∃ (b off : Nat) (nB : Nat), a = some ⟨b, off, none⟩ ∧ q.B.length = nB ∧ nB ≤ q.cB ∧ q.cB ≤ maxLen ∧ b < w.heap.size ∧ ∀ wX, Below w.heap.size w wX → ActOk wX q ∧
    wX.cell? ⟨b, off + i * 4, none⟩ = some (.int .i64 q.k) ∧ wX.cell? ⟨b, off + i * 4 + 1, none⟩ = some (.int .i64 q.who) ∧
    wX.cell? ⟨b, off + i * 4 + 2, none⟩ = some (.int .i64 q.d) ∧ wX.cell? ⟨b, off + i * 4 + 3, none⟩ = some (.slice q.AB nB q.cB) := by
  obtain ⟨b, off, rfl, hlt, ok, c0, c1, c2, c3⟩ := h
  exact ⟨b, off, _, rfl, rfl, ok.hB, ok.mB, hlt, fun wX hb => ⟨ok.below hb, (hb.cell (p := ⟨b, _, none⟩) hlt).trans c0, (hb.cell (p := ⟨b, _, none⟩) hlt).trans c1, (hb.cell (p := ⟨b, _, none⟩) hlt).trans c2, (hb.cell (p := ⟨b, _, none⟩) hlt).trans c3⟩⟩

end Go.Proofs.Ytnooippbdfobdaa
