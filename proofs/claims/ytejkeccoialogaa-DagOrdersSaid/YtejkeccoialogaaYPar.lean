/-
  Package dag's Find; and rounds of a graph that may be: none above the lowest is empty up to the greatest; none has more than nodes; each below the greatest has a quorum.
-/
import Derived.Test.YtejkeccoialogaaYAddA
import Derived.Test.YtejkeccoialogaaYMiss
namespace Go.Proofs.Ytejkeccoialogaa
open Go.RowKit

/-- a certificate of the call's own, and an answer -/
def FindOk (x : CrtD) (w : World) (en : Ending) (w' : World) : Prop := ∃ a', en = .returned (.tuple #[crtV x a', .int .i64 0]) ∧ CNew w.heap.size w' x a' ∧ Below w.heap.size w w'
/-- refused, and nothing beside -/
def FindErr (z : Int) (w : World) (en : Ending) (w' : World) : Prop := en = .returned (.tuple #[crtV zeroC6 zeroCA, .int .i64 z]) ∧ Below w.heap.size w w'

theorem len_sub : ∀ {P D : List Int}, P.Nodup → (∀ p ∈ P, p ∈ D) → P.length ≤ D.length
  | [], _, _, _ => Nat.zero_le _
  | p :: r, D, hn, hs => by
    obtain ⟨h1, h2⟩ := List.nodup_cons.1 hn
    have hp := hs p (by simp)
    have h3 := len_sub (D := D.erase p) h2 fun q hq => (List.mem_erase_of_ne (fun (e : q = p) => h1 (by rw [← e]; exact hq))).2 (hs q (by simp [hq]))
    have h4 := List.length_erase_of_mem hp
    have h5 := List.length_pos_of_mem hp
    simp only [List.length_cons]
    omega
theorem len_up : ∀ {l : List Int} {m n : Int}, l.Pairwise (· < ·) → (∀ x ∈ l, m < x ∧ x ≤ n) → m ≤ n → (l.length : Int) ≤ n - m
  | [], m, n, _, _, hmn => by simp; omega
  | x :: r, m, n, hp, hb, _ => by
    obtain ⟨h1, h2⟩ := List.pairwise_cons.1 hp
    have hx := hb x (by simp)
    have := len_up (m := x) (n := n) h2 (fun y hy => ⟨h1 y hy, (hb y (by simp [hy])).2⟩) hx.2
    simp only [List.length_cons]
    omega
theorem ris_pair : ∀ {l : List Int}, risB l = true → l.Pairwise (· < ·)
  | [], _ => List.Pairwise.nil
  | x :: r, h => by
    have h1 := risB_iff.1 h
    have hr : risB r = true := risB_iff.2 fun i a b ha hb => h1 (i + 1) a b (by simpa using ha) (by simpa using hb)
    refine List.pairwise_cons.2 ⟨fun y hy => ?_, ris_pair hr⟩
    obtain ⟨i, hi⟩ := List.mem_iff_getElem?.1 hy
    have key : ∀ (i : Nat) (y : Int), r[i]? = some y → x < y := by
      intro i
      induction i with
      | zero => intro y hy; exact h1 0 x y rfl (by simpa using hy)
      | succ i ih =>
        intro y hy
        have hl := (List.getElem?_eq_some_iff.1 hy).1
        obtain ⟨z, hz⟩ : ∃ z, r[i]? = some z := ⟨_, List.getElem?_eq_getElem (by omega)⟩
        have := ih z hz
        have := h1 (i + 1) z y (by simpa using hz) (by simpa using hy)
        omega
    exact key i y hi
theorem nodup_lt {l : List Int} (h : l.Pairwise (· < ·)) : l.Nodup := by
  unfold List.Nodup
  exact h.imp fun {a b} hab => by omega
section
variable {N L : Int} {l : List CrtD}
/-- a certificate's parents -/
theorem ok_hdr {x : CrtD} (h : x.ok N = true) : (1 ≤ x.a ∧ x.a ≤ N) ∧ (1 ≤ x.r ∧ x.r ≤ 1099511627776) ∧ x.P.Nodup ∧ (x.P.length : Int) ≤ N ∧ (1 < x.r → quoN N ≤ (x.P.length : Int)) := by
  have h1 := cert_is.1 h
  obtain ⟨m1, m2, m3, m4, m5, m6⟩ : mayB N = true ∧ (1 ≤ x.a ∧ x.a ≤ N) ∧ (1 ≤ x.r ∧ x.r ≤ 1099511627776) ∧ digsB x.B 8 = true ∧ digsB x.P N = true ∧ (if x.r = 1 then x.P.length = 0 else quoN N ≤ (x.P.length : Int)) := by simpa only [hdrB, decide_eq_true_eq] using h1.1
  obtain ⟨d1, d2, d3⟩ := digsB_iff.1 m5
  refine ⟨m2, m3, nodup_lt (ris_pair d3), d1, fun hr => ?_⟩
  rw [if_neg (by omega)] at m6
  exact m6
theorem MayG.pos (h : MayG N L l) : 1 ≤ N ∧ N ≤ 16 ∧ 1 ≤ quoN N := by
  have : 1 ≤ N ∧ N ≤ 16 ∧ N % 3 = 1 := by simpa only [mayB, decide_eq_true_eq] using h.n
  exact ⟨this.1, this.2.1, by unfold quoN; omega⟩
theorem asc_pair (h : AscC l) : l.Pairwise fun x y => aheadB x.r x.a y.r y.a = true := by
  rw [List.pairwise_iff_getElem]
  intro i j hi hj hij
  exact h i j _ _ hij (List.getElem?_eq_getElem hi) (List.getElem?_eq_getElem hj)
/-- no round has more than nodes -/
theorem round_most (h : MayG N L l) (r : Int) : ((inR l r).length : Int) ≤ N := by
  have h1 : (inR l r).Pairwise fun x y => aheadB x.r x.a y.r y.a = true := (asc_pair h.asc).sublist (by unfold inR; exact List.filter_sublist)
  have h2 : ((inR l r).map CrtD.a).Pairwise (· < ·) := by
    rw [List.pairwise_map]
    refine List.Pairwise.imp_of_mem ?_ h1
    intro x y hx hy hxy
    have e1 := (mem_inR.1 hx).2
    have e2 := (mem_inR.1 hy).2
    have := aheadB_iff.1 hxy
    omega
  have h3 := len_up (m := 0) (n := N) h2 (fun a ha => by
    obtain ⟨x, hx, rfl⟩ := List.mem_map.1 ha
    have := (ok_hdr (h.of_mem (mem_inR.1 hx).1).1).1
    omega) (by have := h.pos; omega)
  rw [List.length_map] at h3
  omega
/-- a parent is in the round ahead -/
theorem parent_in (h : MayG N L l) {x : CrtD} (hx : x ∈ l) (hr : x.r ≠ L + 1) {p : Int} (hp : p ∈ x.P) : ∃ y, y ∈ inR l (x.r - 1) ∧ y.d = p ∧ l[cutF (neD p) l]? = some y := by
  have h1 := h.par x hx
  unfold lacksC at h1
  rw [if_neg hr, List.filter_eq_nil_iff] at h1
  have h2 := h1 p hp
  have h3 : hasDg (inR l (x.r - 1)) p = true := by simpa using h2
  obtain ⟨y, hy, e⟩ := hasDg_iff.1 h3
  refine ⟨y, hy, e, ?_⟩
  rw [← findC_cut, ← e]
  exact findC_mem h.dig (mem_inR.1 hy).1
/-- the round ahead has a quorum -/
theorem round_quo (h : MayG N L l) {x : CrtD} (hx : x ∈ l) (hr : L + 1 < x.r) : quoN N ≤ ((inR l (x.r - 1)).length : Int) := by
  obtain ⟨-, -, h1, -, h2⟩ := ok_hdr (h.of_mem hx).1
  have h3 := len_sub (D := (inR l (x.r - 1)).map CrtD.d) h1 fun p hp => by
    obtain ⟨y, hy, e, -⟩ := parent_in h hx (by omega) hp
    exact List.mem_map.2 ⟨y, hy, e⟩
  rw [List.length_map] at h3
  have := h2 (by have := h.l0; omega)
  omega
theorem top_in (h : topC l ≠ 0) : ∃ x ∈ l, x.r = topC l := by
  unfold topC at h ⊢
  cases hx : l[l.length - 1]? with
  | none => rw [hx] at h; exact absurd rfl h
  | some x => exact ⟨x, List.mem_of_getElem? hx, rfl⟩
/-- rounds go on without a gap -/
theorem round_go (h : MayG N L l) : ∀ (k : Nat) (r : Int), L < r → r + k = topC l → ∃ x ∈ l, x.r = r
  | 0, r, hl, he => by
    obtain ⟨x, hx, e⟩ := top_in (l := l) (by have := h.l0; omega)
    exact ⟨x, hx, by omega⟩
  | k + 1, r, hl, he => by
    obtain ⟨x, hx, e⟩ := round_go h k (r + 1) (by omega) (by omega)
    have h1 := round_quo h hx (by omega)
    have h2 := h.pos
    have h3 : 0 < (inR l (x.r - 1)).length := by omega
    obtain ⟨y, hy⟩ : ∃ y, (inR l (x.r - 1))[0]? = some y := ⟨_, List.getElem?_eq_getElem h3⟩
    have h4 := mem_inR.1 (List.mem_of_getElem? hy)
    exact ⟨y, h4.1, by omega⟩
/-- a round's count -/
theorem round_count (h : MayG N L l) {r : Int} (hl : L < r) (ht : r ≤ topC l) : 1 ≤ (inR l r).length ∧ ((inR l r).length : Int) ≤ N ∧ (r < topC l → quoN N ≤ ((inR l r).length : Int)) := by
  refine ⟨?_, round_most h r, fun hlt => ?_⟩
  · obtain ⟨x, hx, e⟩ := round_go h (topC l - r).toNat r hl (by omega)
    exact List.length_pos_of_mem (mem_inR.2 ⟨hx, e⟩)
  · obtain ⟨x, hx, e⟩ := round_go h (topC l - (r + 1)).toNat (r + 1) (by omega) (by omega)
    have := round_quo h hx (by omega)
    rwa [show x.r - 1 = r by omega] at this
theorem top_most (h : MayG N L l) : topC l ≤ 1099511627776 := by
  by_cases h0 : topC l = 0
  · rw [h0]; decide
  · obtain ⟨x, hx, e⟩ := top_in h0
    have := (ok_hdr (h.of_mem hx).1).2.1
    omega
end

end Go.Proofs.Ytejkeccoialogaa
