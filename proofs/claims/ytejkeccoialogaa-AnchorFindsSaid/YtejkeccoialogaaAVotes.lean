/-
  Anchors, votes, chains, and rounds of a graph as plain data. Of no program.
-/
import Derived.Test.YtejkeccoialogaaQLaw
import Derived.Test.YtejkeccoialogaaYApiA
import Derived.Deep.RegionHeld3
import Derived.Test.YtejkeccoialogaaCLists
import Derived.Laws.OwnMore
namespace Go.Proofs.Ytejkeccoialogaa
open Go.RowKit

section
variable {N L : Int} {l : List CrtD} {x y z : CrtD}

/-! ### a part: some rounds -/
def partC (l : List CrtD) (lo hi : Int) : List CrtD := l.filter fun y => decide (lo ≤ y.r ∧ y.r ≤ hi)
theorem mem_part {lo hi : Int} : y ∈ partC l lo hi ↔ y ∈ l ∧ lo ≤ y.r ∧ y.r ≤ hi := by simp [partC]
theorem cutLow_mono {lo hi : Int} (hlh : lo ≤ hi) : cutF (isLow lo) l ≤ cutF (isLow hi) l := by
  rcases Nat.lt_or_ge (cutF (isLow hi) l) (cutF (isLow lo) l) with h1 | h1
  · have hl := cutF_le (f := isLow lo) l
    obtain ⟨y, hy⟩ : ∃ y, l[cutF (isLow hi) l]? = some y := ⟨_, List.getElem?_eq_getElem (by omega)⟩
    have h2 := cutF_below (f := isLow lo) h1 hy
    have h3 := cutF_at (f := isLow hi) hy
    have h4 : y.r < lo := by simpa [isLow] using h2
    have h5 : ¬ y.r < hi := by simpa [isLow] using h3
    omega
  · exact h1
theorem part_is (h : AscC l) {lo hi : Int} (hlh : lo ≤ hi + 1) :
    (l.drop (cutF (isLow lo) l)).take (cutF (isLow (hi + 1)) l - cutF (isLow lo) l) = partC l lo hi := by
  obtain ⟨c, hc⟩ : ∃ c, c = cutF (isLow lo) l := ⟨_, rfl⟩
  obtain ⟨t, ht⟩ : ∃ t, t = cutF (isLow (hi + 1)) l := ⟨_, rfl⟩
  rw [← hc, ← ht]
  have hct : c ≤ t := by rw [hc, ht]; exact cutLow_mono hlh
  have e : l = l.take c ++ ((l.drop c).take (t - c) ++ l.drop t) := by
    conv => lhs; rw [← List.take_append_drop c l]
    congr 1
    conv => lhs; rw [← List.take_append_drop (t - c) (l.drop c)]
    rw [List.drop_drop, show c + (t - c) = t by omega]
  have up : ∀ {R : Int} {k i : Nat} {x : CrtD}, k = cutF (isLow R) l → k ≤ i → l[i]? = some x → R ≤ x.r := fun {R k i x} hk hki hx => by
    have hl := (List.getElem?_eq_some_iff.1 hx).1
    obtain ⟨z, hz⟩ : ∃ z, l[k]? = some z := ⟨_, List.getElem?_eq_getElem (by omega)⟩
    have g3 := cutF_at (f := isLow R) (by rw [← hk]; exact hz)
    have g3 : ¬ z.r < R := by simpa [isLow] using g3
    rcases Nat.lt_or_ge k i with g4 | g4
    · have := aheadB_iff.1 (h k i z x g4 hz hx)
      omega
    · have : k = i := by omega
      subst this
      rw [hz] at hx
      cases hx
      omega
  have f1 : (l.take c).filter (fun y => decide (lo ≤ y.r ∧ y.r ≤ hi)) = [] := filter_none fun x hx => by
    obtain ⟨i, hi, hx⟩ := mem_take_at hx
    have := cutF_below (f := isLow lo) (by rw [← hc]; exact hi) hx
    have : x.r < lo := by simpa [isLow] using this
    simp; omega
  have f2 : ((l.drop c).take (t - c)).filter (fun y => decide (lo ≤ y.r ∧ y.r ≤ hi)) = (l.drop c).take (t - c) := filter_all fun x hx => by
    obtain ⟨i, hik, hx⟩ := mem_take_at hx
    rw [List.getElem?_drop] at hx
    have h1 := up hc (Nat.le_add_right c i) hx
    have h2 := cutF_below (f := isLow (hi + 1)) (l := l) (j := c + i) (by rw [← ht]; omega) hx
    have h2 : x.r < hi + 1 := by simpa [isLow] using h2
    simp; omega
  have f3 : (l.drop t).filter (fun y => decide (lo ≤ y.r ∧ y.r ≤ hi)) = [] := filter_none fun x hx => by
    obtain ⟨i, hi, hx⟩ := mem_drop_at hx
    have := up ht hi hx
    simp; omega
  unfold partC
  conv => rhs; rw [e]
  rw [List.filter_append, List.filter_append, f1, f2, f3]
  simp
theorem inR_partC {lo hi R : Int} (h1 : lo ≤ R) (h2 : R ≤ hi) : inR (partC l lo hi) R = inR l R := by
  unfold inR partC
  rw [List.filter_filter]
  refine List.filter_congr fun y _ => ?_
  by_cases h : y.r = R
  · simp [h, h1, h2]
  · simp [h]
theorem asc_part (h : AscC l) (lo hi : Int) : AscC (partC l lo hi) := by
  have h1 : (partC l lo hi).Pairwise fun x y => aheadB x.r x.a y.r y.a = true := (asc_pair h).sublist (by unfold partC; exact List.filter_sublist)
  rw [List.pairwise_iff_getElem] at h1
  intro i j x y hij hx hy
  obtain ⟨hi, ei⟩ := List.getElem?_eq_some_iff.1 hx
  obtain ⟨hj, ej⟩ := List.getElem?_eq_some_iff.1 hy
  have := h1 i j hi hj hij
  rwa [ei, ej] at this
theorem dig_part (h : DigN l) (lo hi : Int) : DigN (partC l lo hi) := by
  have h0 : l.Pairwise fun x y => x.d ≠ y.d := by
    rw [List.pairwise_iff_getElem]
    intro i j hi hj hij
    exact h i j _ _ hij (List.getElem?_eq_getElem hi) (List.getElem?_eq_getElem hj)
  have h1 : (partC l lo hi).Pairwise fun x y => x.d ≠ y.d := h0.sublist (by unfold partC; exact List.filter_sublist)
  rw [List.pairwise_iff_getElem] at h1
  intro i j x y hij hx hy
  obtain ⟨hi, ei⟩ := List.getElem?_eq_some_iff.1 hx
  obtain ⟨hj, ej⟩ := List.getElem?_eq_some_iff.1 hy
  have := h1 i j hi hj hij
  rwa [ei, ej] at this
/-- a part that may be -/
theorem may_part (h : MayG N L l) {lo hi : Int} (hl : L < lo) (h1 : lo ≤ 1099511627777) : MayG N (lo - 1) (partC l lo hi) where
  n := h.n
  l0 := by have := h.l0; omega
  l1 := by omega
  few := Nat.le_trans (by unfold partC; exact List.length_filter_le _ _) h.few
  row := fun i x hx => by
    obtain ⟨hm, hlo, -⟩ := mem_part.1 (List.mem_of_getElem? hx)
    exact ⟨(h.of_mem hm).1, by omega, fun y h0 hy => asc_part h.asc lo hi (i - 1) i y x (by omega) hy hx, fun k y hk hy => dig_part h.dig lo hi k i y x hk hy hx⟩
  par := fun x hx => by
    obtain ⟨hm, hlo, hhi⟩ := mem_part.1 hx
    unfold lacksC
    by_cases h2 : x.r = lo - 1 + 1
    · rw [if_pos h2]
    · rw [if_neg h2, List.filter_eq_nil_iff]
      intro p hp
      obtain ⟨y, hy, e, -⟩ := parent_in h hm (by omega) hp
      obtain ⟨hy1, hy2⟩ := mem_inR.1 hy
      have : hasDg (inR (partC l lo hi) (x.r - 1)) p = true := hasDg_iff.2 ⟨y, mem_inR.2 ⟨mem_part.2 ⟨hy1, by omega, by omega⟩, hy2⟩, e⟩
      simp [this]

/-! ### anchors -/
def leadC (N R : Int) : Int := (R / 2 - 1) % N + 1
def ancC (N : Int) (l : List CrtD) (R : Int) : Option CrtD := atC l R (leadC N R)
/-- its digest; 0: there is none -/
def ancN (N : Int) (l : List CrtD) (R : Int) : Int := match ancC N l R with
  | some x => x.d
  | none => 0
theorem ancN_some {r : Int} (h : ancC N l r = some x) : ancN N l r = x.d := by rw [ancN, h]
theorem ancN_none {r : Int} (h : ancC N l r = none) : ancN N l r = 0 := by rw [ancN, h]
theorem ancC_some {R : Int} (h : ancC N l R = some x) : x ∈ l ∧ x.r = R ∧ x.a = leadC N R := atC_some h
theorem ancC_pos {R : Int} (hm : MayG N L l) (h : ancC N l R = some x) : 1 ≤ x.d ∧ x.d ≤ 65536 := by
  have h1 := cert_is.1 (hm.of_mem (ancC_some h).1).1
  exact h1.2.1
theorem ancC_inR (R : Int) : ancC N l R = (inR l R).find? fun y => decide (y.a = leadC N R) := by
  unfold ancC atC inR
  rw [List.find?_filter]
  congr 1
  funext y
  by_cases h1 : y.r = R <;> by_cases h2 : y.a = leadC N R <;> simp [h1, h2]
theorem ancC_part {lo hi R : Int} (h1 : lo ≤ R) (h2 : R ≤ hi) : ancC N (partC l lo hi) R = ancC N l R := by rw [ancC_inR, ancC_inR, inR_partC h1 h2]
theorem ancC_low (hm : MayG N L l) {R : Int} (h : R ≤ L) : ancC N l R = none := by
  cases hx : ancC N l R with
  | none => rfl
  | some x =>
    obtain ⟨h1, h2, -⟩ := ancC_some hx
    have := (hm.of_mem h1).2
    omega
theorem ancC_first (hm : MayG N L l) {R : Int} {z : CrtD} (hz : l[0]? = some z) (h : R < z.r) : ancC N l R = none := by
  cases hx : ancC N l R with
  | none => rfl
  | some x =>
    obtain ⟨h1, h2, -⟩ := ancC_some hx
    obtain ⟨j, hj⟩ := List.mem_iff_getElem?.1 h1
    rcases Nat.eq_zero_or_pos j with h3 | h3
    · subst h3
      rw [hz] at hj
      cases hj
      omega
    · have := aheadB_iff.1 (hm.asc 0 j z x h3 hz hj)
      omega

/-! ### chains -/
noncomputable def stepC (L : Int) (l : List CrtD) (o : Option CrtD) (s : CrtD × List CrtD) : CrtD × List CrtD := match o with
  | some y => if rchB L l s.1 y = true then (y, y :: s.2) else s
  | none => s
/-- going down from round R, k steps of two rounds: the last one that was included, and all, the lowest first -/
noncomputable def stC (N L : Int) (l : List CrtD) (x : CrtD) (R : Int) : Nat → CrtD × List CrtD
  | 0 => (x, [x])
  | k + 1 => stepC L l (ancC N l (R - 2 * ((k : Int) + 1))) (stC N L l x R k)
theorem stC_next (k : Nat) (R : Int) : stC N L l x R (k + 1) = stepC L l (ancC N l (R - 2 * ((k : Int) + 1))) (stC N L l x R k) := rfl
theorem stC_more {R : Int} {k : Nat} : ∀ (m : Nat), (∀ j : Nat, k < j → j ≤ k + m → ancC N l (R - 2 * (j : Int)) = none) → stC N L l x R (k + m) = stC N L l x R k
  | 0, _ => rfl
  | m + 1, h => by
    have ih := stC_more m fun j h1 h2 => h j h1 (by omega)
    have h1 := h (k + m + 1) (by omega) (by omega)
    rw [show k + (m + 1) = k + m + 1 by omega, stC_next, show ((k + m : Nat) : Int) + 1 = ((k + m + 1 : Nat) : Int) by omega, h1, ih]
    rfl
noncomputable def chainC (N L : Int) (l : List CrtD) (after R : Int) (x : CrtD) : List CrtD := (stC N L l x R ((R - after) / 2 - 1).toNat).2
theorem chain_end {after R : Int} {k : Nat} (hk : (k : Int) ≤ (R - after) / 2 - 1) (h : ∀ j : Nat, k < j → (j : Int) ≤ (R - after) / 2 - 1 → ancC N l (R - 2 * (j : Int)) = none) : (stC N L l x R k).2 = chainC N L l after R x := by
  obtain ⟨m, hm⟩ : ∃ m, ((R - after) / 2 - 1).toNat = k + m := ⟨((R - after) / 2 - 1).toNat - k, by omega⟩
  unfold chainC
  rw [hm, stC_more m fun j h1 h2 => h j h1 (by omega)]
/-- what a chain's parts are -/
structure StOk (N L : Int) (l : List CrtD) (x : CrtD) (R : Int) (k : Nat) (s : CrtD × List CrtD) : Prop where
  mem : s.1 ∈ l
  low : R - 2 * (k : Int) ≤ s.1.r
  top : s.1.r ≤ R
  par : s.1.r % 2 = R % 2
  anc : ancC N l s.1.r = some s.1
  head : ∃ t, s.2 = s.1 :: t
  last : s.2.getLast? = some x
  all : ∀ y ∈ s.2, y ∈ l ∧ ancC N l y.r = some y ∧ R - 2 * (k : Int) ≤ y.r ∧ y.r ≤ R ∧ y.r % 2 = R % 2
  asc : s.2.Pairwise fun y z => y.r < z.r
  len : s.2.length ≤ k + 1
theorem stC_ok {R : Int} (hx : ancC N l R = some x) : ∀ k : Nat, StOk N L l x R k (stC N L l x R k)
  | 0 => by
    obtain ⟨h1, h2, -⟩ := ancC_some hx
    have h3 : ancC N l x.r = some x := by rw [h2]; exact hx
    refine ⟨h1, ?_, ?_, ?_, h3, ⟨[], rfl⟩, rfl, ?_, List.pairwise_singleton _ _, Nat.le_refl _⟩
    · show R - 2 * ((0 : Nat) : Int) ≤ x.r; omega
    · show x.r ≤ R; omega
    · show x.r % 2 = R % 2; rw [h2]
    · intro y hy
      have e : y = x := by simpa [stC] using hy
      subst e
      exact ⟨h1, h3, by omega, by omega, by rw [h2]⟩
  | k + 1 => by
    have ih := stC_ok hx k
    rw [stC_next]
    obtain ⟨s, hs⟩ : ∃ s, s = stC N L l x R k := ⟨_, rfl⟩
    rw [← hs] at ih ⊢
    have stay : StOk N L l x R (k + 1) s := ⟨ih.mem, by have := ih.low; omega, ih.top, ih.par, ih.anc, ih.head, ih.last, fun y hy => by
      obtain ⟨a1, a2, a3, a4, a5⟩ := ih.all y hy
      exact ⟨a1, a2, by omega, a4, a5⟩, ih.asc, by have := ih.len; omega⟩
    cases hy : ancC N l (R - 2 * ((k : Int) + 1)) with
    | none => exact stay
    | some y =>
      unfold stepC
      dsimp only
      split
      · obtain ⟨h1, h2, -⟩ := ancC_some hy
        have h3 : ancC N l y.r = some y := by rw [h2]; exact hy
        refine ⟨h1, ?_, ?_, ?_, h3, ⟨s.2, rfl⟩, ?_, ?_, ?_, ?_⟩
        · show _ ≤ y.r; omega
        · show y.r ≤ R; omega
        · show y.r % 2 = R % 2; omega
        · obtain ⟨t, ht⟩ := ih.head
          have := ih.last
          rw [ht] at this ⊢
          rw [List.getLast?_cons_cons]
          exact this
        · intro z hz
          rcases List.mem_cons.1 hz with rfl | hz
          · exact ⟨h1, h3, by omega, by omega, by omega⟩
          · obtain ⟨a1, a2, a3, a4, a5⟩ := ih.all z hz
            exact ⟨a1, a2, by omega, a4, a5⟩
        · refine List.pairwise_cons.2 ⟨fun z hz => ?_, ih.asc⟩
          have := (ih.all z hz).2.2.1
          omega
        · show (s.2.length + 1) ≤ k + 1 + 1
          have := ih.len
          omega
      · exact stay

/-! ### what is reached, round by round -/
theorem rch_mid (h : MayG N L l) (hx : x ∈ l) {m : Int} (hr : Rch L l x y) (h1 : y.r ≤ m) (h2 : m ≤ x.r) : ∃ z, z ∈ l ∧ z.r = m ∧ Rch L l x z ∧ Rch L l z y := by
  induction hr with
  | refl => exact ⟨x, hx, by omega, .refl, .refl⟩
  | step hc hl hm hp ih =>
    rename_i c b
    have hr' := parent_round h (hc.mem hx) hl hm hp
    by_cases e : m = b.r
    · exact ⟨b, hm, e.symm, .step hc hl hm hp, .refl⟩
    · obtain ⟨z, z1, z2, z3, z4⟩ := ih (by omega)
      exact ⟨z, z1, z2, z3, .step z4 hl hm hp⟩
theorem rch_in (h : MayG N L l) {lo hi : Int} (hx : x ∈ l) (hxr : x.r ≤ hi) (hr : Rch L l x y) (hy : lo ≤ y.r) : Rch (lo - 1) (partC l lo hi) x y := by
  induction hr with
  | refl => exact .refl
  | step hc hl' hm hp ih =>
    have hr' := parent_round h (hc.mem hx) hl' hm hp
    have hlo := hc.lower h hx
    refine .step (ih (by omega)) (by omega) (mem_part.2 ⟨hm, hy, ?_⟩) hp
    rcases hlo with rfl | hlo <;> omega
theorem rch_out {lo hi : Int} (hl : L < lo) (hr : Rch (lo - 1) (partC l lo hi) x y) : Rch L l x y := by
  induction hr with
  | refl => exact .refl
  | step hc hl' hm hp ih => exact .step ih (by omega) (mem_part.1 hm).1 hp
/-- those of a round that are reached -/
noncomputable def rchR (L : Int) (l : List CrtD) (x : CrtD) (q : Int) : List CrtD := (inR l q).filter (rchB L l x)
theorem mem_rchR {q : Int} : y ∈ rchR L l x q ↔ y ∈ l ∧ y.r = q ∧ Rch L l x y := by
  unfold rchR
  rw [List.mem_filter, mem_inR, rchB_iff, and_assoc]
theorem rchR_self (h : MayG N L l) (hx : x ∈ l) : rchR L l x x.r = [x] := by
  have h1 : ∀ y ∈ rchR L l x x.r, y = x := fun y hy => by
    obtain ⟨a1, a2, a3⟩ := mem_rchR.1 hy
    rcases a3.lower h hx with e | e
    · exact e
    · omega
  have h2 : x ∈ rchR L l x x.r := mem_rchR.2 ⟨hx, rfl, .refl⟩
  have h3 : (rchR L l x x.r).Pairwise fun x y => aheadB x.r x.a y.r y.a = true := (asc_pair h.asc).sublist (by unfold rchR inR; exact List.filter_sublist.trans List.filter_sublist)
  generalize rchR L l x x.r = m at h1 h2 h3
  match m, h1, h2, h3 with
  | [], _, h2, _ => cases h2
  | [y], h1, _, _ => rw [h1 y (by simp)]
  | y :: z :: t, h1, _, h3 =>
    have e1 := h1 y (by simp)
    have e2 := h1 z (by simp)
    have := aheadB_iff.1 ((List.pairwise_cons.1 h3).1 z (by simp))
    rw [e1, e2] at this
    omega
/-- two rounds further down -/
theorem rchR_down (h : MayG N L l) (hx : x ∈ l) {q : Int} (hq : L < q) (hqx : q + 2 ≤ x.r) (hy : y ∈ inR l q) :
    rchB L l x y = true ↔ ∃ z ∈ rchR L l x (q + 2), Rch (q - 1) (partC l q (q + 2)) z y := by
  obtain ⟨y1, y2⟩ := mem_inR.1 hy
  rw [rchB_iff]
  constructor
  · intro hr
    obtain ⟨z, z1, z2, z3, z4⟩ := rch_mid h hx hr (m := q + 2) (by omega) hqx
    exact ⟨z, mem_rchR.2 ⟨z1, z2, z3⟩, rch_in h z1 (by omega) z4 (by omega)⟩
  · rintro ⟨z, hz, hr⟩
    obtain ⟨z1, z2, z3⟩ := mem_rchR.1 hz
    exact z3.trans (rch_out hq hr)
end

end Go.Proofs.Ytejkeccoialogaa
/-
  Package anchor's firstFrom and between: a part of a graph in its own memory.
-/
namespace Go.Proofs.Ytejkeccoialogaa
open Go.RowKit

set_option maxRecDepth 100000 in
set_option maxHeartbeats 4000000 in
theorem sortSearch_isA (n : Nat) (l : List CrtD) (f : CrtD → Bool) (pd pr : Value) (w : World) (hn : l.length = n) (hn1 : n ≤ 1000000) (hm : MonF f l)
    (hc : ∀ (k : Nat) (x : CrtD), l[k]? = some x → ∀ wX, Below w.heap.size w wX → Calls Try.prog 106 #[.int .i64 k, pd, pr] wX fun e w' => e = .returned (.bool (!f x)) ∧ Below wX.heap.size wX w') :
    Calls Try.prog 105 #[.int .i64 n, .func (.func 106) #[] #[pd, pr]] w fun e w' => e = .returned (.int .i64 (cutF f l)) ∧ Below w.heap.size w w' := by
  have HL := Lib.hid hn
  have HM := Lib.hid hm
  have HC := Lib.hid hc
  clear hn hm hc
  go_enter Try.func105, Try.ntmps105
  go_wp2
  go_loopw [5, 6] (fun i j wr => ∃ lo hi : Nat, i = .int .i64 lo ∧ j = .int .i64 hi ∧ lo ≤ hi ∧ hi ≤ n ∧ Hid (∀ k a, k < lo → l[k]? = some a → f a = true) ∧ Hid (∀ k a, hi ≤ k → l[k]? = some a → f a = false) ∧ Below w.heap.size w wr) (fun i j _ => ((intOf j) - (intOf i)).toNat)
  case atStart => exact ⟨0, n, rfl, rfl, by omega, by omega, fun k a hk => by omega, fun k a hk ha => by
    have := (List.getElem?_eq_some_iff.1 ha).1
    rw [HL.out] at this
    omega, Below.refl _ _⟩
  case round =>
    obtain ⟨lo, hi, rfl, rfl, hlh, hin, HA, HB, hb⟩ := hrel
    by_cases hlt : lo < hi
    · obtain ⟨x, hx⟩ : ∃ x, l[(lo + hi) / 2]? = some x := ⟨_, List.getElem?_eq_getElem (by rw [HL.out]; omega)⟩
      have HX := Lib.hid hx
      have hcl := HC.out _ x hx _ hb
      rw [show (((lo + hi) / 2 : Nat) : Int) = ((lo : Int) + (hi : Int)) / 2 by omega] at hcl
      have HCL := Lib.hid hcl
      clear hx hcl
      cases hls : f x with
      | true =>
        rw [hls] at HCL
        have HLS := Lib.hid hls
        clear hls
        go_wp2_with (go_at_call 106; refine HCL.out.mono ?_; rintro e w' ⟨rfl, hb1⟩)
        go_roundw
        case rel =>
          refine ⟨(lo + hi) / 2 + 1, hi, ?_, rfl, by omega, hin, fun k a hk ha => ?_, HB.out, hb.trans (hb1.mono hb.size)⟩
          · rw [show ((lo : Int) + (hi : Int)) / 2 + 1 = (((lo + hi) / 2 + 1 : Nat) : Int) by omega]
          · rcases Nat.lt_or_ge k ((lo + hi) / 2) with h2 | h2
            · exact HM.out _ _ _ _ h2 ha HX.out HLS.out
            · have : k = (lo + hi) / 2 := by omega
              subst this
              rw [HX.out] at ha
              cases ha
              exact HLS.out
        case measure => simp [intOf]; omega
      | false =>
        rw [hls] at HCL
        have HLS := Lib.hid hls
        clear hls
        go_wp2_with (go_at_call 106; refine HCL.out.mono ?_; rintro e w' ⟨rfl, hb1⟩)
        go_roundw
        case rel =>
          refine ⟨lo, (lo + hi) / 2, rfl, ?_, by omega, by omega, HA.out, fun k a hk ha => ?_, hb.trans (hb1.mono hb.size)⟩
          · rw [show ((lo : Int) + (hi : Int)) / 2 = (((lo + hi) / 2 : Nat) : Int) by omega]
          · rcases Nat.lt_or_ge ((lo + hi) / 2) k with h2 | h2
            · cases hfa : f a with
              | false => rfl
              | true => have := HM.out _ _ _ _ h2 HX.out ha hfa; rw [HLS.out] at this; cases this
            · have : k = (lo + hi) / 2 := by omega
              subst this
              rw [HX.out] at ha
              cases ha
              exact HLS.out
        case measure => simp [intOf]; omega
    · obtain rfl : lo = hi := by omega
      have i0 : ¬ ((lo : Int) < (lo : Int)) := by omega
      clear hlt hlh
      have hp : lo = cutF f l := cutF_unique (by rw [HL.out]; exact hin) (fun k a hk ha => HA.out k a hk ha) (fun a ha => HB.out lo a (Nat.le_refl _) ha)
      have HP := Lib.hid hp
      clear hp
      go_wp2_with fail
      go_ret
      exact ⟨by rw [← HP.out]; rfl, hb⟩

set_option maxHeartbeats 1000000 in
theorem cloR_isA (R : Int) (o : Ad) (ms : List (CrtD × CrtA)) (l : List CrtD) (k : Nat) (x : CrtD) (gd gr : Nat) (w : World) (h : RowY w o ms) (hl : ms.map Prod.fst = l) (hx : l[k]? = some x)
    (hd : w.cell? ⟨gd, 2, none⟩ = some (.slice o.A o.n o.c)) (hr : w.cell? ⟨gr, 0, none⟩ = some (.int .i64 R)) :
    Calls Try.prog 106 #[.int .i64 k, .pointer (some ⟨gd, 0, none⟩), .pointer (some ⟨gr, 0, none⟩)] w fun e w' => e = .returned (.bool (!isLow R x)) ∧ Below w.heap.size w w' := by
  have hm : ∃ a, ms[k]? = some (x, a) := by
    rw [← hl, List.getElem?_map] at hx
    cases hm : ms[k]? with
    | none => rw [hm] at hx; cases hx
    | some z =>
      rw [hm] at hx
      simp only [Option.map_some, Option.some.injEq] at hx
      exact ⟨z.2, by rw [← hx]⟩
  obtain ⟨a, hm⟩ := hm
  have hk : k < o.n := by rw [← h.row.len]; exact (List.getElem?_eq_some_iff.1 hm).1
  have hn1 : o.n ≤ 1000000 := by rw [← h.row.len]; exact h.few
  obtain ⟨b, off, hA, hbl, hce⟩ := h.cells hm
  obtain ⟨k0, k1, k2, k3, k4, k5⟩ := hce w (Below.refl _ _)
  dsimp only at k0 k1 k2 k3 k4 k5
  obtain ⟨A, n, c⟩ := o
  simp only at hA hk hn1 hd
  subst hA
  clear h hl hx hm hce
  have i0 : (0 : Int) ≤ (k : Int) := by omega
  have i1 : (k : Int) < (n : Int) := by omega
  have HN : Hid ((!isLow R x) = decide (R ≤ x.r)) := by
    show _ = _
    unfold isLow
    by_cases h : x.r < R
    · simp [h]
    · simp [h]; omega
  go_enter Try.func106, Try.ntmps106
  go_wp2
  go_quiet (fail)
  go_wp2
  go_ret
  exact ⟨by rw [HN.out]; rfl, below_n (Below.refl _ _) _⟩

set_option maxHeartbeats 2000000 in
theorem firstFrom_isA (N L R : Int) (o : Ad) (ms : List (CrtD × CrtA)) (l : List CrtD) (w : World) (h : RowY w o ms) (hl : ms.map Prod.fst = l) (ha : AscC l) :
    Calls Try.prog 92 #[dagV N L o, .int .i64 R] w fun e w' => e = .returned (.int .i64 (cutF (isLow R) l)) ∧ Below w.heap.size w w' := by
  have hlen : l.length = o.n := by rw [← hl, List.length_map, h.row.len]
  have hn1 : o.n ≤ 1000000 := by rw [← h.row.len]; exact h.few
  obtain ⟨w1, hw1⟩ : ∃ w1, w1 = (w.alloc (.cells #[.int .i64 N, .int .i64 L, .slice o.A o.n o.c] 24)).alloc (.cells #[.int .i64 R] 3) := ⟨_, rfl⟩
  have hb1 : Below w.heap.size w w1 := by rw [hw1]; exact ((Below.refl _ _).alloc (Nat.le_refl _) _).alloc (by simp) _
  have hsz : w1.heap.size = w.heap.size + 2 := by rw [hw1]; simp
  have hD : ∀ wX, Below w1.heap.size w1 wX → wX.cell? ⟨w.heap.size, 2, none⟩ = some (.slice o.A o.n o.c) ∧ wX.cell? ⟨w.heap.size + 1, 0, none⟩ = some (.int .i64 R) := fun wX hb => by
    refine ⟨(hb.cell (p := ⟨w.heap.size, 2, none⟩) (by show w.heap.size < _; omega)).trans ?_, (hb.cell (p := ⟨w.heap.size + 1, 0, none⟩) (by show w.heap.size + 1 < _; omega)).trans ?_⟩
    · rw [hw1]; simp [go_sem]
    · rw [hw1]; simp [go_sem]
  obtain ⟨d2, r0⟩ := hD w1 (Below.refl _ _)
  have HS := Lib.hid (sortSearch_isA o.n l (isLow R) (.pointer (some ⟨w.heap.size, 0, none⟩)) (.pointer (some ⟨w.heap.size + 1, 0, none⟩)) w1 hlen hn1 (mon_low ha R) (fun k x hx wX hb => cloR_isA R o ms l k x _ _ wX (h.below (hb1.trans (hb.mono hb1.size))) hl hx (hD wX hb).1 (hD wX hb).2))
  have HW := Lib.hid hw1
  have HB := Lib.hid hb1
  clear hD hlen hn1 h hl ha hw1 hb1 hsz
  obtain ⟨p, hp⟩ : ∃ p, p = cutF (isLow R) l := ⟨_, rfl⟩
  rw [← hp] at HS ⊢
  clear hp
  have hmf : ∀ (fn : Fn) (first cap : Array Value) (w : World), (Instr.makeFunc fn first cap).run Try.prog w = .ok (.func fn first cap) w := fun _ _ _ _ => rfl
  unfold dagV
  go_enter Try.func92, Try.ntmps92
  go_upto_region 1 with fail
  rw [← HW.out]
  go_wp2_with (go_at_call 105; refine HS.out.mono ?_; rintro e w' ⟨rfl, hb⟩)
  go_ret
  exact ⟨rfl, HB.out.trans (hb.mono HB.out.size)⟩


/-- a part of a graph -/
def PartTo (N lo hi : Int) (l : List CrtD) (w : World) (en : Ending) (w' : World) : Prop := ∃ o', en = .returned (dagV N (lo - 1) o') ∧ GIn w' o' (partC l lo hi) ∧ Below w.heap.size w w'
set_option maxRecDepth 100000 in
set_option maxHeartbeats 8000000 in
theorem between_is (N L lo hi : Int) (o : Ad) (l : List CrtD) (w : World) (h : GIn w o l) (ha : AscC l) (h1 : lo ≤ hi + 1) (h2 : -1000000000000000 ≤ lo) (h3 : hi ≤ 1000000000000000) :
    Calls Try.prog 68 #[dagV N L o, .int .i64 lo, .int .i64 hi] w (PartTo N lo hi l w) := by
  obtain ⟨g, hg⟩ : ∃ g, g = w.heap.size := ⟨_, rfl⟩
  obtain ⟨w1, hw1⟩ : ∃ w1, w1 = (w.alloc (.cells (dagC N L o).toArray 24)).alloc (.cells (dagC 0 0 noAd).toArray 24) := ⟨_, rfl⟩
  obtain ⟨hb1, hsz, hx0, hx1⟩ := boxes2 w _ _ _ _ hw1
  rw [← hg] at hb1 hsz hx0 hx1
  have HG : Hid (w.heap.size = g) := hg.symm
  have HW : Hid ((w.alloc (.cells #[.int .i64 N, .int .i64 L, .slice o.A o.n o.c] 24)).alloc (.cells #[.int .i64 0, .int .i64 0, .slice none 0 0] 24) = w1) := hw1.symm
  have HIN : Hid (∀ wX, Below g w wX → GIn wX o l) := fun wX hb => h.below (by rw [← hg]; exact hb)
  have HB := Lib.hid hb1
  have HX0 := Lib.hid hx0
  have HX1 := Lib.hid hx1
  have hgs := hx0.1
  have hfew := h.few
  have hlen := h.len
  have hcap := h.cap
  obtain ⟨c, hc⟩ : ∃ c, c = cutF (isLow lo) l := ⟨_, rfl⟩
  obtain ⟨t, ht⟩ : ∃ t, t = cutF (isLow (hi + 1)) l := ⟨_, rfl⟩
  have hct : c ≤ t := by rw [hc, ht]; exact cutLow_mono h1
  have htn : t ≤ o.n := by rw [ht, ← hlen]; exact cutF_le l
  have HP : Hid (∀ wX, Below g w wX → GIn wX (o.cut c t 6) (partC l lo hi)) := fun wX hb => by
    obtain ⟨ms, hr, hl⟩ := HIN.out wX hb
    refine ⟨_, hr.part hct htn, ?_⟩
    rw [← part_is ha h1, List.map_take, List.map_drop, hl, hc, ht]
  have HF1 : Hid (∀ wX, Below g w wX → Calls Try.prog 92 #[.agg #[.int .i64 N, .int .i64 L, .slice o.A o.n o.c], .int .i64 lo] wX fun e w' => e = .returned (.int .i64 c) ∧ Below wX.heap.size wX w') := fun wX hb => by
    obtain ⟨ms, hr, hl⟩ := HIN.out wX hb
    have := firstFrom_isA N L lo o ms l wX hr hl ha
    rwa [← hc] at this
  have HF2 : Hid (∀ wX, Below g w wX → Calls Try.prog 92 #[.agg #[.int .i64 N, .int .i64 L, .slice o.A o.n o.c], .int .i64 (hi + 1)] wX fun e w' => e = .returned (.int .i64 t) ∧ Below wX.heap.size wX w') := fun wX hb => by
    obtain ⟨ms, hr, hl⟩ := HIN.out wX hb
    have := firstFrom_isA N L (hi + 1) o ms l wX hr hl ha
    rwa [← ht] at this
  obtain ⟨d0, d1, d2⟩ := dag_cells hx0
  obtain ⟨x0, x1, x2⟩ := dag_cells hx1
  have y0 := (hx1.2 0 _ rfl).2
  have y1 := (hx1.2 1 _ rfl).2
  have y2 := (hx1.2 2 _ rfl).2
  have hwr1 : IntKind.i64.wrap (lo - 1) = lo - 1 := IntWalk.i64_in _ (by omega)
  have hwr2 : IntKind.i64.wrap (hi + 1) = hi + 1 := IntWalk.i64_in _ (by omega)
  have hmax := hcap.2
  unfold maxLen at hmax
  have j0 : (0 : Int) ≤ (c : Int) := by omega
  have j1 : (c : Int) ≤ (t : Int) := by omega
  have j2 : (t : Int) ≤ (o.n : Int) := by omega
  have j3 : (t : Int) ≤ (o.c : Int) := by have := hcap.1; omega
  have j4 : c ≤ t := hct
  have j5 : t ≤ o.c := by have := hcap.1; omega
  clear hg hw1 hb1 hsz hx0 hx1 h ha hc ht hct htn hlen hcap hmax h1 h2 h3
  obtain ⟨A, n, cc⟩ := o
  unfold dagV
  unfold Ad.cut at HP
  dsimp only at HP HF1 HF2 HX0 HX1 d2 hfew j2 j3 j5 ⊢
  go_enter Try.func68, Try.ntmps68
  go_upto_region 1 with fail
  rw [HG.out, HW.out]
  have KEEP : Hid (∀ wX, Below w1.heap.size w1 wX → wX.cell? ⟨g, 0, none⟩ = some (.int .i64 N) ∧ wX.cell? ⟨g, 1, none⟩ = some (.int .i64 L) ∧ wX.cell? ⟨g, 2, none⟩ = some (.slice A n cc)) := fun wX hb => dag_cells (HX0.out.below hb HX0.out.1)
  by_cases hcf : cc = c
  · rw [if_pos hcf] at HP
    subst hcf
    obtain rfl : t = cc := by omega
    simp only [Nat.sub_self] at HP
    go_region_held3 (fun wX => wX.cell? ⟨g, 0, none⟩ = some (.int .i64 N) ∧ wX.cell? ⟨g, 1, none⟩ = some (.int .i64 L) ∧ wX.cell? ⟨g, 2, none⟩ = some (.slice A n t))
      (first
        | (refine KEEP.out _ ?_; first
          | with_reducible exact (Below.refl _ _)
          | with_reducible exact (Below.refl _ _).drew
          | with_reducible exact hb14
          | with_reducible exact hb15)
        | (obtain ⟨k0, k1, k2⟩ := KEEP.out w5 hb15
           refine ⟨?_, ?_, ?_⟩ <;> (rw [World.cell?_setCell_other _ _ _ _ (by simp), World.cell?_setCell_other _ _ _ _ (by simp), World.cell?_setCell_other _ _ _ _ (by simp)]; first | exact k0 | exact k1 | exact k2)))
      (first
      | (go_at_call 92; with_reducible refine (HF1.out _ HB.out.drew).mono ?_
         rintro e w4 ⟨rfl, hb4⟩
         have hb14 : Below w1.heap.size w1 w4 := (Below.refl _ _).drew.trans (hb4.mono (by simp))
         have hbb4 : Below g w w4 := HB.out.trans (hb14.mono (Nat.le_of_lt hgs)))
      | (go_at_call 92; with_reducible refine (HF2.out _ hbb4).mono ?_
         rintro e w5 ⟨rfl, hb5⟩
         have hb15 : Below w1.heap.size w1 w5 := hb14.trans (hb5.mono hb14.size)
         have hx5 := HX1.out.below hb15 HX1.out.1
         obtain ⟨q0, q1, q2⟩ := dag_cells hx5
         have z0 := (hx5.2 0 _ rfl).2
         have z1 := (hx5.2 1 _ rfl).2
         have z2 := (hx5.2 2 _ rfl).2))
    all_goals
      obtain ⟨w9, hw9⟩ : ∃ w9, w9 = ((w5.setCell ⟨g + 1, 0, none⟩ (.int .i64 N)).setCell ⟨g + 1, 1, none⟩ (.int .i64 (lo - 1))).setCell ⟨g + 1, 2, none⟩ (.slice (A) (0) (0)) := ⟨_, rfl⟩
      rw [← hw9]
      have hx9 : Box w9 (g + 1) (dagC N (lo - 1) ⟨A, 0, 0⟩) := by rw [hw9]; exact ((hx5.set (j := 0) (show 0 < 3 by decide)).set (j := 1) (show 1 < 3 by decide)).set (j := 2) (show 2 < 3 by decide)
      obtain ⟨r0, r1, r2⟩ := dag_cells hx9
      have hb9 : Below g w w9 := by rw [hw9]; exact (((HB.out.trans (hb15.mono (Nat.le_of_lt hgs))).setCell (Nat.le_succ g) _).setCell (Nat.le_succ g) _).setCell (Nat.le_succ g) _
      have HP9 := HP.out w9 hb9
      clear hw9 hx9 q0 q1 q2 z0 z1 z2 hb4 hb5 hb14 hb15 hx5
      go_wp2_with fail
      refine bodyPost_ret (v := dagV N (lo - 1) ⟨A, 0, 0⟩) (by simp [results, Try.results68, go_sem, r0, r1, r2, dagV]) rfl ⟨⟨A, 0, 0⟩, rfl, HP9, ?_⟩
      rw [HG.out]
      exact hb9
  · rw [if_neg hcf] at HP
    go_region_held3 (fun wX => wX.cell? ⟨g, 0, none⟩ = some (.int .i64 N) ∧ wX.cell? ⟨g, 1, none⟩ = some (.int .i64 L) ∧ wX.cell? ⟨g, 2, none⟩ = some (.slice A n cc))
      (first
        | (refine KEEP.out _ ?_; first
          | with_reducible exact (Below.refl _ _)
          | with_reducible exact (Below.refl _ _).drew
          | with_reducible exact hb14
          | with_reducible exact hb15)
        | (obtain ⟨k0, k1, k2⟩ := KEEP.out w5 hb15
           refine ⟨?_, ?_, ?_⟩ <;> (rw [World.cell?_setCell_other _ _ _ _ (by simp), World.cell?_setCell_other _ _ _ _ (by simp), World.cell?_setCell_other _ _ _ _ (by simp)]; first | exact k0 | exact k1 | exact k2)))
      (first
      | (go_at_call 92; with_reducible refine (HF1.out _ HB.out.drew).mono ?_
         rintro e w4 ⟨rfl, hb4⟩
         have hb14 : Below w1.heap.size w1 w4 := (Below.refl _ _).drew.trans (hb4.mono (by simp))
         have hbb4 : Below g w w4 := HB.out.trans (hb14.mono (Nat.le_of_lt hgs)))
      | (go_at_call 92; with_reducible refine (HF2.out _ hbb4).mono ?_
         rintro e w5 ⟨rfl, hb5⟩
         have hb15 : Below w1.heap.size w1 w5 := hb14.trans (hb5.mono hb14.size)
         have hx5 := HX1.out.below hb15 HX1.out.1
         obtain ⟨q0, q1, q2⟩ := dag_cells hx5
         have z0 := (hx5.2 0 _ rfl).2
         have z1 := (hx5.2 1 _ rfl).2
         have z2 := (hx5.2 2 _ rfl).2))
    all_goals
      obtain ⟨w9, hw9⟩ : ∃ w9, w9 = ((w5.setCell ⟨g + 1, 0, none⟩ (.int .i64 N)).setCell ⟨g + 1, 1, none⟩ (.int .i64 (lo - 1))).setCell ⟨g + 1, 2, none⟩ (.slice (Option.map (fun x => x.add (c * 6)) A) (t - c) (cc - c)) := ⟨_, rfl⟩
      rw [← hw9]
      have hx9 : Box w9 (g + 1) (dagC N (lo - 1) ⟨Option.map (fun x => x.add (c * 6)) A, t - c, cc - c⟩) := by rw [hw9]; exact ((hx5.set (j := 0) (show 0 < 3 by decide)).set (j := 1) (show 1 < 3 by decide)).set (j := 2) (show 2 < 3 by decide)
      obtain ⟨r0, r1, r2⟩ := dag_cells hx9
      have hb9 : Below g w w9 := by rw [hw9]; exact (((HB.out.trans (hb15.mono (Nat.le_of_lt hgs))).setCell (Nat.le_succ g) _).setCell (Nat.le_succ g) _).setCell (Nat.le_succ g) _
      have HP9 := HP.out w9 hb9
      clear hw9 hx9 q0 q1 q2 z0 z1 z2 hb4 hb5 hb14 hb15 hx5
      go_wp2_with fail
      refine bodyPost_ret (v := dagV N (lo - 1) ⟨Option.map (fun x => x.add (c * 6)) A, t - c, cc - c⟩) (by simp [results, Try.results68, go_sem, r0, r1, r2, dagV]) rfl ⟨⟨Option.map (fun x => x.add (c * 6)) A, t - c, cc - c⟩, rfl, HP9, ?_⟩
      rw [HG.out]
      exact hb9
end Go.Proofs.Ytejkeccoialogaa
/-
  Package anchor's Anchor, Votes, Direct.
-/
namespace Go.Proofs.Ytejkeccoialogaa
open Go.RowKit

/-- a list of one number, in a block of its own -/
theorem one_new (w : World) (n : Int) {B : Nat} (hB : B ≤ w.heap.size) : (w.alloc (.cells [Value.int .i64 n].toArray 3)).ownsRow B 3 1 (.slice (some ⟨w.heap.size, 0, none⟩) 1 1) 1 (i64s [n]) :=
  World.ownsRow_lit w #[Value.int .i64 n] 1 hB (by decide) rfl
/-- the first that is so -/
theorem find_at {f : CrtD → Bool} {l : List CrtD} {t : Nat} {x : CrtD} (hx : l[t]? = some x) (h : ∀ k y, k < t → l[k]? = some y → f y = false) (hf : f x = true) : l.find? f = some x := by
  have hc : t = cutF (fun y => !f y) l := cutF_unique (by have := (List.getElem?_eq_some_iff.1 hx).1; omega) (fun k a hk ha => by rw [h k a hk ha]; rfl) (fun a ha => by rw [hx] at ha; cases ha; rw [hf]; rfl)
  rw [find_cut (f := fun y => !f y) (fun x => by simp) l, ← hc]
  exact hx
def ancE (N : Int) (l : List CrtD) (R : Int) : Int := match ancC N l R with
  | some _ => 0
  | none => 3
theorem ancE_some {N R : Int} {l : List CrtD} {x : CrtD} (h : ancC N l R = some x) : ancE N l R = 0 := by rw [ancE, h]
theorem ancE_none {N R : Int} {l : List CrtD} (h : ancC N l R = none) : ancE N l R = 3 := by rw [ancE, h]
set_option maxRecDepth 100000 in
set_option maxHeartbeats 8000000 in
theorem anchor_bad (N L r : Int) (o : Ad) (l : List CrtD) (w : World) (h : GIn w o l) (hm : ¬ MayG N L l) :
    Calls Try.prog 28 #[dagV N L o, .int .i64 r] w (Tells w.heap.size w (.tuple #[.int .i64 0, .int .i64 1])) := by
  obtain ⟨g, hg⟩ : ∃ g, g = w.heap.size := ⟨_, rfl⟩
  obtain ⟨w1, hw1⟩ : ∃ w1, w1 = w.alloc (.cells (dagC N L o).toArray 24) := ⟨_, rfl⟩
  obtain ⟨hb1, hsz, hx0⟩ := boxes1 w _ _ hw1
  rw [← hg] at hb1 hsz hx0
  have HG : Hid (w.heap.size = g) := hg.symm
  have HW : Hid (w.alloc (.cells #[.int .i64 N, .int .i64 L, .slice o.A o.n o.c] 24) = w1) := hw1.symm
  have HIN : Hid (∀ wX, Below g w wX → GIn wX o l) := fun wX hb => h.below (by rw [← hg]; exact hb)
  have HB := Lib.hid hb1
  have HX0 := Lib.hid hx0
  have HD : Hid (∀ wX, Below w1.heap.size w1 wX → wX.cell? ⟨g, 0, none⟩ = some (.int .i64 N) ∧ wX.cell? ⟨g, 1, none⟩ = some (.int .i64 L) ∧ wX.cell? ⟨g, 2, none⟩ = some (.slice o.A o.n o.c)) := fun wX hb => dag_cells (HX0.out.below hb HX0.out.1)
  have hgs := hx0.1
  obtain ⟨d0, d1, d2⟩ := dag_cells hx0
  have HC := Lib.hid (round_bad N L r o l w1 (HIN.out _ hb1) hm)
  clear hg hw1 hb1 hsz hx0 h hm
  unfold dagV at HC ⊢
  go_enter Try.func28, Try.ntmps28
  go_upto_region 1 with fail
  rw [HG.out, HW.out]
  go_wp2_with (go_at_call 65; refine HC.out.mono ?_; rintro e w2 ⟨rfl, hb2⟩)
  go_ret2
  exact ⟨rfl, by rw [HG.out]; exact HB.out.trans (hb2.mono (Nat.le_of_lt hgs))⟩
set_option maxRecDepth 100000 in
set_option maxHeartbeats 8000000 in
theorem anchor_odd (N L r : Int) (o : Ad) (l : List CrtD) (w : World) (h : GIn w o l) (hm : MayG N L l) (hr : evn r = false) :
    Calls Try.prog 28 #[dagV N L o, .int .i64 r] w (Tells w.heap.size w (.tuple #[.int .i64 0, .int .i64 1])) := by
  obtain ⟨g, hg⟩ : ∃ g, g = w.heap.size := ⟨_, rfl⟩
  obtain ⟨w1, hw1⟩ : ∃ w1, w1 = w.alloc (.cells (dagC N L o).toArray 24) := ⟨_, rfl⟩
  obtain ⟨hb1, hsz, hx0⟩ := boxes1 w _ _ hw1
  rw [← hg] at hb1 hsz hx0
  have HG : Hid (w.heap.size = g) := hg.symm
  have HW : Hid (w.alloc (.cells #[.int .i64 N, .int .i64 L, .slice o.A o.n o.c] 24) = w1) := hw1.symm
  have HIN : Hid (∀ wX, Below g w wX → GIn wX o l) := fun wX hb => h.below (by rw [← hg]; exact hb)
  have HB := Lib.hid hb1
  have HX0 := Lib.hid hx0
  have HD : Hid (∀ wX, Below w1.heap.size w1 wX → wX.cell? ⟨g, 0, none⟩ = some (.int .i64 N) ∧ wX.cell? ⟨g, 1, none⟩ = some (.int .i64 L) ∧ wX.cell? ⟨g, 2, none⟩ = some (.slice o.A o.n o.c)) := fun wX hb => dag_cells (HX0.out.below hb HX0.out.1)
  have hgs := hx0.1
  obtain ⟨d0, d1, d2⟩ := dag_cells hx0
  have HC := Lib.hid (round_ok N L r o l w1 (HIN.out _ hb1) hm)
  have HL := Lib.hid (fun wX => leader_odd N r hm.n hr wX)
  clear hg hw1 hb1 hsz hx0 h hm
  clear hr
  unfold dagV at HC ⊢
  go_enter Try.func28, Try.ntmps28
  go_upto_region 1 with fail
  rw [HG.out, HW.out]
  go_wp2_with (first
    | (go_at_call 65; refine HC.out.mono ?_; rintro e w2 ⟨⟨A2, n2, c2⟩, ms2, rfl, ho2, hm2, hb2⟩; obtain ⟨e0, e1, e2⟩ := HD.out w2 hb2)
    | (go_at_call 66; refine (HL.out _).mono ?_; rintro e w3 ⟨rfl, rfl⟩))
  go_ret2
  exact ⟨rfl, by rw [HG.out]; exact HB.out.trans (hb2.mono (Nat.le_of_lt hgs))⟩
set_option maxRecDepth 100000 in
set_option maxHeartbeats 8000000 in
theorem anchor_is (N L r : Int) (o : Ad) (l : List CrtD) (w : World) (h : GIn w o l) (hm : MayG N L l) (hr : evn r = true) :
    Calls Try.prog 28 #[dagV N L o, .int .i64 r] w (Tells w.heap.size w (.tuple #[.int .i64 (ancN N l r), .int .i64 (ancE N l r)])) := by
  obtain ⟨g, hg⟩ : ∃ g, g = w.heap.size := ⟨_, rfl⟩
  obtain ⟨w1, hw1⟩ : ∃ w1, w1 = w.alloc (.cells (dagC N L o).toArray 24) := ⟨_, rfl⟩
  obtain ⟨hb1, hsz, hx0⟩ := boxes1 w _ _ hw1
  rw [← hg] at hb1 hsz hx0
  have HG : Hid (w.heap.size = g) := hg.symm
  have HW : Hid (w.alloc (.cells #[.int .i64 N, .int .i64 L, .slice o.A o.n o.c] 24) = w1) := hw1.symm
  have HIN : Hid (∀ wX, Below g w wX → GIn wX o l) := fun wX hb => h.below (by rw [← hg]; exact hb)
  have HB := Lib.hid hb1
  have HX0 := Lib.hid hx0
  have HD : Hid (∀ wX, Below w1.heap.size w1 wX → wX.cell? ⟨g, 0, none⟩ = some (.int .i64 N) ∧ wX.cell? ⟨g, 1, none⟩ = some (.int .i64 L) ∧ wX.cell? ⟨g, 2, none⟩ = some (.slice o.A o.n o.c)) := fun wX hb => dag_cells (HX0.out.below hb HX0.out.1)
  have hgs := hx0.1
  obtain ⟨d0, d1, d2⟩ := dag_cells hx0
  have HC := Lib.hid (round_ok N L r o l w1 (HIN.out _ hb1) hm)
  obtain ⟨ld, hld⟩ : ∃ ld, leadC N r = ld := ⟨_, rfl⟩
  have HL := Lib.hid (fun wX => leader_is N r ld hm.n hr hld wX)
  have HANC : Hid (ancC N l r = (inR l r).find? fun y => decide (y.a = ld)) := by show _ = _; rw [← hld]; exact ancC_inR r
  have HFIT : Hid (∀ x ∈ inR l r, CrtFit x) := fun x hx => h.fit (mem_inR.1 hx).1
  have HSM : Hid ((inR l r).length ≤ 1000000) := by show _ ≤ _; have := h.few; have := h.len; have : (inR l r).length ≤ l.length := List.length_filter_le _ _; omega
  clear hg hw1 hb1 hsz hx0 h hm
  clear hr hld
  unfold dagV at HC ⊢
  go_enter Try.func28, Try.ntmps28
  go_upto_region 1 with fail
  rw [HG.out, HW.out]
  go_wp2_with (first
    | (go_at_call 65; refine HC.out.mono ?_; rintro e w2 ⟨o2, ms2, rfl, ho2, hm2, hb2⟩; obtain ⟨e0, e1, e2⟩ := HD.out w2 hb2)
    | (go_at_call 66; refine (HL.out _).mono ?_; rintro e w3 ⟨rfl, rfl⟩))
  have HGN : Hid (∀ wX, Below w2.heap.size w2 wX → GIn wX o2 (inR l r)) := fun wX hb => ⟨ms2, (ho2.below hb).in_ (fun x hx => HFIT.out x.1 (by rw [← hm2]; exact List.mem_map_of_mem hx)) (by have := HSM.out; rw [← hm2, List.length_map] at this; exact this), hm2⟩
  have HB2 : Hid (Below g w w2) := HB.out.trans (hb2.mono (Nat.le_of_lt hgs))
  have HS2 : Hid (g ≤ w2.heap.size) := by show _ ≤ _; have := hb2.size; omega
  clear d0 d1 d2 e0 e1 e2 ho2 hm2 hb2
  obtain ⟨m, hm2⟩ : ∃ m, inR l r = m := ⟨_, rfl⟩
  rw [hm2] at HANC HFIT HSM HGN
  have HLEN : Hid (m.length = o2.n) := (HGN.out _ (Below.refl _ _)).len
  have hn2 : o2.n ≤ 1000000 := (HGN.out _ (Below.refl _ _)).few
  have HGET : Hid (∀ (i : Nat) (x : CrtD), m[i]? = some x → ∃ (b off : Nat) (a : CrtA), o2.A = some ⟨b, off, none⟩ ∧ b < w2.heap.size ∧ CrtFit x ∧ ∀ wX, Below w2.heap.size w2 wX → CrtAt wX b off i x a) := fun i x hx => (HGN.out _ (Below.refl _ _)).get hx
  clear hm2 hgs
  obtain ⟨A2, n2, c2⟩ := o2
  dsimp only at HLEN hn2 HGET
  go_loopw [32] (fun i wr => ∃ t : Nat, i = .int .i64 t ∧ t ≤ n2 ∧ Hid (∀ k y, k < t → m[k]? = some y → decide (y.a = ld) = false) ∧ Hid (Below w2.heap.size w2 wr)) (fun i _ => n2 - (intOf i).toNat)
  case atStart => exact ⟨0, rfl, Nat.zero_le _, fun k y hk => absurd hk (Nat.not_lt_zero k), Below.refl _ _⟩
  case round =>
    obtain ⟨t, rfl, ht, HNO, HBR⟩ := hrel
    by_cases hlt : t < n2
    · obtain ⟨x, hx⟩ : ∃ x, m[t]? = some x := ⟨_, List.getElem?_eq_getElem (by rw [HLEN.out]; exact hlt)⟩
      obtain ⟨b, off, a', rfl, hbl, -, hce⟩ := HGET.out t x hx
      obtain ⟨k0, k1, k2, k3, k4, k5, -⟩ := hce wr HBR.out
      have HX := Lib.hid hx
      have i0 : (0 : Int) ≤ (t : Int) := by omega
      have i1 : (t : Int) < (n2 : Int) := by omega
      clear hx hce
      go_upto_region 10 with fail
      obtain ⟨G, hG⟩ : ∃ G, G = wr.heap.size := ⟨_, rfl⟩
      obtain ⟨w5, hw5⟩ : ∃ w5, w5 = wr.alloc (.cells (crtC x a').toArray 37) := ⟨_, rfl⟩
      obtain ⟨hb5, hs5, hx5⟩ := boxes1 wr _ _ hw5
      rw [← hG] at hs5 hx5
      have HGE : Hid (wr.heap.size = G) := hG.symm
      have HW5 : Hid (wr.alloc (.cells #[.int .i64 x.a, .int .i64 x.r, .slice a'.B.A a'.B.n a'.B.c, .slice a'.P.A a'.P.n a'.P.c, .int .i64 x.d, .slice a'.S.A a'.S.n a'.S.c] 37) = w5) := hw5.symm
      rw [HGE.out, HW5.out]
      have HB5 : Hid (Below w2.heap.size w2 w5) := HBR.out.trans (hb5.mono HBR.out.size)
      clear hw5 hb5 hG hs5 k0 k1 k2 k3 k4 k5
      obtain ⟨c0, c1, c2, c3, c4, c5⟩ := crt_cells hx5
      by_cases hd : x.a = ld
      · have j1 : (x.a == ld) = true := by simp [hd]
        have HF : Hid (ancC N l r = some x) := by
          show _ = _
          rw [HANC.out]
          exact find_at HX.out HNO.out (by simp [hd])
        have HN : Hid (ancN N l r = x.d) := ancN_some HF.out
        have HE : Hid (ancE N l r = 0) := ancE_some HF.out
        clear hd
        go_wp2_with fail
        go_ret2
        exact ⟨by rw [HN.out, HE.out]; rfl, by rw [HG.out]; exact HB2.out.trans (HB5.out.mono HS2.out)⟩
      · have j1 : (x.a == ld) = false := by simp [hd]
        have HNO2 : Hid (∀ k y, k < t + 1 → m[k]? = some y → decide (y.a = ld) = false) := fun k y h1 hy => by
          rcases Nat.lt_or_ge k t with h3 | h3
          · exact HNO.out k y h3 hy
          · have : k = t := by omega
            subst this
            rw [HX.out] at hy
            cases hy
            simp [hd]
        clear hd
        go_wp2_with fail
        go_roundw
        case rel => exact ⟨t + 1, by go_num, hlt, HNO2.out, HB5.out⟩
        case measure => simp [intOf]; omega
    · obtain rfl : t = n2 := by omega
      have i1 : ¬ ((t : Int) < (t : Int)) := by omega
      have HF : Hid (ancC N l r = none) := by
        show _ = _
        rw [HANC.out, List.find?_eq_none]
        intro x hx
        obtain ⟨k, hk⟩ := List.mem_iff_getElem?.1 hx
        have hkl := (List.getElem?_eq_some_iff.1 hk).1
        rw [HNO.out k x (by have := HLEN.out; omega) hk]
        simp
      have HN : Hid (ancN N l r = 0) := ancN_none HF.out
      have HE : Hid (ancE N l r = 3) := ancE_none HF.out
      clear hlt
      go_wp2_with fail
      go_ret2
      exact ⟨by rw [HN.out, HE.out]; rfl, by rw [HG.out]; exact HB2.out.trans (HBR.out.mono HS2.out)⟩

end Go.Proofs.Ytejkeccoialogaa
/-
  Package anchor's Votes, Direct.
-/
namespace Go.Proofs.Ytejkeccoialogaa
open Go.RowKit

/-- how many of the next round name it -/
def votN (l : List CrtD) (r p : Int) : Nat := ((inR l (r + 1)).filter fun y => inB y.P p).length
def votC (N : Int) (l : List CrtD) (r : Int) : Int := match ancC N l r with
  | some x => votN l r x.d
  | none => 0
def dirC (N : Int) (l : List CrtD) (r : Int) : Bool := decide (N / 3 + 1 ≤ votC N l r)
theorem votC_some {N r : Int} {l : List CrtD} {x : CrtD} (h : ancC N l r = some x) : votC N l r = votN l r x.d := by rw [votC, h]
theorem votC_none {N r : Int} {l : List CrtD} (h : ancC N l r = none) : votC N l r = 0 := by rw [votC, h]
theorem votC_nn (N r : Int) (l : List CrtD) : 0 ≤ votC N l r := by
  unfold votC
  split <;> omega
theorem take_filterA {f : CrtD → Bool} {l : List CrtD} {k : Nat} {y : CrtD} (h : l[k]? = some y) : ((l.take (k + 1)).filter f).length = ((l.take k).filter f).length + (if f y = true then 1 else 0) := by
  rw [List.take_add_one, h, List.filter_append, List.length_append]
  congr 1
  simp only [Option.toList, List.filter_cons, List.filter_nil]
  split <;> rfl
set_option maxRecDepth 100000 in
set_option maxHeartbeats 8000000 in
theorem votes_bad (N L r : Int) (o : Ad) (l : List CrtD) (w : World) (h : GIn w o l) (hm : ¬ MayG N L l) :
    Calls Try.prog 33 #[dagV N L o, .int .i64 r] w (Tells w.heap.size w (.tuple #[.int .i64 0, .int .i64 1])) := by
  obtain ⟨g, hg⟩ : ∃ g, g = w.heap.size := ⟨_, rfl⟩
  obtain ⟨w1, hw1⟩ : ∃ w1, w1 = w.alloc (.cells (dagC N L o).toArray 24) := ⟨_, rfl⟩
  obtain ⟨hb1, hsz, hx0⟩ := boxes1 w _ _ hw1
  rw [← hg] at hb1 hsz hx0
  have HG : Hid (w.heap.size = g) := hg.symm
  have HW : Hid (w.alloc (.cells #[.int .i64 N, .int .i64 L, .slice o.A o.n o.c] 24) = w1) := hw1.symm
  have HIN : Hid (∀ wX, Below g w wX → GIn wX o l) := fun wX hb => h.below (by rw [← hg]; exact hb)
  have HB := Lib.hid hb1
  have HX0 := Lib.hid hx0
  have HD : Hid (∀ wX, Below w1.heap.size w1 wX → wX.cell? ⟨g, 0, none⟩ = some (.int .i64 N) ∧ wX.cell? ⟨g, 1, none⟩ = some (.int .i64 L) ∧ wX.cell? ⟨g, 2, none⟩ = some (.slice o.A o.n o.c)) := fun wX hb => dag_cells (HX0.out.below hb HX0.out.1)
  have hgs := hx0.1
  obtain ⟨d0, d1, d2⟩ := dag_cells hx0
  have HC := Lib.hid (anchor_bad N L r o l w1 (HIN.out _ hb1) hm)
  clear hg hw1 hb1 hsz hx0 h hm
  unfold dagV at HC ⊢
  go_enter Try.func33, Try.ntmps33
  go_upto_region 1 with fail
  rw [HG.out, HW.out]
  go_wp2_with (go_at_call 28; refine HC.out.mono ?_; rintro e w2 ⟨rfl, hb2⟩)
  go_ret2
  exact ⟨rfl, by rw [HG.out]; exact HB.out.trans (hb2.mono (Nat.le_of_lt hgs))⟩
set_option maxRecDepth 100000 in
set_option maxHeartbeats 8000000 in
theorem votes_odd (N L r : Int) (o : Ad) (l : List CrtD) (w : World) (h : GIn w o l) (hm : MayG N L l) (hr : evn r = false) :
    Calls Try.prog 33 #[dagV N L o, .int .i64 r] w (Tells w.heap.size w (.tuple #[.int .i64 0, .int .i64 1])) := by
  obtain ⟨g, hg⟩ : ∃ g, g = w.heap.size := ⟨_, rfl⟩
  obtain ⟨w1, hw1⟩ : ∃ w1, w1 = w.alloc (.cells (dagC N L o).toArray 24) := ⟨_, rfl⟩
  obtain ⟨hb1, hsz, hx0⟩ := boxes1 w _ _ hw1
  rw [← hg] at hb1 hsz hx0
  have HG : Hid (w.heap.size = g) := hg.symm
  have HW : Hid (w.alloc (.cells #[.int .i64 N, .int .i64 L, .slice o.A o.n o.c] 24) = w1) := hw1.symm
  have HIN : Hid (∀ wX, Below g w wX → GIn wX o l) := fun wX hb => h.below (by rw [← hg]; exact hb)
  have HB := Lib.hid hb1
  have HX0 := Lib.hid hx0
  have HD : Hid (∀ wX, Below w1.heap.size w1 wX → wX.cell? ⟨g, 0, none⟩ = some (.int .i64 N) ∧ wX.cell? ⟨g, 1, none⟩ = some (.int .i64 L) ∧ wX.cell? ⟨g, 2, none⟩ = some (.slice o.A o.n o.c)) := fun wX hb => dag_cells (HX0.out.below hb HX0.out.1)
  have hgs := hx0.1
  obtain ⟨d0, d1, d2⟩ := dag_cells hx0
  have HC := Lib.hid (anchor_odd N L r o l w1 (HIN.out _ hb1) hm hr)
  clear hg hw1 hb1 hsz hx0 h hm
  clear hr
  unfold dagV at HC ⊢
  go_enter Try.func33, Try.ntmps33
  go_upto_region 1 with fail
  rw [HG.out, HW.out]
  go_wp2_with (go_at_call 28; refine HC.out.mono ?_; rintro e w2 ⟨rfl, hb2⟩)
  go_ret2
  exact ⟨rfl, by rw [HG.out]; exact HB.out.trans (hb2.mono (Nat.le_of_lt hgs))⟩
set_option maxRecDepth 100000 in
set_option maxHeartbeats 8000000 in
theorem votes_none (N L r : Int) (o : Ad) (l : List CrtD) (w : World) (h : GIn w o l) (hm : MayG N L l) (hr : evn r = true) (ha : ancC N l r = none) :
    Calls Try.prog 33 #[dagV N L o, .int .i64 r] w (Tells w.heap.size w (.tuple #[.int .i64 0, .int .i64 0])) := by
  obtain ⟨g, hg⟩ : ∃ g, g = w.heap.size := ⟨_, rfl⟩
  obtain ⟨w1, hw1⟩ : ∃ w1, w1 = w.alloc (.cells (dagC N L o).toArray 24) := ⟨_, rfl⟩
  obtain ⟨hb1, hsz, hx0⟩ := boxes1 w _ _ hw1
  rw [← hg] at hb1 hsz hx0
  have HG : Hid (w.heap.size = g) := hg.symm
  have HW : Hid (w.alloc (.cells #[.int .i64 N, .int .i64 L, .slice o.A o.n o.c] 24) = w1) := hw1.symm
  have HIN : Hid (∀ wX, Below g w wX → GIn wX o l) := fun wX hb => h.below (by rw [← hg]; exact hb)
  have HB := Lib.hid hb1
  have HX0 := Lib.hid hx0
  have HD : Hid (∀ wX, Below w1.heap.size w1 wX → wX.cell? ⟨g, 0, none⟩ = some (.int .i64 N) ∧ wX.cell? ⟨g, 1, none⟩ = some (.int .i64 L) ∧ wX.cell? ⟨g, 2, none⟩ = some (.slice o.A o.n o.c)) := fun wX hb => dag_cells (HX0.out.below hb HX0.out.1)
  have hgs := hx0.1
  obtain ⟨d0, d1, d2⟩ := dag_cells hx0
  have HC := Lib.hid (anchor_is N L r o l w1 (HIN.out _ hb1) hm hr)
  rw [ancN_none ha, ancE_none ha] at HC
  clear hg hw1 hb1 hsz hx0 h hm
  clear hr ha
  unfold dagV at HC ⊢
  go_enter Try.func33, Try.ntmps33
  go_upto_region 1 with fail
  rw [HG.out, HW.out]
  go_wp2_with (go_at_call 28; refine HC.out.mono ?_; rintro e w2 ⟨rfl, hb2⟩)
  go_ret2
  exact ⟨rfl, by rw [HG.out]; exact HB.out.trans (hb2.mono (Nat.le_of_lt hgs))⟩
set_option maxRecDepth 100000 in
set_option maxHeartbeats 8000000 in
theorem votes_some (N L r : Int) (o : Ad) (l : List CrtD) (z : CrtD) (w : World) (h : GIn w o l) (hm : MayG N L l) (hr : evn r = true) (ha : ancC N l r = some z) :
    Calls Try.prog 33 #[dagV N L o, .int .i64 r] w (Tells w.heap.size w (.tuple #[.int .i64 (votN l r z.d), .int .i64 0])) := by
  obtain ⟨g, hg⟩ : ∃ g, g = w.heap.size := ⟨_, rfl⟩
  obtain ⟨w1, hw1⟩ : ∃ w1, w1 = w.alloc (.cells (dagC N L o).toArray 24) := ⟨_, rfl⟩
  obtain ⟨hb1, hsz, hx0⟩ := boxes1 w _ _ hw1
  rw [← hg] at hb1 hsz hx0
  have HG : Hid (w.heap.size = g) := hg.symm
  have HW : Hid (w.alloc (.cells #[.int .i64 N, .int .i64 L, .slice o.A o.n o.c] 24) = w1) := hw1.symm
  have HIN : Hid (∀ wX, Below g w wX → GIn wX o l) := fun wX hb => h.below (by rw [← hg]; exact hb)
  have HB := Lib.hid hb1
  have HX0 := Lib.hid hx0
  have HD : Hid (∀ wX, Below w1.heap.size w1 wX → wX.cell? ⟨g, 0, none⟩ = some (.int .i64 N) ∧ wX.cell? ⟨g, 1, none⟩ = some (.int .i64 L) ∧ wX.cell? ⟨g, 2, none⟩ = some (.slice o.A o.n o.c)) := fun wX hb => dag_cells (HX0.out.below hb HX0.out.1)
  have hgs := hx0.1
  obtain ⟨d0, d1, d2⟩ := dag_cells hx0
  have HC := Lib.hid (anchor_is N L r o l w1 (HIN.out _ hb1) hm hr)
  rw [ancN_some ha, ancE_some ha] at HC
  obtain ⟨hr1, hr2, -⟩ := evn_yes hr
  have hlr : L < r := by have := (hm.of_mem (ancC_some ha).1).2; have := (ancC_some ha).2.1; omega
  have HBE : Hid (∀ wX, Below g w wX → Calls Try.prog 68 #[dagV N L o, .int .i64 r, .int .i64 (r + 1)] wX (PartTo N r (r + 1) l wX)) := fun wX hb => between_is N L r (r + 1) o l wX (HIN.out _ hb) hm.asc (by omega) (by omega) (by omega)
  have hpm : MayG N (r - 1) (partC l r (r + 1)) := may_part hm hlr (by omega)
  have HRD : Hid (∀ o' wX, GIn wX o' (partC l r (r + 1)) → Calls Try.prog 65 #[dagV N (r - 1) o', .int .i64 (r + 1)] wX (RoundOk (inR l (r + 1)) (r + 1) wX)) := fun o' wX hg' => by
    have := round_ok N (r - 1) (r + 1) o' _ wX hg' hpm
    refine this.mono fun e w' hh => ?_
    obtain ⟨o2, ms2, e1, e2, e3, e4⟩ := hh
    exact ⟨o2, ms2, e1, e2, by rw [e3, inR_partC (by omega) (by omega)]; unfold inR; rw [List.filter_filter]; simp, e4⟩
  have HFIT : Hid (∀ x ∈ inR l (r + 1), CrtFit x) := fun x hx => h.fit (mem_inR.1 hx).1
  have HSM : Hid ((inR l (r + 1)).length ≤ 1000000) := by show _ ≤ _; have := h.few; have := h.len; have : (inR l (r + 1)).length ≤ l.length := List.length_filter_le _ _; omega
  have hidem : inR (inR l (r + 1)) (r + 1) = inR l (r + 1) := by unfold inR; rw [List.filter_filter]; simp
  clear hg hw1 hb1 hsz hx0 h hm
  clear hr ha hpm
  unfold dagV at HC HBE HRD ⊢
  go_enter Try.func33, Try.ntmps33
  go_upto_region 1 with fail
  rw [HG.out, HW.out]
  have hwr : IntKind.i64.wrap (r + 1) = r + 1 := IntWalk.i64_in _ (by omega)
  go_wp2_with (first
    | (go_at_call 28; refine HC.out.mono ?_; rintro e w2 ⟨rfl, hb2⟩; have hbw2 := HB.out.trans (hb2.mono (Nat.le_of_lt hgs)); obtain ⟨e0, e1, e2⟩ := HD.out w2 hb2)
    | (go_at_call 68; refine (HBE.out _ hbw2).mono ?_; rintro e w3 ⟨o3, rfl, hg3, hb3⟩; dsimp only [dagV])
    | (go_at_call 65; refine (HRD.out _ _ hg3).mono ?_; rintro e w4 ⟨o2, ms2, rfl, ho2, hm2, hb4⟩; rw [hidem] at hm2))
  have hs2 := hb2.size
  have hs3 := hb3.size
  have HB2 : Hid (Below g w w4) := (hbw2.trans (hb3.mono (by omega))).trans (hb4.mono (by omega))
  have HS2 : Hid (g ≤ w4.heap.size) := by show _ ≤ _; have := hb4.size; omega
  have HGN : Hid (∀ wX, Below w4.heap.size w4 wX → GIn wX o2 (inR l (r + 1))) := fun wX hb => ⟨ms2, (ho2.below hb).in_ (fun x hx => HFIT.out x.1 (by rw [← hm2]; exact List.mem_map_of_mem hx)) (by have := HSM.out; rw [← hm2, List.length_map] at this; exact this), hm2⟩
  clear d0 d1 d2 e0 e1 e2 ho2 hm2 hb2 hb3 hb4 hs2 hs3 hg3 hidem hbw2 hwr
  have HVN : Hid (votN l r z.d = ((inR l (r + 1)).filter fun y => inB y.P z.d).length) := rfl
  obtain ⟨m, hm2⟩ : ∃ m, inR l (r + 1) = m := ⟨_, rfl⟩
  rw [hm2] at HFIT HSM HGN HVN
  have HLEN : Hid (m.length = o2.n) := (HGN.out _ (Below.refl _ _)).len
  have hn2 : o2.n ≤ 1000000 := (HGN.out _ (Below.refl _ _)).few
  have HGET : Hid (∀ (i : Nat) (x : CrtD), m[i]? = some x → ∃ (b off : Nat) (a : CrtA), o2.A = some ⟨b, off, none⟩ ∧ b < w4.heap.size ∧ CrtFit x ∧ ∀ wX, Below w4.heap.size w4 wX → CrtAt wX b off i x a) := fun i x hx => (HGN.out _ (Below.refl _ _)).get hx
  clear hm2 hgs
  obtain ⟨A2, n2, c2⟩ := o2
  dsimp only at HLEN hn2 HGET
  obtain ⟨p, hp⟩ : ∃ p, p = z.d := ⟨_, rfl⟩
  rw [← hp] at HVN ⊢
  have HPZ := Lib.hid hp
  clear hp
  go_loopw [37, 10] (fun i v wr => ∃ t c : Nat, i = .int .i64 t ∧ v = .int .i64 c ∧ t ≤ n2 ∧ c ≤ t ∧ Hid (c = ((m.take t).filter fun y => inB y.P p).length) ∧ Hid (Below w4.heap.size w4 wr)) (fun i _ _ => n2 - (intOf i).toNat)
  case atStart => exact ⟨0, 0, rfl, rfl, Nat.zero_le _, Nat.le_refl _, rfl, Below.refl _ _⟩
  case round =>
    obtain ⟨t, c, rfl, rfl, ht, hct, HCT, HBR⟩ := hrel
    by_cases hlt : t < n2
    · obtain ⟨x, hx⟩ : ∃ x, m[t]? = some x := ⟨_, List.getElem?_eq_getElem (by rw [HLEN.out]; exact hlt)⟩
      obtain ⟨b, off, a', rfl, hbl, hfx, hce⟩ := HGET.out t x hx
      obtain ⟨k0, k1, k2, k3, k4, k5, -⟩ := hce wr HBR.out
      have HCN : Hid (∀ wX, Below w4.heap.size w4 wX → Calls Try.prog 69 #[.slice a'.P.A a'.P.n a'.P.c, .int .i64 p] wX fun e w' => e = .returned (.bool (inB x.P p)) ∧ w' = wX) := fun wX hb => by
        have hin := (hce wX hb).in_
        exact contains_is p a'.P x.P wX hin.p.len hin.p.rd (by have := hfx.lP; have := hin.p.len; omega)
      have HNX : Hid (((m.take (t + 1)).filter fun y => inB y.P p).length = c + (if inB x.P p = true then 1 else 0)) := by show _ = _; rw [take_filterA (f := fun y => inB y.P p) hx, ← HCT.out]
      have i0 : (0 : Int) ≤ (t : Int) := by omega
      have i1 : (t : Int) < (n2 : Int) := by omega
      clear hx hce hfx
      go_upto_region 11 with fail
      obtain ⟨G, hG⟩ : ∃ G, G = wr.heap.size := ⟨_, rfl⟩
      obtain ⟨w5, hw5⟩ : ∃ w5, w5 = wr.alloc (.cells (crtC x a').toArray 37) := ⟨_, rfl⟩
      obtain ⟨hb5, hs5, hx5⟩ := boxes1 wr _ _ hw5
      rw [← hG] at hs5 hx5
      have HGE : Hid (wr.heap.size = G) := hG.symm
      have HW5 : Hid (wr.alloc (.cells #[.int .i64 x.a, .int .i64 x.r, .slice a'.B.A a'.B.n a'.B.c, .slice a'.P.A a'.P.n a'.P.c, .int .i64 x.d, .slice a'.S.A a'.S.n a'.S.c] 37) = w5) := hw5.symm
      rw [HGE.out, HW5.out]
      have HB5 : Hid (Below w4.heap.size w4 w5) := HBR.out.trans (hb5.mono HBR.out.size)
      clear hw5 hb5 hG hs5 k0 k1 k2 k3 k4 k5
      obtain ⟨c0, c1, c2, c3, c4, c5⟩ := crt_cells hx5
      obtain ⟨bq, hbq⟩ : ∃ bq, inB x.P p = bq := ⟨_, rfl⟩
      rw [hbq] at HCN HNX
      clear hbq
      cases bq
      · go_wp2_with (go_at_call 69; refine (HCN.out _ HB5.out).mono ?_; rintro e w6 ⟨rfl, rfl⟩)
        go_roundw
        case rel => exact ⟨t + 1, c, by go_num, rfl, hlt, by omega, by rw [HNX.out]; rfl, HB5.out⟩
        case measure => simp [intOf]; omega
      · go_wp2_with (go_at_call 69; refine (HCN.out _ HB5.out).mono ?_; rintro e w6 ⟨rfl, rfl⟩)
        go_roundw
        case rel => exact ⟨t + 1, c + 1, by go_num, by go_num, hlt, by omega, by rw [HNX.out]; rfl, HB5.out⟩
        case measure => simp [intOf]; omega
    · obtain rfl : t = n2 := by omega
      have i1 : ¬ ((t : Int) < (t : Int)) := by omega
      have HV : Hid (votN l r p = c) := by
        show _ = _
        rw [HVN.out, HCT.out, List.take_of_length_le (by rw [HLEN.out]; exact Nat.le_refl _)]
      clear hlt
      go_wp2_with fail
      go_ret2
      exact ⟨by rw [← HPZ.out, HV.out]; rfl, by rw [HG.out]; exact HB2.out.trans (HBR.out.mono HS2.out)⟩
theorem votes_is (N L r : Int) (o : Ad) (l : List CrtD) (w : World) (h : GIn w o l) (hm : MayG N L l) (hr : evn r = true) :
    Calls Try.prog 33 #[dagV N L o, .int .i64 r] w (Tells w.heap.size w (.tuple #[.int .i64 (votC N l r), .int .i64 0])) := by
  cases ha : ancC N l r with
  | none => rw [votC_none ha]; exact votes_none N L r o l w h hm hr ha
  | some z => rw [votC_some ha]; exact votes_some N L r o l z w h hm hr ha

set_option maxRecDepth 100000 in
set_option maxHeartbeats 8000000 in
theorem direct_bad (N L r : Int) (o : Ad) (l : List CrtD) (w : World) (h : GIn w o l) (hm : ¬ MayG N L l) :
    Calls Try.prog 34 #[dagV N L o, .int .i64 r] w (Tells w.heap.size w (.tuple #[.bool false, .int .i64 1])) := by
  obtain ⟨g, hg⟩ : ∃ g, g = w.heap.size := ⟨_, rfl⟩
  obtain ⟨w1, hw1⟩ : ∃ w1, w1 = w.alloc (.cells (dagC N L o).toArray 24) := ⟨_, rfl⟩
  obtain ⟨hb1, hsz, hx0⟩ := boxes1 w _ _ hw1
  rw [← hg] at hb1 hsz hx0
  have HG : Hid (w.heap.size = g) := hg.symm
  have HW : Hid (w.alloc (.cells #[.int .i64 N, .int .i64 L, .slice o.A o.n o.c] 24) = w1) := hw1.symm
  have HIN : Hid (∀ wX, Below g w wX → GIn wX o l) := fun wX hb => h.below (by rw [← hg]; exact hb)
  have HB := Lib.hid hb1
  have HX0 := Lib.hid hx0
  have HD : Hid (∀ wX, Below w1.heap.size w1 wX → wX.cell? ⟨g, 0, none⟩ = some (.int .i64 N) ∧ wX.cell? ⟨g, 1, none⟩ = some (.int .i64 L) ∧ wX.cell? ⟨g, 2, none⟩ = some (.slice o.A o.n o.c)) := fun wX hb => dag_cells (HX0.out.below hb HX0.out.1)
  have hgs := hx0.1
  obtain ⟨d0, d1, d2⟩ := dag_cells hx0
  have HC := Lib.hid (votes_bad N L r o l w1 (HIN.out _ hb1) hm)
  clear hg hw1 hb1 hsz hx0 h hm
  unfold dagV at HC ⊢
  go_enter Try.func34, Try.ntmps34
  go_upto_region 1 with fail
  rw [HG.out, HW.out]
  go_wp2_with (go_at_call 33; refine HC.out.mono ?_; rintro e w2 ⟨rfl, hb2⟩)
  go_ret2
  exact ⟨rfl, by rw [HG.out]; exact HB.out.trans (hb2.mono (Nat.le_of_lt hgs))⟩
set_option maxRecDepth 100000 in
set_option maxHeartbeats 8000000 in
theorem direct_odd (N L r : Int) (o : Ad) (l : List CrtD) (w : World) (h : GIn w o l) (hm : MayG N L l) (hr : evn r = false) :
    Calls Try.prog 34 #[dagV N L o, .int .i64 r] w (Tells w.heap.size w (.tuple #[.bool false, .int .i64 1])) := by
  obtain ⟨g, hg⟩ : ∃ g, g = w.heap.size := ⟨_, rfl⟩
  obtain ⟨w1, hw1⟩ : ∃ w1, w1 = w.alloc (.cells (dagC N L o).toArray 24) := ⟨_, rfl⟩
  obtain ⟨hb1, hsz, hx0⟩ := boxes1 w _ _ hw1
  rw [← hg] at hb1 hsz hx0
  have HG : Hid (w.heap.size = g) := hg.symm
  have HW : Hid (w.alloc (.cells #[.int .i64 N, .int .i64 L, .slice o.A o.n o.c] 24) = w1) := hw1.symm
  have HIN : Hid (∀ wX, Below g w wX → GIn wX o l) := fun wX hb => h.below (by rw [← hg]; exact hb)
  have HB := Lib.hid hb1
  have HX0 := Lib.hid hx0
  have HD : Hid (∀ wX, Below w1.heap.size w1 wX → wX.cell? ⟨g, 0, none⟩ = some (.int .i64 N) ∧ wX.cell? ⟨g, 1, none⟩ = some (.int .i64 L) ∧ wX.cell? ⟨g, 2, none⟩ = some (.slice o.A o.n o.c)) := fun wX hb => dag_cells (HX0.out.below hb HX0.out.1)
  have hgs := hx0.1
  obtain ⟨d0, d1, d2⟩ := dag_cells hx0
  have HC := Lib.hid (votes_odd N L r o l w1 (HIN.out _ hb1) hm hr)
  clear hg hw1 hb1 hsz hx0 h hm
  clear hr
  unfold dagV at HC ⊢
  go_enter Try.func34, Try.ntmps34
  go_upto_region 1 with fail
  rw [HG.out, HW.out]
  go_wp2_with (go_at_call 33; refine HC.out.mono ?_; rintro e w2 ⟨rfl, hb2⟩)
  go_ret2
  exact ⟨rfl, by rw [HG.out]; exact HB.out.trans (hb2.mono (Nat.le_of_lt hgs))⟩
set_option maxRecDepth 100000 in
set_option maxHeartbeats 8000000 in
theorem direct_is (N L r : Int) (o : Ad) (l : List CrtD) (w : World) (h : GIn w o l) (hm : MayG N L l) (hr : evn r = true) :
    Calls Try.prog 34 #[dagV N L o, .int .i64 r] w (Tells w.heap.size w (.tuple #[.bool (dirC N l r), .int .i64 0])) := by
  obtain ⟨g, hg⟩ : ∃ g, g = w.heap.size := ⟨_, rfl⟩
  obtain ⟨w1, hw1⟩ : ∃ w1, w1 = w.alloc (.cells (dagC N L o).toArray 24) := ⟨_, rfl⟩
  obtain ⟨hb1, hsz, hx0⟩ := boxes1 w _ _ hw1
  rw [← hg] at hb1 hsz hx0
  have HG : Hid (w.heap.size = g) := hg.symm
  have HW : Hid (w.alloc (.cells #[.int .i64 N, .int .i64 L, .slice o.A o.n o.c] 24) = w1) := hw1.symm
  have HIN : Hid (∀ wX, Below g w wX → GIn wX o l) := fun wX hb => h.below (by rw [← hg]; exact hb)
  have HB := Lib.hid hb1
  have HX0 := Lib.hid hx0
  have HD : Hid (∀ wX, Below w1.heap.size w1 wX → wX.cell? ⟨g, 0, none⟩ = some (.int .i64 N) ∧ wX.cell? ⟨g, 1, none⟩ = some (.int .i64 L) ∧ wX.cell? ⟨g, 2, none⟩ = some (.slice o.A o.n o.c)) := fun wX hb => dag_cells (HX0.out.below hb HX0.out.1)
  have hgs := hx0.1
  obtain ⟨d0, d1, d2⟩ := dag_cells hx0
  have HC := Lib.hid (votes_is N L r o l w1 (HIN.out _ hb1) hm hr)
  have HF := Lib.hid (fun wX => few_is N (N / 3 + 1) hm.n rfl wX)
  have HDC : Hid (dirC N l r = decide (N / 3 + 1 ≤ votC N l r)) := rfl
  obtain ⟨v, hv⟩ : ∃ v, votC N l r = v := ⟨_, rfl⟩
  obtain ⟨f, hf⟩ : ∃ f, N / 3 + 1 = f := ⟨_, rfl⟩
  rw [hv] at HC HDC
  rw [hf] at HF HDC
  clear hv hf
  clear hg hw1 hb1 hsz hx0 h hm
  clear hr
  unfold dagV at HC ⊢
  go_enter Try.func34, Try.ntmps34
  go_upto_region 1 with fail
  rw [HG.out, HW.out]
  go_wp2_with (first
    | (go_at_call 33; refine HC.out.mono ?_; rintro e w2 ⟨rfl, hb2⟩; obtain ⟨e0, e1, e2⟩ := HD.out w2 hb2)
    | (go_at_call 70; refine (HF.out _).mono ?_; rintro e w3 ⟨rfl, rfl⟩))
  go_ret2
  exact ⟨by rw [HDC.out]; rfl, by rw [HG.out]; exact HB.out.trans (hb2.mono (Nat.le_of_lt hgs))⟩

end Go.Proofs.Ytejkeccoialogaa
