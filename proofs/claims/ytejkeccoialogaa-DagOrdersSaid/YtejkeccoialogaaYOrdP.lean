/-
  A graph's certificates put into an empty one, pass by pass, in whatever order: as plain data.
-/
import Derived.Test.YtejkeccoialogaaYAddP
import Derived.Test.YtejkeccoialogaaYNew
namespace Go.Proofs.Ytejkeccoialogaa
open Go.RowKit

theorem len_subO : ∀ {P D : List CrtD}, P.Nodup → (∀ p ∈ P, p ∈ D) → P.length ≤ D.length
  | [], _, _, _ => Nat.zero_le _
  | p :: r, D, hn, hs => by
    obtain ⟨h1, h2⟩ := List.nodup_cons.1 hn
    have hp := hs p (by simp)
    have h3 := len_subO (D := D.erase p) h2 fun q hq => (List.mem_erase_of_ne (fun (e : q = p) => h1 (by rw [← e]; exact hq))).2 (hs q (by simp [hq]))
    have h4 := List.length_erase_of_mem hp
    have h5 := List.length_pos_of_mem hp
    simp only [List.length_cons]
    omega
theorem len_subN : ∀ {P D : List Nat}, P.Nodup → (∀ p ∈ P, p ∈ D) → P.length ≤ D.length
  | [], _, _, _ => Nat.zero_le _
  | p :: r, D, hn, hs => by
    obtain ⟨h1, h2⟩ := List.nodup_cons.1 hn
    have hp := hs p (by simp)
    have h3 := len_subN (D := D.erase p) h2 fun q hq => (List.mem_erase_of_ne (fun (e : q = p) => h1 (by rw [← e]; exact hq))).2 (hs q (by simp [hq]))
    have h4 := List.length_erase_of_mem hp
    have h5 := List.length_pos_of_mem hp
    simp only [List.length_cons]
    omega
/-- in order, the same certificates are the same list -/
theorem asc_same : ∀ {l m : List CrtD}, l.Pairwise (fun x y => aheadB x.r x.a y.r y.a = true) → m.Pairwise (fun x y => aheadB x.r x.a y.r y.a = true) → (∀ y, y ∈ l ↔ y ∈ m) → l = m
  | [], [], _, _, _ => rfl
  | [], y :: m, _, _, h => absurd ((h y).2 (by simp)) (by simp)
  | x :: l, [], _, _, h => absurd ((h x).1 (by simp)) (by simp)
  | x :: l, y :: m, h1, h2, h => by
    obtain ⟨a1, a2⟩ := List.pairwise_cons.1 h1
    obtain ⟨b1, b2⟩ := List.pairwise_cons.1 h2
    have irr : ∀ z : CrtD, aheadB z.r z.a z.r z.a = true → False := fun z hz => by have := aheadB_iff.1 hz; omega
    have e : x = y := by
      rcases List.mem_cons.1 ((h x).1 (by simp)) with e | e
      · exact e
      · rcases List.mem_cons.1 ((h y).2 (by simp)) with e' | e'
        · exact e'.symm
        · have c1 := aheadB_iff.1 (b1 x e)
          have c2 := aheadB_iff.1 (a1 y e')
          omega
    subst e
    rw [asc_same a2 b2 fun z => ?_]
    constructor
    · intro hz
      rcases List.mem_cons.1 ((h z).1 (by simp [hz])) with e | e
      · subst e; exact absurd (a1 z hz) (fun hh => irr z hh)
      · exact e
    · intro hz
      rcases List.mem_cons.1 ((h z).2 (by simp [hz])) with e | e
      · subst e; exact absurd (b1 z hz) (fun hh => irr z hh)
      · exact e

/-- each of so many places once -/
structure OnceAt (n : Nat) (f : Nat → Nat) : Prop where
  lt : ∀ i, i < n → f i < n
  inj : ∀ i j, i < n → j < n → f i = f j → i = j
theorem OnceAt.all {n : Nat} {f : Nat → Nat} (h : OnceAt n f) {p : Nat} (hp : p < n) : ∃ i, i < n ∧ f i = p := by
  rcases Classical.em (∃ i, i < n ∧ f i = p) with h1 | h1
  · exact h1
  · exfalso
    have h2 : ((List.range n).map f).Nodup := by
      unfold List.Nodup
      rw [List.pairwise_map, List.pairwise_iff_getElem]
      intro i j hi hj hij e
      simp at hi hj e
      have := h.inj i j hi hj e
      omega
    have h3 : p ∉ (List.range n).map f := fun hm => by
      obtain ⟨i, hi, e⟩ := List.mem_map.1 hm
      exact h1 ⟨i, by simpa using hi, e⟩
    have h4 := len_subN (P := p :: (List.range n).map f) (D := List.range n) (List.nodup_cons.2 ⟨h3, h2⟩) fun q hq => by
      rcases List.mem_cons.1 hq with rfl | hq
      · simpa using hp
      · obtain ⟨i, hi, e⟩ := List.mem_map.1 hq
        have := h.lt i (by simpa using hi)
        simp
        omega
    simp at h4
    omega
theorem once_back (n : Nat) : OnceAt n fun i => n - 1 - i := ⟨fun i hi => by show n - 1 - i < n; omega, fun i j hi hj e => by have e : n - 1 - i = n - 1 - j := e; omega⟩
theorem once_same (n : Nat) : OnceAt n fun i => i := ⟨fun _ hi => hi, fun _ _ _ _ e => e⟩
theorem once_seven {n : Nat} (h0 : 0 < n) (h1 : n ≤ 30) (h7 : n % 7 ≠ 0) : OnceAt n fun i => (i * 7 + 3) % n := by
  have key : ∀ n : Nat, n < 31 → n % 7 ≠ 0 → ∀ i : Nat, i < n → ∀ j : Nat, j < n → (i * 7 + 3) % n = (j * 7 + 3) % n → i = j := by decide +kernel
  exact ⟨fun i _ => Nat.mod_lt _ h0, fun i j hi hj e => key n (by omega) h7 i hi j hj e⟩

/-- so far put in (ld), of the whole (l); left over at the pass's begin (lf), taken in the order f; i of them were tried, ag were refused -/
structure Pas (N : Int) (l lf : List CrtD) (f : Nat → Nat) (i : Nat) (ld ag : List CrtD) : Prop where
  may : MayG N 0 ld
  sub : ∀ y ∈ ld, y ∈ l
  cov : ∀ y ∈ l, y ∈ ld ∨ y ∈ lf
  done : ∀ j, j < i → ∀ y, lf[f j]? = some y → y ∈ ld ∨ y ∈ ag
  ref : ∀ y ∈ ag, y ∉ ld ∧ (∃ j, j < i ∧ lf[f j]? = some y) ∧ ∃ z ∈ lf, z.r < y.r
  todo : ∀ j, i ≤ j → j < lf.length → ∀ y, lf[f j]? = some y → y ∉ ld
  nod : ag.Nodup
  len : ag.length ≤ i
/-- ahead of a pass -/
structure Lft (N : Int) (l : List CrtD) (ld lf : List CrtD) : Prop where
  may : MayG N 0 ld
  sub : ∀ y ∈ ld, y ∈ l
  cov : ∀ y ∈ l, y ∈ ld ∨ y ∈ lf
  lfs : ∀ y ∈ lf, y ∈ l ∧ y ∉ ld
  nod : lf.Nodup
section
variable {N : Int} {l ld lf ag : List CrtD} {f : Nat → Nat} {i : Nat} {x : CrtD}
theorem nodup_at {m : List CrtD} (h : m.Nodup) {a b : Nat} {x : CrtD} (ha : m[a]? = some x) (hb : m[b]? = some x) : a = b := by
  obtain ⟨a1, e1⟩ := List.getElem?_eq_some_iff.1 ha
  obtain ⟨b1, e2⟩ := List.getElem?_eq_some_iff.1 hb
  have hp := List.pairwise_iff_getElem.1 h
  rcases Nat.lt_trichotomy a b with h1 | h1 | h1
  · exact absurd (e1.trans e2.symm) (hp a b a1 b1 h1)
  · exact h1
  · exact absurd (e2.trans e1.symm) (hp b a b1 a1 h1)
theorem nodup_asc {m : List CrtD} (h : AscC m) : m.Nodup := by
  unfold List.Nodup
  exact (asc_pair h).imp fun {a b} hab e => by
    subst e
    have := aheadB_iff.1 hab
    omega
theorem lft_start (h : MayG N 0 l) : Lft N l [] l := ⟨mayG_nil h.n, fun y hy => by simp at hy, fun y hy => .inr hy, fun y hy => ⟨hy, by simp⟩, nodup_asc h.asc⟩
theorem lft_end (hl : MayG N 0 l) (h : Lft N l ld []) : ld = l := asc_same (asc_pair h.may.asc) (asc_pair hl.asc) fun y => ⟨h.sub y, fun hy => by
  rcases h.cov y hy with h1 | h1
  · exact h1
  · simp at h1⟩
theorem pas_start (h : Lft N l ld lf) (f : Nat → Nat) : Pas N l lf f 0 ld [] := ⟨h.may, h.sub, h.cov, fun j hj => absurd hj (Nat.not_lt_zero j), fun y hy => by simp at hy, fun j _ _ y hy => (h.lfs y (List.mem_of_getElem? hy)).2, List.nodup_nil, Nat.le_refl _⟩
/-- what is tried next: what Add is asked of -/
theorem pas_next (hl : MayG N 0 l) (hlf : ∀ y ∈ lf, y ∈ l) (h : Pas N l lf f i ld ag) (hi : i < lf.length) (hx : lf[f i]? = some x) :
    x.ok N = true ∧ chkC N 0 x = 0 ∧ hasAt ld x.r x.a = false ∧ hasDg ld x.d = false ∧ x ∈ l ∧ x ∉ ld := by
  have hxl := hlf x (List.mem_of_getElem? hx)
  have hxn := h.todo i (Nat.le_refl _) hi x hx
  obtain ⟨h1, h2⟩ := hl.of_mem hxl
  refine ⟨h1, by unfold chkC; rw [if_pos h1, if_neg (by omega)], ?_, ?_, hxl, hxn⟩
  · cases hh : hasAt ld x.r x.a with
    | false => rfl
    | true =>
      exfalso
      cases hy : ld[posC ld x.r x.a]? with
      | none => rw [hasAt_none hy] at hh; cases hh
      | some y =>
        rw [hasAt_some hy] at hh
        have e : y.r = x.r ∧ y.a = x.a := by simpa using hh
        have hyd := List.mem_of_getElem? hy
        have hyl := h.sub y hyd
        obtain ⟨a, ha⟩ := List.mem_iff_getElem?.1 hyl
        obtain ⟨b, hb⟩ := List.mem_iff_getElem?.1 hxl
        rcases Nat.lt_trichotomy a b with h3 | h3 | h3
        · have := aheadB_iff.1 (hl.asc a b y x h3 ha hb); omega
        · subst h3
          rw [ha] at hb
          cases hb
          exact hxn hyd
        · have := aheadB_iff.1 (hl.asc b a x y h3 hb ha); omega
  · cases hh : hasDg ld x.d with
    | false => rfl
    | true =>
      exfalso
      obtain ⟨y, hy, e⟩ := hasDg_iff.1 hh
      have := dig_mem hl.dig (h.sub y hy) hxl e
      rw [this] at hy
      exact hxn hy
/-- taken -/
theorem pas_take (hl : MayG N 0 l) (hll : l.length ≤ 30) (hlf : ∀ y ∈ lf, y ∈ l) (hnd : lf.Nodup) (hf : OnceAt lf.length f) (h : Pas N l lf f i ld ag) (hi : i < lf.length) (hx : lf[f i]? = some x) (hk : lacksC 0 ld x = []) : Pas N l lf f (i + 1) (addC ld x) ag := by
  obtain ⟨h1, h2, h3, h4, h5, h6⟩ := pas_next hl hlf h hi hx
  have hld : ld.length ≤ l.length := len_subO (nodup_asc h.may.asc) h.sub
  have hsame : ∀ j, j < lf.length → lf[f j]? = some x → j = i := fun j hj hjx => by
    exact hf.inj j i hj hi (nodup_at hnd hjx hx)
  refine ⟨may_add h.may h1 (by have := (hl.of_mem h5).2; omega) (hasAt_no h.may.asc h3) (hasDg_no h4) hk (by omega), fun y hy => ?_, fun y hy => ?_, fun j hj y hy => ?_, fun y hy => ?_, fun j hj hjl y hy => ?_, h.nod, by have := h.len; omega⟩
  · rcases mem_addC.1 hy with rfl | hy
    · exact h5
    · exact h.sub y hy
  · rcases h.cov y hy with h7 | h7
    · exact .inl (mem_addC.2 (.inr h7))
    · exact .inr h7
  · rcases Nat.lt_or_ge j i with h7 | h7
    · rcases h.done j h7 y hy with h8 | h8
      · exact .inl (mem_addC.2 (.inr h8))
      · exact .inr h8
    · obtain rfl : j = i := by omega
      rw [hx] at hy
      cases hy
      exact .inl (mem_addC.2 (.inl rfl))
  · obtain ⟨a1, ⟨j, a2, a3⟩, a4⟩ := h.ref y hy
    refine ⟨fun hm => ?_, ⟨j, by omega, a3⟩, a4⟩
    rcases mem_addC.1 hm with rfl | hm
    · have := hsame j (by omega) a3
      omega
    · exact a1 hm
  · intro hm
    rcases mem_addC.1 hm with rfl | hm
    · have := hsame j hjl hy
      omega
    · exact h.todo j (by omega) hjl y hy hm
/-- refused, for what it lacks -/
theorem pas_lack (hl : MayG N 0 l) (hlf : ∀ y ∈ lf, y ∈ l) (hnd : lf.Nodup) (hf : OnceAt lf.length f) (h : Pas N l lf f i ld ag) (hi : i < lf.length) (hx : lf[f i]? = some x) (hk : lacksC 0 ld x ≠ []) : Pas N l lf f (i + 1) ld (ag ++ [x]) := by
  obtain ⟨h1, h2, h3, h4, h5, h6⟩ := pas_next hl hlf h hi hx
  have hz : ∃ z ∈ lf, z.r < x.r := by
    unfold lacksC at hk
    by_cases hr : x.r = 0 + 1
    · rw [if_pos hr] at hk; exact absurd rfl hk
    · rw [if_neg hr] at hk
      obtain ⟨p, hp⟩ := List.exists_mem_of_ne_nil _ hk
      obtain ⟨hp1, hp2⟩ := List.mem_filter.1 hp
      obtain ⟨z, hz, e, -⟩ := parent_in hl h5 hr hp1
      obtain ⟨z1, z2⟩ := mem_inR.1 hz
      rcases h.cov z z1 with h7 | h7
      · exfalso
        have h8 : hasDg (inR ld (x.r - 1)) p = true := hasDg_iff.2 ⟨z, mem_inR.2 ⟨h7, z2⟩, e⟩
        rw [h8] at hp2
        simp at hp2
      · exact ⟨z, h7, by omega⟩
  have hnew : x ∉ ag := fun hm => by
    obtain ⟨-, ⟨j, a2, a3⟩, -⟩ := h.ref x hm
    have : j = i := by
      exact hf.inj j i (by omega) hi (nodup_at hnd a3 hx)
    omega
  refine ⟨h.may, h.sub, h.cov, fun j hj y hy => ?_, fun y hy => ?_, fun j hj hjl y hy => h.todo j (by omega) hjl y hy, ?_, by rw [List.length_append]; have := h.len; simp; omega⟩
  · rcases Nat.lt_or_ge j i with h7 | h7
    · rcases h.done j h7 y hy with h8 | h8
      · exact .inl h8
      · exact .inr (by simp [h8])
    · obtain rfl : j = i := by omega
      rw [hx] at hy
      cases hy
      exact .inr (by simp)
  · rcases List.mem_append.1 hy with hy | hy
    · obtain ⟨a1, ⟨j, a2, a3⟩, a4⟩ := h.ref y hy
      exact ⟨a1, ⟨j, by omega, a3⟩, a4⟩
    · have e : y = x := by simpa using hy
      subst e
      exact ⟨h6, ⟨i, by omega, hx⟩, hz⟩
  · refine List.nodup_append.2 ⟨h.nod, by simp, fun a ha b hb e => ?_⟩
    have e2 : b = x := by simpa using hb
    subst e2
    subst e
    exact hnew ha
/-- behind a pass: less is left -/
theorem pas_end (hf : OnceAt lf.length f) (hlf : ∀ y ∈ lf, y ∈ l) (h : Pas N l lf f lf.length ld ag) (hn : 0 < lf.length) : Lft N l ld ag ∧ ag.length < lf.length := by
  have hin : ∀ y ∈ lf, y ∈ ld ∨ y ∈ ag := fun y hy => by
    obtain ⟨p, hp⟩ := List.mem_iff_getElem?.1 hy
    obtain ⟨j, hj, e⟩ := hf.all (List.getElem?_eq_some_iff.1 hp).1
    exact h.done j hj y (by rw [e]; exact hp)
  have hag : ∀ y ∈ ag, y ∈ lf := fun y hy => by
    obtain ⟨-, ⟨j, -, a3⟩, -⟩ := h.ref y hy
    exact List.mem_of_getElem? a3
  refine ⟨⟨h.may, h.sub, fun y hy => ?_, fun y hy => ⟨hlf y (hag y hy), (h.ref y hy).1⟩, h.nod⟩, ?_⟩
  · rcases h.cov y hy with h1 | h1
    · exact .inl h1
    · exact hin y h1
  · have low : ∀ m : List CrtD, m ≠ [] → ∃ y ∈ m, ∀ z ∈ m, y.r ≤ z.r := by
      intro m
      induction m with
      | nil => intro h; exact absurd rfl h
      | cons a r ih =>
        intro _
        rcases Classical.em (r = []) with e | e
        · subst e
          exact ⟨a, by simp, fun z hz => by have e : z = a := by simpa using hz
                                            rw [e]; omega⟩
        · obtain ⟨y, hy, hm⟩ := ih e
          rcases Int.le_total a.r y.r with h1 | h1
          · refine ⟨a, by simp, fun z hz => ?_⟩
            rcases List.mem_cons.1 hz with rfl | hz
            · omega
            · have := hm z hz; omega
          · refine ⟨y, by simp [hy], fun z hz => ?_⟩
            rcases List.mem_cons.1 hz with rfl | hz
            · exact h1
            · exact hm z hz
    obtain ⟨y, hy, hm⟩ := low lf (fun e => by rw [e] at hn; simp at hn)
    have hyn : y ∉ ag := fun hh => by
      obtain ⟨-, -, z, hz, hlt⟩ := h.ref y hh
      have := hm z hz
      omega
    have := len_subO (P := y :: ag) (D := lf) (List.nodup_cons.2 ⟨hyn, h.nod⟩) fun q hq => by
      rcases List.mem_cons.1 hq with rfl | hq
      · exact hy
      · exact hag q hq
    simp at this
    omega
end

end Go.Proofs.Ytejkeccoialogaa
