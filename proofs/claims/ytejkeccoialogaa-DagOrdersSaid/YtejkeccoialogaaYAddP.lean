/-
  Package dag's Find: what is refused.
-/
import Derived.Test.YtejkeccoialogaaYPar
import Derived.Test.YtejkeccoialogaaYRAddO
namespace Go.Proofs.Ytejkeccoialogaa
open Go.RowKit

end Go.Proofs.Ytejkeccoialogaa
/-
  Package dag's At: refused; no place; none there; the one there.
-/
namespace Go.Proofs.Ytejkeccoialogaa
open Go.RowKit Pl.Fl

theorem idxA_has {l : List CrtD} (h : AscC l) {R A : Int} : (hasAt l R A = false ∧ idxF (neA R A) l < 0) ∨ (∃ x, l[posC l R A]? = some x ∧ x.r = R ∧ x.a = A ∧ idxF (neA R A) l = (posC l R A : Int)) := by
  by_cases hy : ∃ y ∈ l, y.r = R ∧ y.a = A
  · obtain ⟨y, hm, he⟩ := hy
    have hp := at_posC h hm he
    refine .inr ⟨y, hp, he.1, he.2, idxF_at hp (by simp [neA, he]) fun k z hk hz => ?_⟩
    by_cases hc : z.r = R ∧ z.a = A
    · have h2 := at_posC h (List.mem_of_getElem? hz) hc
      have := aheadB_iff.1 (h k _ z y hk hz hp)
      omega
    · simp [neA, hc]
  · have hn : ∀ y ∈ l, ¬ (y.r = R ∧ y.a = A) := fun y hm he => hy ⟨y, hm, he⟩
    refine .inl ⟨?_, ?_⟩
    · cases hc : l[posC l R A]? with
      | none => exact hasAt_none hc
      | some y => rw [hasAt_some hc]; exact decide_eq_false (hn y (List.mem_of_getElem? hc))
    · have hz : idxF (neA R A) l = -1 := idxF_none fun k y hk => decide_eq_true (hn y (List.mem_of_getElem? hk))
      rw [hz]
      decide
end Go.Proofs.Ytejkeccoialogaa
/-
  One certificate more: a graph that may be stays one; the landed Add and the page's answer alike.
-/
namespace Go.Proofs.Ytejkeccoialogaa
open Go.RowKit

section
variable {N L : Int} {l : List CrtD} {x : CrtD}
theorem mem_addC {y : CrtD} : y ∈ addC l x ↔ y = x ∨ y ∈ l := by
  unfold addC
  rw [List.mem_append, List.mem_cons]
  constructor
  · rintro (h | h | h)
    · exact .inr (List.mem_of_mem_take h)
    · exact .inl h
    · exact .inr (List.mem_of_mem_drop h)
  · rintro (h | h)
    · exact .inr (.inl h)
    · rw [← List.take_append_drop (posC l x.r x.a) l] at h
      rcases List.mem_append.1 h with h | h
      · exact .inl h
      · exact .inr (.inr h)
theorem len_addC : (addC l x).length = l.length + 1 := by
  unfold addC
  rw [List.length_append, List.length_cons, List.length_take, List.length_drop]
  have : posC l x.r x.a ≤ l.length := cutF_le l
  omega
theorem asc_of_pair {m : List CrtD} (h : m.Pairwise fun x y => aheadB x.r x.a y.r y.a = true) : AscC m := fun i j x y hij hx hy => by
  obtain ⟨hi, ei⟩ := List.getElem?_eq_some_iff.1 hx
  obtain ⟨hj, ej⟩ := List.getElem?_eq_some_iff.1 hy
  have := List.pairwise_iff_getElem.1 h i j hi hj hij
  rwa [ei, ej] at this
theorem dig_pair {m : List CrtD} (h : DigN m) : m.Pairwise fun x y => x.d ≠ y.d := by
  rw [List.pairwise_iff_getElem]
  intro i j hi hj hij
  exact h i j _ _ hij (List.getElem?_eq_getElem hi) (List.getElem?_eq_getElem hj)
theorem dig_of_pair {m : List CrtD} (h : m.Pairwise fun x y => x.d ≠ y.d) : DigN m := fun i j x y hij hx hy => by
  obtain ⟨hi, ei⟩ := List.getElem?_eq_some_iff.1 hx
  obtain ⟨hj, ej⟩ := List.getElem?_eq_some_iff.1 hy
  have := List.pairwise_iff_getElem.1 h i j hi hj hij
  rwa [ei, ej] at this
theorem asc_add (h : AscC l) (hn : ∀ y ∈ l, ¬ (y.r = x.r ∧ y.a = x.a)) : AscC (addC l x) := by
  have hp := asc_pair h
  refine asc_of_pair ?_
  have h1 : ∀ y ∈ l.take (posC l x.r x.a), aheadB y.r y.a x.r x.a = true := fun y hy => by
    obtain ⟨i, hi, hy⟩ := mem_take_at hy
    exact cutF_below (f := isBef x.r x.a) hi hy
  have h2 : ∀ y ∈ l.drop (posC l x.r x.a), aheadB x.r x.a y.r y.a = true := fun y hy => by
    have hm := List.mem_of_mem_drop hy
    obtain ⟨i, hi, hy⟩ := mem_drop_at hy
    have h3 : aheadB y.r y.a x.r x.a = false := by
      cases hb : aheadB y.r y.a x.r x.a with
      | false => rfl
      | true =>
        have hl := (List.getElem?_eq_some_iff.1 hy).1
        obtain ⟨z, hz⟩ : ∃ z, l[posC l x.r x.a]? = some z := ⟨_, List.getElem?_eq_getElem (by omega)⟩
        have h4 := cutF_at (f := isBef x.r x.a) hz
        rcases Nat.lt_or_ge (posC l x.r x.a) i with h5 | h5
        · have := mon_bef h x.r x.a _ _ _ _ h5 hz hy hb
          rw [h4] at this
          cases this
        · have : posC l x.r x.a = i := by omega
          rw [this, hy] at hz
          have e : y = z := Option.some.inj hz
          rw [← e, show isBef x.r x.a y = aheadB y.r y.a x.r x.a from rfl, hb] at h4
          cases h4
    have h4 := hn y hm
    have h5 := aheadB_no.1 h3
    exact aheadB_iff.2 (by omega)
  unfold addC
  refine List.pairwise_append.2 ⟨hp.sublist (List.take_sublist _ _), List.pairwise_cons.2 ⟨h2, hp.sublist (List.drop_sublist _ _)⟩, fun y hy z hz => ?_⟩
  rcases List.mem_cons.1 hz with rfl | hz
  · exact h1 y hy
  · have a1 := aheadB_iff.1 (h1 y hy)
    have a2 := aheadB_iff.1 (h2 z hz)
    exact aheadB_iff.2 (by omega)
theorem dig_add (h : DigN l) (hn : ∀ y ∈ l, y.d ≠ x.d) : DigN (addC l x) := by
  have hp := dig_pair h
  refine dig_of_pair ?_
  unfold addC
  have hsub : (l.take (posC l x.r x.a) ++ l.drop (posC l x.r x.a)).Pairwise fun x y => x.d ≠ y.d := by rw [List.take_append_drop]; exact hp
  obtain ⟨h1, h2, h3⟩ := List.pairwise_append.1 hsub
  refine List.pairwise_append.2 ⟨h1, List.pairwise_cons.2 ⟨fun y hy => (hn y (List.mem_of_mem_drop hy)).symm, h2⟩, fun y hy z hz => ?_⟩
  rcases List.mem_cons.1 hz with rfl | hz
  · exact hn y (List.mem_of_mem_take hy)
  · exact h3 y hy z hz
theorem may_add (h : MayG N L l) (hok : x.ok N = true) (hr : L < x.r) (ha : ∀ y ∈ l, ¬ (y.r = x.r ∧ y.a = x.a)) (hd : ∀ y ∈ l, y.d ≠ x.d) (hl : lacksC L l x = []) (hn : l.length < 65536) : MayG N L (addC l x) := by
  have hasc := asc_add h.asc ha
  have hdig := dig_add h.dig hd
  refine ⟨h.n, h.l0, h.l1, by rw [len_addC]; omega, fun i y hy => ?_, fun y hy => ?_⟩
  · have hm := mem_addC.1 (List.mem_of_getElem? hy)
    have hy1 : y.ok N = true ∧ L < y.r := by
      rcases hm with rfl | hm
      · exact ⟨hok, hr⟩
      · exact h.of_mem hm
    exact ⟨hy1.1, hy1.2, fun z h0 hz => hasc (i - 1) i z y (by omega) hz hy, fun k z hk hz => hdig k i z y hk hz hy⟩
  · have hin : ∀ p, hasDg (inR l (y.r - 1)) p = true → hasDg (inR (addC l x) (y.r - 1)) p = true := fun p hp => by
      obtain ⟨z, hz, e⟩ := hasDg_iff.1 hp
      obtain ⟨z1, z2⟩ := mem_inR.1 hz
      exact hasDg_iff.2 ⟨z, mem_inR.2 ⟨mem_addC.2 (.inr z1), z2⟩, e⟩
    have hp : lacksC L l y = [] := by
      rcases mem_addC.1 hy with rfl | hm
      · exact hl
      · exact h.par y hm
    unfold lacksC at hp ⊢
    by_cases hr' : y.r = L + 1
    · rw [if_pos hr']
    · rw [if_neg hr', List.filter_eq_nil_iff] at hp ⊢
      intro p hpp
      have := hp p hpp
      have h3 : hasDg (inR l (y.r - 1)) p = true := by simpa using this
      rw [hin p h3]
      simp
theorem hasAt_no (h : AscC l) {R A : Int} (hh : hasAt l R A = false) : ∀ y ∈ l, ¬ (y.r = R ∧ y.a = A) := fun y hy e => by
  rw [hasAt_some (at_posC h hy e)] at hh
  simp [e] at hh
theorem hasDg_no {p : Int} (hh : hasDg l p = false) : ∀ y ∈ l, y.d ≠ p := fun y hy e => by
  have := hasDg_iff.2 ⟨y, hy, e⟩
  rw [hh] at this
  cases this
end

/-- the landed Add and the page's: refused alike, or taken alike -/
theorem add_both {N L : Int} {l : List CrtD} {x : CrtD} (hm : MayG N L l) (hf : CrtFit x) (hn : l.length < 65536) :
    (∃ z : Int, z ≠ 0 ∧ (∀ (o : Ad) (a : CrtA) (w : World), GIn w o l → CIn w x a → Calls Try.prog 15 #[dagV N L o, crtV x a] w (AddErr z w)) ∧ (∀ (o : Ad) (a : CrtA) (w : World), GIn w o l → CIn w x a → Calls Try.prog 13 #[dagV N L o, crtV x a] w (RAddErr N L o z w))) ∨
    (MayG N L (addC l x) ∧ (∀ (o : Ad) (a : CrtA) (w : World), GIn w o l → CIn w x a → Calls Try.prog 15 #[dagV N L o, crtV x a] w (AddOk N L (addC l x) w)) ∧ (∀ (o : Ad) (a : CrtA) (w : World), GIn w o l → CIn w x a → Calls Try.prog 13 #[dagV N L o, crtV x a] w (AddOk N L (addC l x) w))) := by
  by_cases hok : x.ok N = true
  · by_cases hr : x.r ≤ L
    · have hz : chkC N L x = 6 := by unfold chkC; rw [if_pos hok, if_pos hr]
      refine .inl ⟨6, by decide, fun o a w h hi => ?_, fun o a w h hi => rAdd_old N L o l x a w h hi hf hok hr⟩
      have := add_chk N L o l x a w h hm hi hf (by rw [hz]; decide)
      rwa [hz] at this
    · have hz : chkC N L x = 0 := by unfold chkC; rw [if_pos hok, if_neg hr]
      have hxr : 0 ≤ x.r ∧ x.r ≤ 1099511627776 := by have := (ok_hdr hok).2.1; omega
      have hL : 0 ≤ L ∧ L ≤ 1099511627776 := ⟨hm.l0, hm.l1⟩
      rcases idxA_has hm.asc (R := x.r) (A := x.a) with ⟨hh, hneg⟩ | ⟨y, hy, y1, y2, hpos⟩
      · have hne := hasAt_no hm.asc hh
        cases hdg : hasDg l x.d with
        | true =>
          have hb : 0 ≤ idxD l x.d := by have := hasDg_idx (l := l) x.d; rw [hdg] at this; exact of_decide_eq_true this.symm
          exact .inl ⟨5, by decide, fun o a w h hi => add_dig N L o l x a w h hm hi hf hz hh hdg, fun o a w h hi => rAdd_dig N L o l x a w h hi hf hok hr _ _ rfl rfl (by omega) hb⟩
        | false =>
          have hb : ¬ 0 ≤ idxD l x.d := by have := hasDg_idx (l := l) x.d; rw [hdg] at this; exact of_decide_eq_false this.symm
          have hls := lacks_same (L := L) hm.dig (x := x) (by omega)
          by_cases hlk : lacksC L l x = []
          · exact .inr ⟨may_add hm hok (by omega) hne (hasDg_no hdg) hlk hn, fun o a w h hi => add_ok N L o l x a w h hm hi hf hz hh hdg hlk, fun o a w h hi => rAdd_ok N L o l x a w h hi hf hok hr _ _ rfl rfl (by omega) hb (by rw [hls]; exact hlk) hL hxr⟩
          · exact .inl ⟨7, by decide, fun o a w h hi => add_lack N L o l x a w h hm hi hf hz hh hdg hlk, fun o a w h hi => rAdd_lack N L o l x a w h hi hf hok hr _ _ rfl rfl (by omega) hb (by rw [hls]; exact hlk) hL hxr⟩
      · have hpn : (0 : Int) ≤ (posC l x.r x.a : Int) := by omega
        by_cases hd : y.d = x.d
        · have hb : idxF (neD x.d) l = (posC l x.r x.a : Int) := idxF_at hy (by simp [neD, hd]) fun k u hk hu => by
            have := hm.dig k _ u y hk hu hy
            simp [neD, ← hd, this]
          exact .inl ⟨4, by decide, fun o a w h hi => add_there N L o l x a w h hm hi hf hz y hy ⟨y1, y2⟩ hd, fun o a w h hi => rAdd_there N L o l x a w h hi hf hok hr _ hpos hb hpn⟩
        · refine .inl ⟨5, by decide, fun o a w h hi => add_two N L o l x a w h hm hi hf hz y hy ⟨y1, y2⟩ hd, fun o a w h hi => rAdd_two N L o l x a w h hi hf hok hr _ _ hpos rfl hpn fun e => ?_⟩
          have h1 : l[cutF (neD x.d) l]? = some y := by
            cases hu : l[cutF (neD x.d) l]? with
            | none => have := idxF_neg.2 hu; omega
            | some u =>
              have := (idxF_pos hu).2
              rw [← e] at this
              simp only [Int.toNat_natCast] at this
              rw [hy] at this
              exact this.symm
          have := cutF_at (f := neD x.d) h1
          simp [neD] at this
          exact hd this
  · have hz : chkC N L x = 1 := by unfold chkC; rw [if_neg hok]
    refine .inl ⟨1, by decide, fun o a w h hi => ?_, fun o a w h hi => rAdd_form N L o l x a w h hi hf (by simpa using hok)⟩
    have := add_chk N L o l x a w h hm hi hf (by rw [hz]; decide)
    rwa [hz] at this

end Go.Proofs.Ytejkeccoialogaa
