/-
  'RealSigned' as plain data: whose signatures a message needs, of which digest; what is answered when.
-/
import Derived.Test.YtcfnomnhameleaaRWakes
import Derived.Test.YtcfnomnhameleaaZE
namespace Go.Proofs.Ytcfnomnhameleaa
open Go.RowKit

def SigK (m : MsgD) : Prop := m.k = 1 ∨ m.k = 3 ∨ m.k = 4 ∨ m.k = 6
def dgM (m : MsgD) : Int := if m.k = 6 then m.cd else m.d
def whoM (m : MsgD) : List Int := if m.k = 6 then m.cS else if m.k = 4 then [m.f] else [m.ba]
def rawM (m : MsgD) : List Int := if m.k = 1 ∨ m.k = 3 then batBytes m.ba m.bn m.L else if m.k = 4 then headBytes m.ha m.hr m.hB m.hP else headBytes m.ca m.cr m.cB m.cP
def setD (m : MsgD) (x : Int) : MsgD := if m.k = 6 then { m with cd := x } else { m with d := x }
theorem messP {m : MsgD} {n : Int} (h : messB m n = true) : (mayB n = true ∧ (1 ≤ m.f ∧ m.f ≤ n) ∧ (1 ≤ m.t ∧ m.t ≤ n) ∧ m.f ≠ m.t) ∧ formB m n = true ∧ onlyM m = m := by
  unfold messB at h
  rw [Bool.and_eq_true, Bool.and_eq_true, decide_eq_true_eq] at h
  obtain ⟨h1, h2, h3⟩ := h
  unfold idsB at h1
  rw [decide_eq_true_eq] at h1
  exact ⟨h1, h2, h3⟩
theorem okR_sig {L : List (List Int)} {S : List (Int × Int)} {l : List Int} {m : MsgD} (hk : SigK m) : okR L S l m = (decide (((findB L (rawM m) : Nat) : Int) = dgM m) && allBy S l (dgM m) (whoM m)) := by
  rcases hk with h | h | h | h <;> simp [okR, rawM, dgM, whoM, h, allBy]
theorem putRaw_sig {m : MsgD} {n : Int} (hv : messB m n = true) (hk : SigK m) : putRaw m = some (rawM m) := by
  have hf := (messP hv).2.1
  unfold formB at hf
  by_cases h1 : m.k = 1 ∨ m.k = 3
  · rw [if_pos h1] at hf
    simp only [Bool.and_eq_true] at hf
    rw [putRaw, if_pos h1, if_pos hf.2.1, rawM, if_pos h1]
  · have h46 : m.k = 4 ∨ m.k = 6 := by
      rcases hk with h | h | h | h
      · exact absurd (.inl h) h1
      · exact absurd (.inr h) h1
      · exact .inl h
      · exact .inr h
    rw [if_neg h1, if_neg (by omega)] at hf
    by_cases h4 : m.k = 4
    · rw [if_pos h4] at hf
      simp only [Bool.and_eq_true] at hf
      rw [putRaw, if_neg h1, if_pos h4, if_pos (hdr_wideR hf.2.1), rawM, if_neg h1, if_pos h4]
    · have h6 : m.k = 6 := by omega
      rw [if_neg h4, if_pos h6] at hf
      simp only [certB, decide_eq_true_eq] at hf
      rw [putRaw, if_neg h1, if_neg h4, if_pos h6, if_pos (hdr_wideR hf.1), rawM, if_neg h1, if_neg h4]
theorem putRaw_putM (L : List (List Int)) (m : MsgD) : putRaw (putM L m) = putRaw m := by
  obtain ⟨x, y, e, _⟩ := putM_is L m
  rw [e]
  rfl
theorem putM_k (L : List (List Int)) (m : MsgD) : (putM L m).k = m.k := by
  obtain ⟨x, y, e, _⟩ := putM_is L m
  rw [e]
/-- what is put first has the digest 1, and stands in the book alone -/
theorem put_first {m : MsgD} {n : Int} (hv : messB (putM [] m) n = true) (hk : SigK (putM [] m)) : dgM (putM [] m) = 1 ∧ putLB [] m = [rawM (putM [] m)] := by
  have hr := putRaw_sig hv hk
  have hr0 : putRaw m = some (rawM (putM [] m)) := by rw [← hr, putRaw_putM]
  refine ⟨?_, by rw [putLB, hr0]; rfl⟩
  by_cases h6 : m.k = 6
  · rw [dgM, if_pos (by rw [putM_k]; exact h6), putM, hr0]
    simp only [if_pos h6]
    rfl
  · rw [dgM, if_neg (by rw [putM_k]; exact h6), putM, hr0]
    simp only [if_neg h6]
    rfl

/-! ### who signs -/
theorem ris_lt : ∀ {l : List Int}, risB l = true → ∀ (j i : Nat) (x y : Int), i < j → l[i]? = some x → l[j]? = some y → x < y
  | l, h, 0, i, x, y, hij, _, _ => by omega
  | l, h, j + 1, i, x, y, hij, hx, hy => by
    obtain ⟨z, hz⟩ : ∃ z, l[j]? = some z := by
      have hl := (List.getElem?_eq_some_iff.1 hy).1
      exact ⟨l[j]'(by omega), by simp [show j < l.length by omega]⟩
    have h2 := risB_iff.1 h j z y hz hy
    by_cases hji : i = j
    · subst hji
      rw [hx] at hz
      cases hz
      exact h2
    · have := ris_lt h j i x z (by omega) hx hz
      omega
structure WhoOk (c : List Int) : Prop where
  few : c.length ≤ 16
  fit : ∀ x ∈ c, 1 ≤ x ∧ x ≤ 4
  once : ∀ (k : Nat) (x : Int), c[k]? = some x → ¬ x ∈ c.take k
theorem who_one {x : Int} (h : 1 ≤ x ∧ x ≤ 4) : WhoOk [x] := ⟨by simp, fun y hy => by rw [List.mem_singleton] at hy; rw [hy]; exact h, fun k y hk => by
  match k with
  | 0 => simp
  | k + 1 => simp at hk⟩
theorem who_ok {m : MsgD} (hv : messB m 4 = true) (hk : SigK m) : WhoOk (whoM m) := by
  have hshort := (mess_short hv).2.2.2.2.2.1
  obtain ⟨⟨_, hf, _⟩, hform, _⟩ := messP hv
  unfold formB at hform
  by_cases h6 : m.k = 6
  · rw [if_neg (by omega), if_neg (by omega), if_neg (by omega), if_pos h6] at hform
    simp only [certB, decide_eq_true_eq] at hform
    obtain ⟨_, _, hr, hb, _⟩ := hform
    rw [whoM, if_pos h6]
    refine ⟨hshort, fun x hx => ?_, fun k x hx hm => ?_⟩
    · have := hb
      simp only [betB, List.all_eq_true, decide_eq_true_eq] at this
      exact this x hx
    · obtain ⟨i, hi⟩ := List.getElem?_of_mem hm
      have hik : i < k := by
        rcases Nat.lt_or_ge i k with h | h
        · exact h
        · rw [List.getElem?_eq_none (by rw [List.length_take]; omega)] at hi; cases hi
      rw [List.getElem?_take_of_lt hik] at hi
      have := ris_lt hr k i x x hik hi hx
      omega
  · by_cases h4 : m.k = 4
    · rw [whoM, if_neg h6, if_pos h4]
      exact who_one hf
    · have h1 : m.k = 1 ∨ m.k = 3 := by rcases hk with h | h | h | h <;> omega
      rw [if_pos h1] at hform
      simp only [Bool.and_eq_true, decide_eq_true_eq] at hform
      rw [whoM, if_neg h6, if_neg h4]
      have hb := hform.2.1
      simp only [batB, decide_eq_true_eq] at hb
      exact who_one ⟨hb.1.1, hform.2.2⟩

/-! ### what is answered -/
def sg (c : List Int) (k : Nat) : List (Int × Int) := (c.take k).map fun x => (x, 1)
theorem sg_len (c : List Int) (k : Nat) : (sg c k).length ≤ c.length := by simp [sg]; omega
theorem sg_next {c : List Int} {k : Nat} {x : Int} (h : c[k]? = some x) : sg c k ++ [(x, 1)] = sg c (k + 1) := by
  rw [sg, sg, List.take_add_one, h]
  simp
theorem signed_sg (c : List Int) (k : Nat) (x : Int) : signedB (sg c k) x 1 = decide (x ∈ c.take k) := by
  rw [Bool.eq_iff_iff]
  simp only [signedB, sg, List.any_map, List.any_eq_true, decide_eq_true_eq, Function.comp, Bool.and_eq_true, beq_iff_eq]
  constructor
  · rintro ⟨y, hy, rfl, _⟩; exact hy
  · intro h
    refine ⟨x, h, ?_⟩
    simp
theorem real_ok {L : List (List Int)} {S : List (Int × Int)} {l : List Int} {m : MsgD} (hv : messB m 4 = true) (hk : SigK m) (hf : ((findB L (rawM m) : Nat) : Int) = dgM m) (hs : allBy S l (dgM m) (whoM m) = true) : realR L S 4 l m = 0 := by
  rw [realR, if_pos hv, okR_sig hk, decide_eq_true hf, hs]
  rfl
theorem real_lack {L : List (List Int)} {S : List (Int × Int)} {l : List Int} {m : MsgD} (hv : messB m 4 = true) (hk : SigK m) (hs : ¬ (((findB L (rawM m) : Nat) : Int) = dgM m) ∨ allBy S l (dgM m) (whoM m) = false) : realR L S 4 l m = 7 := by
  rw [realR, if_pos hv, okR_sig hk]
  rcases hs with h | h
  · rw [decide_eq_false h, Bool.false_and]; rfl
  · rw [h, Bool.and_false]; rfl
theorem find_first (x : List Int) (L : List (List Int)) : findB (x :: L) x = 1 := by simp [findB]
theorem all_by {S : List (Int × Int)} {l : List Int} {d : Int} {c : List Int} (h : ∀ x ∈ c, byB S l x d = true) : allBy S l d c = true := List.all_eq_true.2 h
theorem real_none {m : MsgD} (hv : messB m 4 = true) (hk : SigK m) (hd : dgM m = 1) {k : Nat} (h : k < (whoM m).length) : realR [rawM m] (sg (whoM m) k) 4 [] m = 7 := by
  refine real_lack hv hk (.inr ?_)
  obtain ⟨x, hx⟩ : ∃ x, (whoM m)[k]? = some x := ⟨(whoM m)[k], by simp [h]⟩
  rw [hd, allBy, List.all_eq_false]
  refine ⟨x, List.mem_of_getElem? hx, ?_⟩
  rw [byB, signed_sg, decide_eq_false ((who_ok hv hk).once k x hx)]
  simp
theorem real_all {m : MsgD} (hv : messB m 4 = true) (hk : SigK m) (hd : dgM m = 1) (k : Nat) : realR [rawM m] (sg (whoM m) k) 4 (whoM m) m = 0 := by
  refine real_ok hv hk (by rw [find_first, hd]; rfl) (all_by fun x hx => ?_)
  rw [byB, decide_eq_true hx, Bool.true_or]
theorem real_last {m : MsgD} (hv : messB m 4 = true) (hk : SigK m) (hd : dgM m = 1) (k : Nat) : realR [rawM m] (sg (whoM m) k) 4 ((whoM m).drop k) m = 0 := by
  refine real_ok hv hk (by rw [find_first, hd]; rfl) (all_by fun x hx => ?_)
  rw [← List.take_append_drop k (whoM m)] at hx
  rw [hd, byB, signed_sg]
  rcases List.mem_append.1 hx with h | h
  · rw [decide_eq_true h, Bool.or_true]
  · rw [decide_eq_true h, Bool.true_or]
theorem real_done {m : MsgD} (hv : messB m 4 = true) (hk : SigK m) (hd : dgM m = 1) (L : List (List Int)) : realR (rawM m :: L) (sg (whoM m) (whoM m).length) 4 [] m = 0 := by
  refine real_ok hv hk (by rw [find_first, hd]; rfl) (all_by fun x hx => ?_)
  rw [hd, byB, signed_sg, List.take_length, decide_eq_true hx, Bool.or_true]
theorem setD_k (m : MsgD) (x : Int) : (setD m x).k = m.k := by unfold setD; split <;> rfl
theorem setD_dg (m : MsgD) (x : Int) : dgM (setD m x) = x := by
  by_cases h6 : m.k = 6
  · rw [setD, if_pos h6]
    show (if m.k = 6 then x else m.d) = x
    rw [if_pos h6]
  · rw [setD, if_neg h6]
    show (if m.k = 6 then m.cd else x) = x
    rw [if_neg h6]
theorem setD_raw (m : MsgD) (x : Int) : rawM (setD m x) = rawM m := by
  by_cases h6 : m.k = 6
  · rw [setD, if_pos h6]; rfl
  · rw [setD, if_neg h6]; rfl
theorem setD_ok {m : MsgD} (h : MsgOk m) {x : Int} (hx : I64 x) : MsgOk (setD m x) := by
  unfold setD
  split
  · exact h.dig h.wd hx
  · exact h.dig hx h.wcd
theorem setD_in {w : World} {m : MsgD} {a : MsgA} (h : MsgIn w m a) (x : Int) : MsgIn w (setD m x) a := by
  unfold setD
  split
  · exact h.dig m.d x
  · exact h.dig x m.cd
theorem setD_mess {m : MsgD} {n x : Int} (hv : messB m n = true) (hk : SigK m) (h1 : 1 ≤ x) (h2 : x ≤ 65536) : messB (setD m x) n = true := by
  obtain ⟨⟨hm, hf, ht, hne⟩, hform, ho⟩ := messP hv
  have hdx : digB x = true := by unfold digB; rw [decide_eq_true_eq]; exact ⟨h1, h2⟩
  unfold messB
  rw [Bool.and_eq_true, Bool.and_eq_true, decide_eq_true_eq]
  unfold formB at hform
  unfold onlyM at ho
  by_cases h6 : m.k = 6
  · have e : setD m x = { m with cd := x } := by rw [setD, if_pos h6]
    rw [if_neg (by omega), if_neg (by omega), if_neg (by omega), if_pos h6] at hform ho
    rw [e]
    refine ⟨?_, ?_, ?_⟩
    · unfold idsB; rw [decide_eq_true_eq]; exact ⟨hm, hf, ht, hne⟩
    · unfold formB
      rw [if_neg (by show ¬ (m.k = 1 ∨ m.k = 3); omega), if_neg (by show ¬ (m.k = 2 ∨ m.k = 5); omega), if_neg (by show ¬ m.k = 4; omega), if_pos h6]
      simp only [certB, decide_eq_true_eq] at hform ⊢
      exact ⟨hform.1, ⟨h1, h2⟩, hform.2.2⟩
    · unfold onlyM
      rw [if_neg (by show ¬ (m.k = 1 ∨ m.k = 3); omega), if_neg (by show ¬ (m.k = 2 ∨ m.k = 5); omega), if_neg (by show ¬ m.k = 4; omega), if_pos h6]
      exact congrArg (fun q : MsgD => { q with cd := x }) ho
  · have e : setD m x = { m with d := x } := by rw [setD, if_neg h6]
    rw [e]
    by_cases h13 : m.k = 1 ∨ m.k = 3
    · rw [if_pos h13] at hform ho
      refine ⟨?_, ?_, ?_⟩
      · unfold idsB; rw [decide_eq_true_eq]; exact ⟨hm, hf, ht, hne⟩
      · unfold formB
        rw [if_pos h13]
        rw [Bool.and_eq_true] at hform ⊢
        exact ⟨hdx, hform.2⟩
      · unfold onlyM
        rw [if_pos h13]
        exact congrArg (fun q : MsgD => { q with d := x }) ho
    · have h4 : m.k = 4 := by rcases hk with h | h | h | h <;> omega
      rw [if_neg h13, if_neg (by omega), if_pos h4] at hform ho
      refine ⟨?_, ?_, ?_⟩
      · unfold idsB; rw [decide_eq_true_eq]; exact ⟨hm, hf, ht, hne⟩
      · unfold formB
        rw [if_neg h13, if_neg (by show ¬ (m.k = 2 ∨ m.k = 5); omega), if_pos h4]
        rw [Bool.and_eq_true] at hform ⊢
        exact ⟨hdx, hform.2⟩
      · unfold onlyM
        rw [if_neg h13, if_neg (by show ¬ (m.k = 2 ∨ m.k = 5); omega), if_pos h4]
        exact congrArg (fun q : MsgD => { q with d := x }) ho
theorem setD_sig {m : MsgD} (h : SigK m) (x : Int) : SigK (setD m x) := by unfold SigK; rw [setD_k]; exact h
theorem real_other {m : MsgD} (hv : messB m 4 = true) (hk : SigK m) (L : List (List Int)) (S : List (Int × Int)) (l : List Int) : realR (rawM m :: L) S 4 l (setD m 2) = 7 := by
  refine real_lack (setD_mess hv hk (by omega) (by omega)) (setD_sig hk 2) (.inl ?_)
  rw [setD_raw, setD_dg, find_first]
  omega

/-! ### other bytes -/
def anoL : List Int := [97, 110, 111, 116, 104, 101, 114, 32, 111, 110, 101]
theorem puts_head {l : List (List Int)} (h : l.length < 97) : putPuts l ≠ anoL := by
  intro e
  rw [putPuts, vnum_lt (by omega)] at e
  have := congrArg List.head? e
  simp [anoL] at this
  omega
theorem raw_ano {m : MsgD} (hv : messB m 4 = true) : rawM m ≠ anoL := by
  have hshort := (mess_short hv).1
  unfold rawM
  split
  · rw [batBytes]
    refine puts_head ?_
    rw [List.length_map, batTexts_length]
    omega
  · split
    · rw [headBytes]
      exact puts_head (by rw [List.length_map, headTexts_length]; omega)
    · rw [headBytes]
      exact puts_head (by rw [List.length_map, headTexts_length]; omega)
theorem find_ano {m : MsgD} (hv : messB m 4 = true) : findB [rawM m] anoL = 0 := by
  have := raw_ano hv
  simp [findB, this]

end Go.Proofs.Ytcfnomnhameleaa
