/-
  Package disk's small functions: names, copies, the count of calls.
-/
import Derived.Test.YtecgagfpckaieaaDFind
import Derived.Test.YtecgagfpckaieaaHelp
namespace Go.Proofs.Ytecgagfpckaieaa
open Go.RowKit

set_option maxHeartbeats 2000000 in
theorem isNameByte_any (c : Int) (w : World) : Calls Try.prog 51 #[.int .u8 c] w fun e w' => e = .returned (.bool (okC c)) ∧ w = w' := by
  have key : ∀ b : Bool, okC c = b → Calls Try.prog 51 #[.int .u8 c] w fun e w' => e = .returned (.bool b) ∧ w = w' := by
    intro b hb
    unfold okC at hb
    by_cases h1 : (97 : Int) ≤ c <;> by_cases h2 : c ≤ 122 <;> by_cases h3 : (48 : Int) ≤ c <;> by_cases h4 : c ≤ 57 <;> by_cases h5 : c = 46 <;> by_cases h6 : c = 45
    all_goals first | (exfalso; omega) | skip
    all_goals
      simp [h1, h2, h3, h4, h5, h6] at hb
      subst hb
      go_enter Try.func51, Try.ntmps51
      go_wp2
      go_ret
      first | exact ⟨rfl, rfl⟩ | (refine ⟨?_, rfl⟩; show Ending.returned (.bool (c == 46 || c == 45)) = _; simp [h5, h6])
  exact key _ rfl

theorem byt_at {s : ByteArray} {k : Nat} (h : k < s.size) : (byt s)[k]? = some ((s[k]'h).toNat : Int) := by
  have hl : k < s.data.toList.length := by simpa using h
  simp only [byt, List.getElem?_map, List.getElem?_eq_getElem hl, Option.map_some]
  rfl
theorem all_drop {l : List Int} {p : Int → Bool} {k : Nat} {x : Int} (h : l[k]? = some x) : (l.drop k).all p = (p x && (l.drop (k + 1)).all p) := by
  obtain ⟨hk, rfl⟩ := List.getElem?_eq_some_iff.1 h
  rw [List.drop_eq_getElem_cons hk, List.all_cons]

/-- what holds at the label -/
inductive NameJ (p : Prop) (w : World) : Act → World → Prop
  | mk (u0 u1 u2 u3 u4 u5 u6 u7 u8 u9 u10 u11 u12 u13 u14 u15 u16 u17 u18 u19 u20 u21 u22 : Value) (h : p) : NameJ p w { tmps := #[u0, u1, u2, u3, u4, u5, u6, u7, u8, u9, u10, u11, u12, u13, u14, u15, u16, u17, u18, u19, u20, u21, u22], defers := [] } w
theorem NameJ_elim {p : Prop} {w : World} {G : Act → World → Prop} (h : ∀ (u0 u1 u2 u3 u4 u5 u6 u7 u8 u9 u10 u11 u12 u13 u14 u15 u16 u17 u18 u19 u20 u21 u22 : Value), p → G { tmps := #[u0, u1, u2, u3, u4, u5, u6, u7, u8, u9, u10, u11, u12, u13, u14, u15, u16, u17, u18, u19, u20, u21, u22], defers := [] } w) : ∀ a' w', NameJ p w a' w' → G a' w' := fun a' w' k => by
  cases k with
  | mk u0 u1 u2 u3 u4 u5 u6 u7 u8 u9 u10 u11 u12 u13 u14 u15 u16 u17 u18 u19 u20 u21 u22 hp => exact h _ _ _ _ _ _ _ _ _ _ _ _ _ _ _ _ _ _ _ _ _ _ _ hp

set_option maxHeartbeats 2000000 in
theorem isName_is (b : Bool) (s : ByteArray) (w : World) (hs : s.size ≤ maxLen) (hb : okName s = b) : Calls Try.prog 39 #[.string s] w fun e w' => e = .returned (.bool b) ∧ w = w' := by
  unfold maxLen at hs
  have HB := Lib.hid hb
  clear hb
  go_enter Try.func39, Try.ntmps39
  go_wp2_with fail
  refine wp_scope_jumps 0 (NameJ (b = false) w) (fun _ _ => 0) rfl ?_ ?_
  · by_cases h1 : s.size < 1
    · have j1 : (s.size : Int) < 1 := by omega
      have HN : Hid (b = false) := by
        show b = false
        rw [← HB.out]
        simp only [okName, Bool.and_eq_false_imp, decide_eq_true_eq]
        intro h; omega
      go_wp2_with fail
      go_step3
      show 0 = 0 ∧ NameJ (b = false) w _ _
      exact ⟨rfl, .mk _ _ _ _ _ _ _ _ _ _ _ _ _ _ _ _ _ _ _ _ _ _ _ HN.out⟩
    · have j1 : ¬ ((s.size : Int) < 1) := by omega
      by_cases h2 : 32 < s.size
      · have j2 : (32 : Int) < (s.size : Int) := by omega
        have HN : Hid (b = false) := by
          show b = false
          rw [← HB.out]
          simp only [okName, Bool.and_eq_false_imp, decide_eq_true_eq]
          intro h h'; omega
        go_wp2_with fail
        go_step3
        show 0 = 0 ∧ NameJ (b = false) w _ _
        exact ⟨rfl, .mk _ _ _ _ _ _ _ _ _ _ _ _ _ _ _ _ _ _ _ _ _ _ _ HN.out⟩
      · have j2 : ¬ ((32 : Int) < (s.size : Int)) := by omega
        have HA : Hid ((byt s).all okC = b) := by
          show _ = b
          rw [← HB.out]
          simp only [okName]
          rw [decide_eq_true (by omega : 1 ≤ s.size), decide_eq_true (by omega : s.size ≤ 32), Bool.true_and, Bool.true_and]
        go_wp2_with fail
        go_loop [3, 14] (fun _ i => ∃ k : Nat, i = .int .i64 k ∧ k ≤ s.size ∧ Hid (((byt s).drop k).all okC = b)) (fun _ i => s.size - (intOf i).toNat)
        case atStart => exact ⟨0, rfl, by omega, by rw [List.drop_zero]; exact HA.out⟩
        case round =>
          obtain ⟨k, rfl, hk, HR⟩ := hrel
          by_cases hlt : k < s.size
          · have hx := all_drop (p := okC) (byt_at hlt)
            rw [HR.out] at hx
            have HX := Lib.hid hx
            clear hx
            have i0 : (0 : Int) ≤ (k : Int) := by omega
            have i1 : (k : Int) < (s.size : Int) := by omega
            cases hoc : okC ((s[k]'hlt).toNat : Int) with
            | true =>
              have HN : Hid (((byt s).drop (k + 1)).all okC = b) := by
                show _ = b
                have h3 := HX.out
                rw [hoc, Bool.true_and] at h3
                exact h3.symm
              have HO := Lib.hid hoc
              clear hoc
              go_wp2_with (go_at_call 51; refine (isNameByte_any _ _).mono ?_; rintro e w' ⟨he, rfl⟩; rw [HO.out] at he; subst he)
              go_round
              case rel => exact ⟨k + 1, by go_num, by omega, HN⟩
              case measure => simp [intOf]; omega
            | false =>
              have HN : Hid (b = false) := by
                show b = false
                have h3 := HX.out
                rw [hoc, Bool.false_and] at h3
                exact h3
              have HO := Lib.hid hoc
              clear hoc
              go_wp2_with (go_at_call 51; refine (isNameByte_any _ _).mono ?_; rintro e w' ⟨he, rfl⟩; rw [HO.out] at he; subst he)
              go_step3
              show 0 = 0 ∧ NameJ (b = false) w _ _
              exact ⟨rfl, .mk _ _ _ _ _ _ _ _ _ _ _ _ _ _ _ _ _ _ _ _ _ _ _ HN.out⟩
          · have HN : Hid (b = true) := by
              show b = true
              rw [← HR.out, List.drop_eq_nil_of_le (by rw [byt_length]; omega)]
              rfl
            have i1 : ¬ ((k : Int) < (s.size : Int)) := by omega
            go_wp2_with fail
            simp only [Exit.jump]
            go_ret
            exact ⟨ret_bool HN.out.symm, rfl⟩
  · refine NameJ_elim ?_
    intro u0 u1 u2 u3 u4 u5 u6 u7 u8 u9 u10 u11 u12 u13 u14 u15 u16 u17 u18 u19 u20 u21 u22 hno
    have HN := Lib.hid hno
    clear hno
    go_wp2_with fail
    simp only [Exit.jump]
    go_ret
    exact ⟨ret_bool HN.out.symm, rfl⟩

theorem isName_any (s : ByteArray) (w : World) (hs : s.size ≤ maxLen) : Calls Try.prog 39 #[.string s] w fun e w' => e = .returned (.bool (okName s)) ∧ w = w' := isName_is _ s w hs rfl

/-- strings.Clone -/
theorem clone_any (s : ByteArray) (w : World) (hs : s.size ≤ 1000000) : Calls Try.prog 37 #[.string s] w fun e w' => e = .returned (.string s) ∧ Below w.heap.size w w' := by
  go_enter Try.func37, Try.ntmps37
  go_wp2_with (go_at_call 49; refine (Try.stringslite_Clone _ _ (by omega)).mono ?_; rintro e w' ⟨rfl, hb⟩)
  go_ret
  exact ⟨rfl, hb⟩
/-- bytes.Clone -/
theorem bclone_any (A : Option Addr) (n c : Nat) (zs : List Int) (w : World) (hz : zs.length = n) (hr : Rd w A (u8s zs)) (hn : n ≤ 1073741824) : Calls Try.prog 40 #[.slice A n c] w (Made w.heap.size 5 w (u8s zs)) := by
  cases A with
  | none =>
    refine (Try.bytes_Clone_nil n c w).mono ?_
    rintro e w' ⟨rfl, rfl⟩
    have : zs = [] := by
      rcases Nat.eq_zero_or_pos zs.length with h0 | h0
      · exact List.eq_nil_of_length_eq_zero h0
      · obtain ⟨b, off, he, _⟩ := hr.open_ (by rw [u8s_length]; omega)
        cases he
    subst this
    exact ⟨_, rfl, World.ownsRow_nil _ _ _ _, Below.refl _ _⟩
  | some a =>
    refine (Try.bytes_Clone_at a n c zs w hz (by omega) fun i hi => ?_).mono ?_
    · obtain ⟨b, off, he, _, hc⟩ := hr.open_ (by rw [u8s_length]; omega)
      cases he
      rw [Addr.add_lit, hc i _ (u8s_at (by omega)), List.getD_eq_getElem?_getD]
    · rintro e w' ⟨v', rfl, ho, _, hb⟩
      exact ⟨v', rfl, own_cast ho (by rw [u8s_length, hz]), hb⟩

end Go.Proofs.Ytecgagfpckaieaa
