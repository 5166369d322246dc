/-
  Package real as landed: isOf, haveSigned, areThere.
-/
import Derived.Test.YtcfnomnhameleaaRReal
import Derived.Test.YtcfnomnhameleaaZH
namespace Go.Proofs.Ytcfnomnhameleaa
open Go.RowKit

/-- is d the digest of x? -/
theorem isOf_is (b : Bool) {F : Nat → Prop} (g : Nat) (L : List (List Int)) (S : List (Int × Int)) (d : Int) (A : Option Addr) (c n : Nat) (x : List Int) (w : World) (h : IsBook w g F L S) (hG : Given w F A c n x) (h1 : 1 ≤ d) (hb : decide (((findB L x : Nat) : Int) = d) = b) :
    Calls Try.prog 68 #[.pointer (some ⟨g, 0, none⟩), .int .i64 d, .slice A n c] w fun e w' => e = .returned (.bool b) ∧ ∃ k, w' = w.drewN k := by
  cases hk : findB L x with
  | zero =>
    have hv : findV (findB L x) = .tuple #[.int .i64 0, .int .i64 3] := by rw [hk]; rfl
    have HN : Hid (b = false) := by show b = false; rw [← hb, hk]; exact decide_eq_false (by simp; omega)
    have HV := Lib.hid hv
    clear hv hk hb h1
    go_enter Try.func68, Try.ntmps68
    go_wp2_with fail
    refine (pfind_any g L S A c n x _ h hG).mono ?_
    rintro e w' ⟨he, k, rfl⟩
    rw [HV.out] at he
    subst he
    go_wp2_with fail
    go_ret
    exact ⟨ret_bool HN.out.symm, k, rfl⟩
  | succ j =>
    have hv : findV (findB L x) = .tuple #[.int .i64 ((j + 1 : Nat) : Int), .int .i64 0] := by rw [hk]; rfl
    obtain ⟨q, hq⟩ : ∃ q : Int, q = ((j + 1 : Nat) : Int) := ⟨_, rfl⟩
    rw [← hq] at hv
    rw [hk, ← hq] at hb
    have HV := Lib.hid hv
    by_cases he : q = d
    · have HN : Hid (b = true) := by show b = true; rw [← hb]; exact decide_eq_true he
      have j1 : (q == d) = true := by simp [he]
      have HE := Lib.hid he
      clear hv hk hb h1 hq he
      go_enter Try.func68, Try.ntmps68
      go_wp2_with fail
      refine (pfind_any g L S A c n x _ h hG).mono ?_
      rintro e w' ⟨he, k, rfl⟩
      rw [HV.out] at he
      subst he
      go_wp2_with fail
      go_ret
      exact ⟨ret_bool HN.out.symm, k, rfl⟩
    · have HN : Hid (b = false) := by show b = false; rw [← hb]; exact decide_eq_false he
      have j1 : (q == d) = false := by simp [he]
      clear hv hk hb h1 hq he
      go_enter Try.func68, Try.ntmps68
      go_wp2_with fail
      refine (pfind_any g L S A c n x _ h hG).mono ?_
      rintro e w' ⟨he, k, rfl⟩
      rw [HV.out] at he
      subst he
      go_wp2_with fail
      go_ret
      exact ⟨ret_bool HN.out.symm, k, rfl⟩

/-- what holds at the label -/
inductive UnsignedJ (p : Prop) (w : World) : Act → World → Prop
  | mk (u0 u1 u2 u3 u4 u5 u6 u7 u8 u9 u10 u11 u12 u13 u14 u15 u16 u17 u18 u19 u20 u21 u22 u23 u24 u25 u26 u27 u28 : Value) (h : p) : UnsignedJ p w { tmps := #[u0, u1, u2, u3, u4, u5, u6, u7, u8, u9, u10, u11, u12, u13, u14, u15, u16, u17, u18, u19, u20, u21, u22, u23, u24, u25, u26, u27, u28], defers := [] } w
theorem unsignedJ_elim {p : Prop} {w : World} {G : Act → World → Prop} (h : ∀ (u0 u1 u2 u3 u4 u5 u6 u7 u8 u9 u10 u11 u12 u13 u14 u15 u16 u17 u18 u19 u20 u21 u22 u23 u24 u25 u26 u27 u28 : Value), p → G { tmps := #[u0, u1, u2, u3, u4, u5, u6, u7, u8, u9, u10, u11, u12, u13, u14, u15, u16, u17, u18, u19, u20, u21, u22, u23, u24, u25, u26, u27, u28], defers := [] } w) : ∀ a' w', UnsignedJ p w a' w' → G a' w' := fun a' w' k => by
  cases k with
  | mk u0 u1 u2 u3 u4 u5 u6 u7 u8 u9 u10 u11 u12 u13 u14 u15 u16 u17 u18 u19 u20 u21 u22 u23 u24 u25 u26 u27 u28 hp => exact h _ _ _ _ _ _ _ _ _ _ _ _ _ _ _ _ _ _ _ _ _ _ _ _ _ _ _ _ _ hp

theorem allBy_drop {S : List (Int × Int)} {l : List Int} {d : Int} {c : List Int} {k : Nat} (h : k < c.length) : allBy S l d (c.drop k) = (byB S l (c[k]?.getD 0) d && allBy S l d (c.drop (k + 1))) := by
  have e : c.drop k = c[k]?.getD 0 :: c.drop (k + 1) := by rw [List.getElem?_eq_getElem h, Option.getD_some, ← List.drop_eq_getElem_cons h]
  rw [e]
  simp [allBy]
set_option maxHeartbeats 1000000 in
theorem haveSigned_is (b : Bool) {F : Nat → Prop} (g : Nat) (L : List (List Int)) (S : List (Int × Int)) (A : Option Addr) (c nl : Nat) (l : List Int) (d : Int) (A2 : Option Addr) (c2 n2 : Nat) (cs : List Int) (w : World) (h : IsBook w g F L S) (hb : allBy S l d cs = b)
    (hz : l.length = nl) (hr : Rd w A (i64s l)) (hn : nl ≤ 1000000) (hz2 : cs.length = n2) (hr2 : Rd w A2 (i64s cs)) (hn2 : n2 ≤ 1073741824) (hL : L.length ≤ 1000) (hS : S.length ≤ 1000) :
    Calls Try.prog 69 #[.pointer (some ⟨g, 0, none⟩), .slice A nl c, .int .i64 d, .slice A2 n2 c2] w fun e w' => e = .returned (.bool b) ∧ w = w' := by
  have HB := Lib.hid hb
  have HZ := Lib.hid hz
  have HZ2 := Lib.hid hz2
  clear hb hz hz2
  go_enter Try.func69, Try.ntmps69
  go_wp2_with fail
  refine wp_scope_jumps 0 (UnsignedJ (b = false) w) (fun _ _ => 0) rfl ?_ ?_
  · go_wp2_with fail
    go_loop [13] (fun i => ∃ k : Nat, i = .int .i64 k ∧ k ≤ n2 ∧ Hid (allBy S l d (cs.drop k) = b)) (fun i => n2 - (intOf i).toNat)
    case atStart => exact ⟨0, rfl, by omega, by rw [List.drop_zero]; exact HB.out⟩
    case round =>
      obtain ⟨k, rfl, hk, HR⟩ := hrel
      by_cases hlt : k < n2
      · obtain ⟨bl, off, rfl, hbl, hcell⟩ := hr2.open_ (by rw [i64s_length, HZ2.out]; omega)
        have hc1 := hcell k _ (i64s_at (by rw [HZ2.out]; exact hlt))
        have hu := allBy_drop (S := S) (l := l) (d := d) (show k < cs.length by rw [HZ2.out]; exact hlt)
        rw [HR.out] at hu
        clear hcell
        obtain ⟨y, hy⟩ : ∃ y, y = cs[k]?.getD 0 := ⟨_, rfl⟩
        rw [← hy] at hc1 hu
        have HY := Lib.hid hu
        clear hy hu
        have i0 : (0 : Int) ≤ (k : Int) := by omega
        have i1 : (k : Int) < (n2 : Int) := by omega
        go_wp2_with fail
        refine (psigned_any g L S y d _ h hL hS).mono ?_
        rintro e w' ⟨rfl, rfl⟩
        cases hsg : signedB S y d with
        | true =>
          have HN : Hid (allBy S l d (cs.drop (k + 1)) = b) := by
            show _ = b
            have h3 := HY.out
            rw [byB, hsg, Bool.or_true, Bool.true_and] at h3
            exact h3.symm
          clear hsg
          go_wp2_with fail
          go_round
          case rel => exact ⟨k + 1, by go_num, by omega, HN⟩
          case measure => simp [intOf]; omega
        | false =>
          have HSG := Lib.hid hsg
          clear hsg
          go_wp2_with fail
          refine (pcontains_any (l.contains y) A nl c l y _ rfl HZ.out hr hn).mono ?_
          rintro e w' ⟨rfl, rfl⟩
          cases hct : l.contains y with
          | true =>
            have HN : Hid (allBy S l d (cs.drop (k + 1)) = b) := by
              show _ = b
              have h3 := HY.out
              have hm : y ∈ l := by simpa using hct
              rw [byB, HSG.out, decide_eq_true hm, Bool.or_false, Bool.true_and] at h3
              exact h3.symm
            clear hct
            go_wp2_with fail
            go_round
            case rel => exact ⟨k + 1, by go_num, by omega, HN⟩
            case measure => simp [intOf]; omega
          | false =>
            have HN : Hid (b = false) := by
              show b = false
              have h3 := HY.out
              have hm : ¬ y ∈ l := by simpa using hct
              rw [byB, HSG.out, decide_eq_false hm, Bool.or_false, Bool.false_and] at h3
              exact h3
            clear hct
            go_wp2_with fail
            go_step3
            show 0 = 0 ∧ UnsignedJ (b = false) w _ _
            exact ⟨rfl, .mk _ _ _ _ _ _ _ _ _ _ _ _ _ _ _ _ _ _ _ _ _ _ _ _ _ _ _ _ _ HN.out⟩
      · have HN : Hid (b = true) := by
          show b = true
          rw [← HR.out, List.drop_eq_nil_of_le (by rw [HZ2.out]; omega)]
          rfl
        have i1 : ¬ ((k : Int) < (n2 : Int)) := by omega
        go_wp2_with fail
        simp only [Exit.jump]
        go_ret
        exact ⟨ret_bool HN.out.symm, rfl⟩
  · refine unsignedJ_elim ?_
    intro u0 u1 u2 u3 u4 u5 u6 u7 u8 u9 u10 u11 u12 u13 u14 u15 u16 u17 u18 u19 u20 u21 u22 u23 u24 u25 u26 u27 u28 hno
    have HN := Lib.hid hno
    clear hno
    go_wp2_with fail
    simp only [Exit.jump]
    go_ret
    exact ⟨ret_bool HN.out.symm, rfl⟩

/-- what holds at the label -/
inductive MissingJ (p : Prop) (w : World) : Act → World → Prop
  | mk (u0 u1 u2 u3 u4 u5 u6 u7 u8 u9 u10 u11 u12 u13 u14 u15 u16 u17 u18 u19 u20 u21 : Value) (h : p) : MissingJ p w { tmps := #[u0, u1, u2, u3, u4, u5, u6, u7, u8, u9, u10, u11, u12, u13, u14, u15, u16, u17, u18, u19, u20, u21], defers := [] } w
theorem missingJ_elim {p : Prop} {w : World} {G : Act → World → Prop} (h : ∀ (u0 u1 u2 u3 u4 u5 u6 u7 u8 u9 u10 u11 u12 u13 u14 u15 u16 u17 u18 u19 u20 u21 : Value), p → G { tmps := #[u0, u1, u2, u3, u4, u5, u6, u7, u8, u9, u10, u11, u12, u13, u14, u15, u16, u17, u18, u19, u20, u21], defers := [] } w) : ∀ a' w', MissingJ p w a' w' → G a' w' := fun a' w' k => by
  cases k with
  | mk u0 u1 u2 u3 u4 u5 u6 u7 u8 u9 u10 u11 u12 u13 u14 u15 u16 u17 u18 u19 u20 u21 hp => exact h _ _ _ _ _ _ _ _ _ _ _ _ _ _ _ _ _ _ _ _ _ _ hp

set_option maxHeartbeats 1000000 in
theorem areThere_is (b : Bool) {F : Nat → Prop} (g : Nat) (L : List (List Int)) (S : List (Int × Int)) (A2 : Option Addr) (c2 n2 : Nat) (cs : List Int) (w : World) (h : IsBook w g F L S) (hb : betwB cs 1 (L.length : Int) = b)
    (hz2 : cs.length = n2) (hr2 : Rd w A2 (i64s cs)) (hn2 : n2 ≤ 1073741824) :
    Calls Try.prog 71 #[.pointer (some ⟨g, 0, none⟩), .slice A2 n2 c2] w fun e w' => e = .returned (.bool b) ∧ w = w' := by
  obtain ⟨m, vE, vs, h⟩ := h
  have c1 := h.c1
  obtain ⟨nL, hnL⟩ : ∃ nL, L.length = nL := ⟨_, rfl⟩
  have rE := h.rE
  rw [hnL] at rE hb
  obtain ⟨AE, cE, rfl, _, _, _, _, _⟩ := ownS_slice rE
  have HB := Lib.hid hb
  have HZ2 := Lib.hid hz2
  clear hb hz2 h hnL rE
  go_enter Try.func71, Try.ntmps71
  go_wp2_with fail
  refine wp_scope_jumps 0 (MissingJ (b = false) w) (fun _ _ => 0) rfl ?_ ?_
  · go_wp2_with fail
    go_loop [9] (fun i => ∃ k : Nat, i = .int .i64 k ∧ k ≤ n2 ∧ Hid (betwB (cs.drop k) 1 (nL : Int) = b)) (fun i => n2 - (intOf i).toNat)
    case atStart => exact ⟨0, rfl, by omega, by rw [List.drop_zero]; exact HB.out⟩
    case round =>
      obtain ⟨k, rfl, hk, HR⟩ := hrel
      by_cases hlt : k < n2
      · obtain ⟨bl, off, rfl, hbl, hcell⟩ := hr2.open_ (by rw [i64s_length, HZ2.out]; omega)
        have hk1 := hcell k _ (i64s_at (by rw [HZ2.out]; exact hlt))
        have hu := betw_next (lo := 1) (hi := (nL : Int)) (show k < cs.length by rw [HZ2.out]; exact hlt)
        rw [HR.out] at hu
        clear hcell
        obtain ⟨y, hy⟩ : ∃ y, y = cs[k]?.getD 0 := ⟨_, rfl⟩
        rw [← hy] at hk1 hu
        have HY := Lib.hid hu
        clear hy hu
        have i0 : (0 : Int) ≤ (k : Int) := by omega
        have i1 : (k : Int) < (n2 : Int) := by omega
        by_cases h1 : y < 1
        · have HN : Hid (b = false) := by show b = false; rw [HY.out, decide_eq_false (by omega), Bool.false_and]
          go_wp2_with fail
          go_step3
          show 0 = 0 ∧ MissingJ (b = false) w _ _
          exact ⟨rfl, .mk _ _ _ _ _ _ _ _ _ _ _ _ _ _ _ _ _ _ _ _ _ _ HN.out⟩
        by_cases h2 : (nL : Int) < y
        · have HN : Hid (b = false) := by show b = false; rw [HY.out, decide_eq_false (by omega), Bool.false_and]
          go_wp2_with fail
          refine (pcount_cell g nL cE AE _ c1).mono ?_
          rintro e w' ⟨rfl, rfl⟩
          go_wp2_with fail
          go_step3
          show 0 = 0 ∧ MissingJ (b = false) w _ _
          exact ⟨rfl, .mk _ _ _ _ _ _ _ _ _ _ _ _ _ _ _ _ _ _ _ _ _ _ HN.out⟩
        have HN : Hid (betwB (cs.drop (k + 1)) 1 (nL : Int) = b) := by
          show _ = b
          have h3 := HY.out
          rw [decide_eq_true (by omega), Bool.true_and] at h3
          exact h3.symm
        go_wp2_with fail
        refine (pcount_cell g nL cE AE _ c1).mono ?_
        rintro e w' ⟨rfl, rfl⟩
        go_wp2_with fail
        go_round
        case rel => exact ⟨k + 1, by go_num, by omega, HN⟩
        case measure => simp [intOf]; omega
      · have HN : Hid (b = true) := by
          show b = true
          rw [← HR.out, List.drop_eq_nil_of_le (by rw [HZ2.out]; omega)]
          rfl
        have i1 : ¬ ((k : Int) < (n2 : Int)) := by omega
        go_wp2_with fail
        simp only [Exit.jump]
        go_ret
        exact ⟨ret_bool HN.out.symm, rfl⟩
  · refine missingJ_elim ?_
    intro u0 u1 u2 u3 u4 u5 u6 u7 u8 u9 u10 u11 u12 u13 u14 u15 u16 u17 u18 u19 u20 u21 hno
    have HN := Lib.hid hno
    clear hno
    go_wp2_with fail
    simp only [Exit.jump]
    go_ret
    exact ⟨ret_bool HN.out.symm, rfl⟩

end Go.Proofs.Ytcfnomnhameleaa
