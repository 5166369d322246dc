/-
  The landed package net: link, find, Count.
-/
import Derived.Test.YtbffaaljommoeaaNMem
import Derived.WalkSpells
import Derived.LoopTactic
namespace Go.Proofs.Ytbffaaljommoeaa
open Go.RowKit

/-- what holds at the label -/
inductive LinkJ (p : Prop) (w : World) : Act → World → Prop
  | mk (u0 u1 u2 u3 u4 u5 u6 u7 u8 u9 u10 u11 u12 u13 u14 u15 u16 u17 u18 u19 u20 u21 u22 u23 u24 u25 u26 u27 u28 u29 u30 : Value) (h : p) : LinkJ p w { tmps := #[u0, u1, u2, u3, u4, u5, u6, u7, u8, u9, u10, u11, u12, u13, u14, u15, u16, u17, u18, u19, u20, u21, u22, u23, u24, u25, u26, u27, u28, u29, u30], defers := [] } w
theorem LinkJ_elim {p : Prop} {w : World} {G : Act → World → Prop} (h : ∀ (u0 u1 u2 u3 u4 u5 u6 u7 u8 u9 u10 u11 u12 u13 u14 u15 u16 u17 u18 u19 u20 u21 u22 u23 u24 u25 u26 u27 u28 u29 u30 : Value), p → G { tmps := #[u0, u1, u2, u3, u4, u5, u6, u7, u8, u9, u10, u11, u12, u13, u14, u15, u16, u17, u18, u19, u20, u21, u22, u23, u24, u25, u26, u27, u28, u29, u30], defers := [] } w) : ∀ a' w', LinkJ p w a' w' → G a' w' := fun a' w' k => by
  cases k with
  | mk u0 u1 u2 u3 u4 u5 u6 u7 u8 u9 u10 u11 u12 u13 u14 u15 u16 u17 u18 u19 u20 u21 u22 u23 u24 u25 u26 u27 u28 u29 u30 hp => exact h _ _ _ _ _ _ _ _ _ _ _ _ _ _ _ _ _ _ _ _ _ _ _ _ _ _ _ _ _ _ _ hp

/-- an array's element, by a closed fact over every world -/
theorem wpList_index_is {P : Program} {w : World} {ops : Array Oper} {rest : List Oper} {o : Oper} {a : Act} {Q : Exit → Act → World → Prop} (hg : o.guard = none) (t : TypeId) (x y : Operand) (ho : o.op = .index t x y) (u v z : Value) (hx : a.eval x = u) (hy : a.eval y = v)
    (hq : ∀ w, (Instr.index t u v).run P w = .ok z w) (h : wpList P ops Q rest (a.put o.dst z) w) : wpList P ops Q (o :: rest) a w := by
  have e : (execOp a.eval o).run P w = .ok (.value z) w := by
    unfold execOp
    rw [ho]
    show ((Instr.index t (a.eval x) (a.eval y) : Sem Value) >>= fun q => pure (Next.value q)).run P w = _
    rw [hx, hy, Sem.run_bind, hq w]
    rfl
  refine wpList_plain hg fun K hK => ?_
  unfold Oper.wp
  rw [e, Oper.upon_value]
  exact hK _ _ h
theorem pair_at0 (f t : Value) (w : World) : (Instr.index 68 (.agg #[f, t]) (.int .i64 0)).run Try.prog w = .ok f w := by kernel_rfl
theorem pair_at1 (f t : Value) (w : World) : (Instr.index 68 (.agg #[f, t]) (.int .i64 1)).run Try.prog w = .ok t w := by kernel_rfl

def linkA (g : Nat) (f t : Int) : Option Addr := if bothN f t = true then some ⟨g, wayN f t, none⟩ else none

set_option maxHeartbeats 2000000 in
theorem link_is (g : Nat) (f t : Int) (w : World) (hf : -9223372036854775808 ≤ f ∧ f ≤ 9223372036854775807) (ht : -9223372036854775808 ≤ t ∧ t ≤ 9223372036854775807) :
    Calls Try.prog 29 #[.pointer (some ⟨g, 0, none⟩), .int .i64 f, .int .i64 t] w fun e w' => e = .returned (.pointer (linkA g f t)) ∧ w = w' := by
  have key : ∀ A : Option Addr, linkA g f t = A → Calls Try.prog 29 #[.pointer (some ⟨g, 0, none⟩), .int .i64 f, .int .i64 t] w fun e w' => e = .returned (.pointer A) ∧ w = w' := by
    intro A hA
    have HA := Lib.hid hA
    clear hA
    go_enter Try.func29, Try.ntmps29
    go_wp2_with fail
    refine wp_scope_jumps 0 (LinkJ (A = none) w) (fun _ _ => 0) rfl ?_ ?_
    · go_wp2_with fail
      go_loop [8, 12] (fun _ i => ∃ k : Nat, i = .int .i64 k ∧ k ≤ 2 ∧ Hid (1 ≤ k → nodeN f = true) ∧ Hid (2 ≤ k → nodeN t = true)) (fun _ i => 2 - (intOf i).toNat)
      case atStart => exact ⟨0, rfl, by omega, fun h => by omega, fun h => by omega⟩
      case round =>
        obtain ⟨k, rfl, hk, H1, H2⟩ := hrel
        rcases (by omega : k = 0 ∨ k = 1 ∨ k = 2) with rfl | rfl | rfl
        · by_cases h1 : f < 1
          · have HN : A = none := by
              rw [← HA.out, linkA, if_neg]
              rw [bothN_iff]; omega
            go_wp2_with (refine wpList_index_is rfl 68 _ _ rfl _ _ _ rfl rfl (pair_at0 (.int .i64 f) (.int .i64 t)) ?_)
            go_step3
            show 0 = 0 ∧ LinkJ (A = none) w _ _
            exact ⟨rfl, .mk _ _ _ _ _ _ _ _ _ _ _ _ _ _ _ _ _ _ _ _ _ _ _ _ _ _ _ _ _ _ _ HN⟩
          · by_cases h2 : 16 < f
            · have HN : A = none := by
                rw [← HA.out, linkA, if_neg]
                rw [bothN_iff]; omega
              go_wp2_with (refine wpList_index_is rfl 68 _ _ rfl _ _ _ rfl rfl (pair_at0 (.int .i64 f) (.int .i64 t)) ?_)
              go_step3
              show 0 = 0 ∧ LinkJ (A = none) w _ _
              exact ⟨rfl, .mk _ _ _ _ _ _ _ _ _ _ _ _ _ _ _ _ _ _ _ _ _ _ _ _ _ _ _ _ _ _ _ HN⟩
            · go_wp2_with (refine wpList_index_is rfl 68 _ _ rfl _ _ _ rfl rfl (pair_at0 (.int .i64 f) (.int .i64 t)) ?_)
              go_round
              case rel => exact ⟨1, by go_num, by omega, fun _ => by rw [nodeN_iff]; omega, fun h => by omega⟩
              case measure => simp [intOf]
        · by_cases h1 : t < 1
          · have HN : A = none := by
              rw [← HA.out, linkA, if_neg]
              rw [bothN_iff]; omega
            go_wp2_with (refine wpList_index_is rfl 68 _ _ rfl _ _ _ rfl rfl (pair_at1 (.int .i64 f) (.int .i64 t)) ?_)
            go_step3
            show 0 = 0 ∧ LinkJ (A = none) w _ _
            exact ⟨rfl, .mk _ _ _ _ _ _ _ _ _ _ _ _ _ _ _ _ _ _ _ _ _ _ _ _ _ _ _ _ _ _ _ HN⟩
          · by_cases h2 : 16 < t
            · have HN : A = none := by
                rw [← HA.out, linkA, if_neg]
                rw [bothN_iff]; omega
              go_wp2_with (refine wpList_index_is rfl 68 _ _ rfl _ _ _ rfl rfl (pair_at1 (.int .i64 f) (.int .i64 t)) ?_)
              go_step3
              show 0 = 0 ∧ LinkJ (A = none) w _ _
              exact ⟨rfl, .mk _ _ _ _ _ _ _ _ _ _ _ _ _ _ _ _ _ _ _ _ _ _ _ _ _ _ _ _ _ _ _ HN⟩
            · go_wp2_with (refine wpList_index_is rfl 68 _ _ rfl _ _ _ rfl rfl (pair_at1 (.int .i64 f) (.int .i64 t)) ?_)
              go_round
              case rel => exact ⟨2, by go_num, by omega, fun _ => H1.out (by omega), fun _ => by rw [nodeN_iff]; omega⟩
              case measure => simp [intOf]
        · have n1 := nodeN_iff.1 (H1.out (by omega))
          have n2 := nodeN_iff.1 (H2.out (by omega))
          obtain ⟨x, rfl⟩ : ∃ x : Nat, f = (x : Int) + 1 := ⟨(f - 1).toNat, by omega⟩
          obtain ⟨y, rfl⟩ : ∃ y : Nat, t = (y : Int) + 1 := ⟨(t - 1).toNat, by omega⟩
          have HN : Hid (A = some ⟨g, x * 16 + y, none⟩) := by
            show A = _
            rw [← HA.out, linkA, if_pos (by rw [bothN_iff]; omega)]
            simp [wayN]
          have w1 : IntKind.i64.wrap ((x : Int) + 1 - 1) = (x : Int) := by rw [show (x : Int) + 1 - 1 = x by omega]; exact IntWalk.i64_in _ ⟨by omega, by omega⟩
          have w2 : IntKind.i64.wrap ((y : Int) + 1 - 1) = (y : Int) := by rw [show (y : Int) + 1 - 1 = y by omega]; exact IntWalk.i64_in _ ⟨by omega, by omega⟩
          have b1 : (0 : Int) ≤ (x : Int) := by omega
          have b2 : (x : Int) < 16 := by omega
          have b3 : (0 : Int) ≤ (y : Int) := by omega
          have b4 : (y : Int) < 16 := by omega
          have c1 : x < 16 := by omega
          have c2 : y < 16 := by omega
          have hA := HN.out
          clear n1 n2 hf ht hk HA HN
          subst hA
          go_wp2_with fail
          simp only [Exit.jump]
          go_ret
          exact ⟨rfl, rfl⟩
    · refine LinkJ_elim ?_
      intro u0 u1 u2 u3 u4 u5 u6 u7 u8 u9 u10 u11 u12 u13 u14 u15 u16 u17 u18 u19 u20 u21 u22 u23 u24 u25 u26 u27 u28 u29 u30 hn
      subst hn
      go_wp2_with fail
      simp only [Exit.jump]
      go_ret
      exact ⟨rfl, rfl⟩
  exact key _ rfl

theorem linkA_yes {g : Nat} {f t : Int} (h : bothN f t = true) : linkA g f t = some ⟨g, wayN f t, none⟩ := by rw [linkA, if_pos h]
theorem linkA_no {g : Nat} {f t : Int} (h : bothN f t = false) : linkA g f t = none := by rw [linkA, if_neg (by rw [h]; decide)]

/-- a number of the machine's -/
abbrev Fit (n : Int) : Prop := -9223372036854775808 ≤ n ∧ n ≤ 9223372036854775807

set_option maxHeartbeats 1000000 in
theorem count_is {F : Nat → Prop} {L : PN} (g : Nat) (f t : Int) (w : World) (h : IsNet w g F L) (hf : Fit f) (ht : Fit t) :
    Calls Try.prog 22 #[.pointer (some ⟨g, 0, none⟩), .int .i64 f, .int .i64 t] w fun e w' => e = .returned (.int .i64 ((L.at_ f t).length : Nat)) ∧ w = w' := by
  obtain ⟨V, h⟩ := h
  have HL := Lib.hid (link_is g f t w hf ht)
  cases hb : bothN f t with
  | false =>
    rw [at_no hb]
    rw [linkA_no hb] at HL
    clear hf ht hb h
    go_enter Try.func22, Try.ntmps22
    go_wp2_with fail
    refine HL.out.mono ?_
    rintro e w' ⟨rfl, rfl⟩
    go_wp2_with fail
    go_ret
    exact ⟨rfl, rfl⟩
  | true =>
    rw [at_yes hb]
    rw [linkA_yes hb] at HL
    obtain ⟨n, hn⟩ : ∃ n, (L (wayN f t)).length = n := ⟨_, rfl⟩
    obtain ⟨A, c, hv, _, _, _⟩ := h.slice (wayN_lt hb) hn
    have c1 := h.cell (wayN_lt hb)
    rw [hv] at c1
    rw [hn]
    clear hf ht hb h hv hn
    go_enter Try.func22, Try.ntmps22
    go_wp2_with fail
    refine HL.out.mono ?_
    rintro e w' ⟨rfl, rfl⟩
    go_wp2_with fail
    go_ret
    exact ⟨rfl, rfl⟩

set_option maxHeartbeats 2000000 in
theorem find_is {F : Nat → Prop} {L : PN} (g : Nat) (f t k : Int) (w : World) (h : IsNet w g F L) (hf : Fit f) (ht : Fit t) :
    Calls Try.prog 25 #[.pointer (some ⟨g, 0, none⟩), .int .i64 f, .int .i64 t, .int .i64 k] w fun e w' =>
      e = .returned (if hasK L f t k = true then .tuple #[.pointer (some ⟨g, wayN f t, none⟩), .int .i64 0] else .tuple #[.pointer none, .int .i64 3]) ∧ w = w' := by
  obtain ⟨V, h⟩ := h
  have HL := Lib.hid (link_is g f t w hf ht)
  cases hb : bothN f t with
  | false =>
    have hk : ¬ (hasK L f t k = true) := fun hk => by rw [hasK_both hk] at hb; cases hb
    rw [if_neg hk]
    rw [linkA_no hb] at HL
    clear hf ht hb h hk
    go_enter Try.func25, Try.ntmps25
    go_wp2_with fail
    refine HL.out.mono ?_
    rintro e w' ⟨rfl, rfl⟩
    go_wp2_with fail
    go_ret2
    exact ⟨rfl, rfl⟩
  | true =>
    rw [linkA_yes hb] at HL
    obtain ⟨n, hn⟩ : ∃ n, (L (wayN f t)).length = n := ⟨_, rfl⟩
    obtain ⟨A, c, hv, _, _, _⟩ := h.slice (wayN_lt hb) hn
    have c1 := h.cell (wayN_lt hb)
    rw [hv] at c1
    have hi : hasK L f t k = true ↔ 0 ≤ k ∧ k < (n : Int) := by rw [hasK_iff, at_yes hb, hn]
    by_cases k0 : k < 0
    · rw [if_neg (by rw [hi]; omega)]
      clear hf ht hb h hv hn hi
      go_enter Try.func25, Try.ntmps25
      go_wp2_with fail
      refine HL.out.mono ?_
      rintro e w' ⟨rfl, rfl⟩
      go_wp2_with fail
      go_ret2
      exact ⟨rfl, rfl⟩
    · by_cases k1 : (n : Int) ≤ k
      · rw [if_neg (by rw [hi]; omega)]
        clear hf ht hb h hv hn hi
        go_enter Try.func25, Try.ntmps25
        go_wp2_with fail
        refine HL.out.mono ?_
        rintro e w' ⟨rfl, rfl⟩
        go_wp2_with fail
        go_ret2
        exact ⟨rfl, rfl⟩
      · rw [if_pos (by rw [hi]; omega)]
        clear hf ht hb h hv hn hi
        go_enter Try.func25, Try.ntmps25
        go_wp2_with fail
        refine HL.out.mono ?_
        rintro e w' ⟨rfl, rfl⟩
        go_wp2_with fail
        go_ret2
        exact ⟨rfl, rfl⟩

end Go.Proofs.Ytbffaaljommoeaa
