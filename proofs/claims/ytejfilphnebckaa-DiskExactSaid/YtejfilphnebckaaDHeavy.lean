/-
  Which scripts are let go; a code, as it is; and what wakes the statements.
-/
import Derived.Test.YtejfilphnebckaaDScr
import Derived.Test.YtejfilphnebckaaEqs
import Derived.BigQuiet
namespace Go.Proofs.Ytejfilphnebckaa
open Go.RowKit

/-- a script that is not let go -/
def Light9 (s : Scr9) : Prop := s.nF ≤ 40 ∧ (∀ f ∈ s.fl, f.dat.length ≤ 10000) ∧ ∀ (j : Nat) (a : ActD), j < 40 → s.L[j]? = some a → a.nB ≤ 10000 ∧ a.nK ≤ 10000
def Heavy9 (s : Scr9) (w : World) (e : Ending) (w' : World) : Prop := ∃ b : Bool, e = .returned (.bool b) ∧ Below w.heap.size w w' ∧ (b = false → Light9 s)
theorem light9 {s : Scr9} {w : World} {nF nL k k2 tt tt2 : Nat} (h1 : s.nF = nF) (h2 : s.nL = nL) (hin : ScrIn w s) (hff : (nF ≤ k ∨ 40 ≤ k) ∧ ∀ (j : Nat) (f : FL), j < k → s.fl[j]? = some f → f.dat.length ≤ tt)
    (hll : tt ≤ tt2 ∧ ∀ (j : Nat) (a : ActD), j < k2 → s.L[j]? = some a → a.nB ≤ tt2 ∧ a.nK ≤ tt2) (g1 : ¬ 10000 < tt2) (g2 : ¬ 40 < nF) (hk : nL ≤ k2 ∨ 40 ≤ k2) : Light9 s := by
  refine ⟨by omega, fun f hf => ?_, fun j a hj ha => ?_⟩
  · obtain ⟨i, hi⟩ := List.mem_iff_getElem?.1 hf
    have := (List.getElem?_eq_some_iff.1 hi).1
    have h3 := hin.zF
    have := hff.2 i f (by have := hff.1; omega) hi
    have := hll.1
    omega
  · have := (List.getElem?_eq_some_iff.1 ha).1
    have h3 := hin.zL
    have := hll.2 j a (by omega) ha
    omega

theorem num9_any (n : Int) (w : World) : Calls Try.prog 13 #[.int .i64 n] w fun e w' => e = .returned (.int .i64 n) ∧ w = w' := by
  go_enter Try.func13, Try.ntmps13
  go_wp2
  go_ret
  exact ⟨rfl, rfl⟩

set_option maxRecDepth 100000 in
set_option maxHeartbeats 8000000 in
theorem heavy9_any (s : Scr9) (w : World) (h : ScrIn w s) :
    Calls Try.prog 8 #[scrV s] w (Heavy9 s w) := by
  obtain ⟨w1, hw1⟩ : ∃ w1, w1 = w.alloc (.cells #[.slice s.AF s.nF s.cF, .slice s.AL s.nL s.cL] 25) := ⟨_, rfl⟩
  have hb1 : Below w.heap.size w w1 := by rw [hw1]; exact (Below.refl _ _).alloc (Nat.le_refl _) _
  have bx1 : Box w1 w.heap.size (scrC s) := by rw [hw1]; exact box_new w (scrC s) 25
  have HW := Lib.hid hw1
  have HX : Hid (∀ wX, Below w1.heap.size w1 wX → Box wX w.heap.size (scrC s)) := fun wX h => bx1.below h bx1.1
  have HI : Hid (∀ wX, Below w1.heap.size w1 wX → ScrIn wX s) := fun wX hX => h.below (hb1.trans (hX.mono hb1.size))
  obtain ⟨nF, hnF⟩ : ∃ nF, s.nF = nF := ⟨_, rfl⟩
  obtain ⟨nL, hnL⟩ : ∃ nL, s.nL = nL := ⟨_, rfl⟩
  have HNF := Lib.hid hnF
  have HNL := Lib.hid hnL
  have HC0 : Hid (∀ wX, Below w1.heap.size w1 wX → wX.cell? ⟨w.heap.size, 0, none⟩ = some (.slice s.AF nF s.cF)) := fun wX h => by rw [← hnF]; exact (HX.out _ h).2 0 _ rfl
  have HC1 : Hid (∀ wX, Below w1.heap.size w1 wX → wX.cell? ⟨w.heap.size, 1, none⟩ = some (.slice s.AL nL s.cL)) := fun wX h => by rw [← hnL]; exact (HX.out _ h).2 1 _ rfl
  clear hw1 bx1 h hnF hnL
  unfold scrV
  go_enter Try.func8, Try.ntmps8
  go_upto_region 1 with fail
  rw [← HW.out]
  go_wp2_with fail
  go_loopw [3, 4] (fun t i wr => ∃ k tt : Nat, i = .int .i64 k ∧ t = .int .i64 tt ∧ k ≤ nF ∧ k ≤ 40 ∧ tt ≤ k * 140737488351232 ∧ Below w1.heap.size w1 wr ∧ Hid (∀ (j : Nat) (f : FL), j < k → s.fl[j]? = some f → f.dat.length ≤ tt)) (fun _ i _ => 40 - (intOf i).toNat)
  case atStart => exact ⟨0, 0, rfl, rfl, by omega, by omega, by omega, Below.refl _ _, fun j x hj => absurd hj (by omega)⟩
  case round =>
    obtain ⟨k, tt, rfl, rfl, hk, hk40, htt, hb, HLT⟩ := hrel
    have c0 := HC0.out _ hb
    have i0 : (0 : Int) ≤ (k : Int) := by omega
    by_cases hlt : k < nF
    · have i1 : (k : Int) < (nF : Int) := by omega
      by_cases h40 : k < 40
      · have i2 : (k : Int) < 40 := by omega
        obtain ⟨b, off, f, A, c, hAF, hbl, hx, hmem, _, hfc, hcm, _, _, hcd⟩ := (HI.out _ hb).file (k := k) (by rw [HNF.out]; exact hlt)
        rw [hAF] at c0
        have hfB := ((HI.out _ hb).fsm f hmem).2
        obtain ⟨nB, hnB⟩ : ∃ nB, f.dat.length = nB := ⟨_, rfl⟩
        rw [hnB] at hcd hfB
        have HXX := Lib.hid hx
        have HNB := Lib.hid hnB
        clear hAF hmem hx hnB
        have e1 : IntKind.i64.wrap ((tt : Int) + (nB : Int)) = ((tt + nB : Nat) : Int) := by rw [IntKind.wrap_i64]; omega
        go_wp2_with fail
        go_roundw
        case rel =>
          refine ⟨k + 1, tt + nB, by go_num, by first | rfl | go_num, by omega, by omega, by omega, hb, fun j y hj hy => ?_⟩
          by_cases hjk : j = k
          · subst hjk
            have e := HXX.out
            rw [hy] at e
            cases e
            rw [HNB.out]
            omega
          · have := HLT.out j y (by omega) hy
            omega
        case measure => simp [intOf]; omega
      · have i2 : ¬ ((k : Int) < 40) := by omega
        have HFF : Hid ((nF ≤ k ∨ 40 ≤ k) ∧ ∀ (j : Nat) (f : FL), j < k → s.fl[j]? = some f → f.dat.length ≤ tt) := ⟨.inr (by omega), HLT.out⟩
        have htt' : tt ≤ 5629499534049280 := by omega
        go_wp2_with fail
        go_loopw [3, 5] (fun t i wr => ∃ k2 tt2 : Nat, i = .int .i64 k2 ∧ t = .int .i64 tt2 ∧ k2 ≤ nL ∧ k2 ≤ 40 ∧ tt2 ≤ 5629499534049280 + k2 * 281474976702464 ∧ Below w1.heap.size w1 wr ∧ Hid (tt ≤ tt2 ∧ ∀ (j : Nat) (a : ActD), j < k2 → s.L[j]? = some a → a.nB ≤ tt2 ∧ a.nK ≤ tt2)) (fun _ i _ => 40 - (intOf i).toNat)
        case atStart => exact ⟨0, tt, rfl, rfl, by omega, by omega, Nat.le_trans htt' (Nat.le_add_right _ _), hb, Nat.le_refl _, fun j a hj => absurd hj (by omega)⟩
        case round =>
          obtain ⟨k2, tt2, rfl, rfl, hk2, hk240, htt2, hb2, HLL⟩ := hrel
          have c1 := HC1.out _ hb2
          have j0 : (0 : Int) ≤ (k2 : Int) := by omega
          by_cases hlt2 : k2 < nL
          · have i3 : (k2 : Int) < (nL : Int) := by omega
            by_cases h402 : k2 < 40
            · have i4 : (k2 : Int) < 40 := by omega
              obtain ⟨b, off, a, hAL, hbl, hx, hmem, hrg⟩ := (HI.out _ hb2).at_ (k := k2) (by rw [HNL.out]; exact hlt2)
              rw [hAL] at c1
              have hin := (HI.out _ hb2).act a hmem
              have hfB := hin.fB
              have hfK := hin.fK
              have hcB : wr.cell? ⟨b, off + k2 * 6 + 4, none⟩ = some (.slice a.AB a.nB a.cB) := hrg 4 _ rfl
              have hcK : wr.cell? ⟨b, off + k2 * 6 + 5, none⟩ = some (.slice a.AK a.nK a.cK) := hrg 5 _ rfl
              obtain ⟨nB, hnB⟩ : ∃ nB, a.nB = nB := ⟨_, rfl⟩
              obtain ⟨nK, hnK⟩ : ∃ nK, a.nK = nK := ⟨_, rfl⟩
              rw [hnB] at hcB hfB
              rw [hnK] at hcK hfK
              have HXX := Lib.hid hx
              have HNB := Lib.hid hnB
              have HNK := Lib.hid hnK
              clear hAL hmem hrg hx hnB hnK hin
              have e1 : IntKind.i64.wrap ((tt2 : Int) + (nB : Int)) = ((tt2 + nB : Nat) : Int) := by rw [IntKind.wrap_i64]; omega
              have e2 : IntKind.i64.wrap (((tt2 + nB : Nat) : Int) + (nK : Int)) = ((tt2 + nB + nK : Nat) : Int) := by rw [IntKind.wrap_i64]; omega
              go_wp2_with fail
              go_quiet (fail)
              go_wp2_with fail
              go_roundw
              case rel =>
                refine ⟨k2 + 1, tt2 + nB + nK, by go_num, by first | rfl | go_num, by omega, by omega, by omega, by first | exact hb2 | exact below_n hb2 _, by have := HLL.out.1; omega, fun j y hj hy => ?_⟩
                by_cases hjk : j = k2
                · subst hjk
                  have e := HXX.out
                  rw [hy] at e
                  cases e
                  rw [HNB.out, HNK.out]
                  omega
                · have := HLL.out.2 j y (by omega) hy
                  omega
              case measure => simp [intOf]; omega
            · have i4 : ¬ ((k2 : Int) < 40) := by omega
              have c0 := HC0.out _ hb2
              by_cases g1 : 10000 < tt2
              · have i5 : (10000 : Int) < (tt2 : Int) := by omega
                go_wp2_with fail
                go_ret
                exact ⟨true, rfl, hb1.trans (hb2.mono hb1.size), fun h => by cases h⟩
              have i5 : ¬ ((10000 : Int) < (tt2 : Int)) := by omega
              have i6 : (40 : Int) < (nF : Int) := by omega
              go_wp2_with fail
              go_ret
              exact ⟨true, rfl, hb1.trans (hb2.mono hb1.size), fun h => by cases h⟩

          · have i3 : ¬ ((k2 : Int) < (nL : Int)) := by omega
            have c0 := HC0.out _ hb2
            by_cases g1 : 10000 < tt2
            · have i5 : (10000 : Int) < (tt2 : Int) := by omega
              go_wp2_with fail
              go_ret
              exact ⟨true, rfl, hb1.trans (hb2.mono hb1.size), fun h => by cases h⟩
            have i5 : ¬ ((10000 : Int) < (tt2 : Int)) := by omega
            have i6 : (40 : Int) < (nF : Int) := by omega
            go_wp2_with fail
            go_ret
            exact ⟨true, rfl, hb1.trans (hb2.mono hb1.size), fun h => by cases h⟩

    · have i1 : ¬ ((k : Int) < (nF : Int)) := by omega
      have HFF : Hid ((nF ≤ k ∨ 40 ≤ k) ∧ ∀ (j : Nat) (f : FL), j < k → s.fl[j]? = some f → f.dat.length ≤ tt) := ⟨.inl (by omega), HLT.out⟩
      have htt' : tt ≤ 5629499534049280 := by omega
      go_wp2_with fail
      go_loopw [3, 5] (fun t i wr => ∃ k2 tt2 : Nat, i = .int .i64 k2 ∧ t = .int .i64 tt2 ∧ k2 ≤ nL ∧ k2 ≤ 40 ∧ tt2 ≤ 5629499534049280 + k2 * 281474976702464 ∧ Below w1.heap.size w1 wr ∧ Hid (tt ≤ tt2 ∧ ∀ (j : Nat) (a : ActD), j < k2 → s.L[j]? = some a → a.nB ≤ tt2 ∧ a.nK ≤ tt2)) (fun _ i _ => 40 - (intOf i).toNat)
      case atStart => exact ⟨0, tt, rfl, rfl, by omega, by omega, Nat.le_trans htt' (Nat.le_add_right _ _), hb, Nat.le_refl _, fun j a hj => absurd hj (by omega)⟩
      case round =>
        obtain ⟨k2, tt2, rfl, rfl, hk2, hk240, htt2, hb2, HLL⟩ := hrel
        have c1 := HC1.out _ hb2
        have j0 : (0 : Int) ≤ (k2 : Int) := by omega
        by_cases hlt2 : k2 < nL
        · have i3 : (k2 : Int) < (nL : Int) := by omega
          by_cases h402 : k2 < 40
          · have i4 : (k2 : Int) < 40 := by omega
            obtain ⟨b, off, a, hAL, hbl, hx, hmem, hrg⟩ := (HI.out _ hb2).at_ (k := k2) (by rw [HNL.out]; exact hlt2)
            rw [hAL] at c1
            have hin := (HI.out _ hb2).act a hmem
            have hfB := hin.fB
            have hfK := hin.fK
            have hcB : wr.cell? ⟨b, off + k2 * 6 + 4, none⟩ = some (.slice a.AB a.nB a.cB) := hrg 4 _ rfl
            have hcK : wr.cell? ⟨b, off + k2 * 6 + 5, none⟩ = some (.slice a.AK a.nK a.cK) := hrg 5 _ rfl
            obtain ⟨nB, hnB⟩ : ∃ nB, a.nB = nB := ⟨_, rfl⟩
            obtain ⟨nK, hnK⟩ : ∃ nK, a.nK = nK := ⟨_, rfl⟩
            rw [hnB] at hcB hfB
            rw [hnK] at hcK hfK
            have HXX := Lib.hid hx
            have HNB := Lib.hid hnB
            have HNK := Lib.hid hnK
            clear hAL hmem hrg hx hnB hnK hin
            have e1 : IntKind.i64.wrap ((tt2 : Int) + (nB : Int)) = ((tt2 + nB : Nat) : Int) := by rw [IntKind.wrap_i64]; omega
            have e2 : IntKind.i64.wrap (((tt2 + nB : Nat) : Int) + (nK : Int)) = ((tt2 + nB + nK : Nat) : Int) := by rw [IntKind.wrap_i64]; omega
            go_wp2_with fail
            go_quiet (fail)
            go_wp2_with fail
            go_roundw
            case rel =>
              refine ⟨k2 + 1, tt2 + nB + nK, by go_num, by first | rfl | go_num, by omega, by omega, by omega, by first | exact hb2 | exact below_n hb2 _, by have := HLL.out.1; omega, fun j y hj hy => ?_⟩
              by_cases hjk : j = k2
              · subst hjk
                have e := HXX.out
                rw [hy] at e
                cases e
                rw [HNB.out, HNK.out]
                omega
              · have := HLL.out.2 j y (by omega) hy
                omega
            case measure => simp [intOf]; omega
          · have i4 : ¬ ((k2 : Int) < 40) := by omega
            have c0 := HC0.out _ hb2
            by_cases g1 : 10000 < tt2
            · have i5 : (10000 : Int) < (tt2 : Int) := by omega
              go_wp2_with fail
              go_ret
              exact ⟨true, rfl, hb1.trans (hb2.mono hb1.size), fun h => by cases h⟩
            have i5 : ¬ ((10000 : Int) < (tt2 : Int)) := by omega
            have g2 : ¬ 40 < nF := by omega
            have i6 : ¬ ((40 : Int) < (nF : Int)) := by omega
            have G1 := Lib.hid g1
            have G2 := Lib.hid g2
            clear g1 g2
            go_wp2_with fail
            go_ret
            exact ⟨false, rfl, hb1.trans (hb2.mono hb1.size), fun _ => light9 HNF.out HNL.out (HI.out _ (Below.refl _ _)) HFF.out HLL.out G1.out G2.out (by first | exact .inl (by omega) | exact .inr (by omega))⟩

        · have i3 : ¬ ((k2 : Int) < (nL : Int)) := by omega
          have c0 := HC0.out _ hb2
          by_cases g1 : 10000 < tt2
          · have i5 : (10000 : Int) < (tt2 : Int) := by omega
            go_wp2_with fail
            go_ret
            exact ⟨true, rfl, hb1.trans (hb2.mono hb1.size), fun h => by cases h⟩
          have i5 : ¬ ((10000 : Int) < (tt2 : Int)) := by omega
          have g2 : ¬ 40 < nF := by omega
          have i6 : ¬ ((40 : Int) < (nF : Int)) := by omega
          have G1 := Lib.hid g1
          have G2 := Lib.hid g2
          clear g1 g2
          go_wp2_with fail
          go_ret
          exact ⟨false, rfl, hb1.trans (hb2.mono hb1.size), fun _ => light9 HNF.out HNL.out (HI.out _ (Below.refl _ _)) HFF.out HLL.out G1.out G2.out (by first | exact .inl (by omega) | exact .inr (by omega))⟩

end Go.Proofs.Ytejfilphnebckaa
