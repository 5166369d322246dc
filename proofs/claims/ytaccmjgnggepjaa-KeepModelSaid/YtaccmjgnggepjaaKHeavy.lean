/-
  Which scripts on stores are let go; an act done to a store.
-/
import Derived.Test.YtaccmjgnggepjaaKZS
namespace Go.Proofs.Ytaccmjgnggepjaa
open Go.RowKit

def HeavyW (w : World) (e : Ending) (w' : World) : Prop := ∃ b : Bool, e = .returned (.bool b) ∧ Below w.heap.size w w'
set_option maxRecDepth 100000 in
set_option maxHeartbeats 4000000 in
theorem heavy11_any (s : ScrW) (w : World) (h : ScrWIn w s) : Calls Try.prog 6 #[scrVW s] w (HeavyW w) := by
  obtain ⟨w1, hw1⟩ : ∃ w1, w1 = w.alloc (.cells #[.slice s.AL s.nL s.cL, .slice s.AO s.nO s.cO] 25) := ⟨_, rfl⟩
  have hb1 : Below w.heap.size w w1 := by rw [hw1]; exact (Below.refl _ _).alloc (Nat.le_refl _) _
  have bx1 : Box w1 w.heap.size (scrCW s) := by rw [hw1]; exact box_new w (scrCW s) 25
  have HW := Lib.hid hw1
  have HI : Hid (∀ wX, Below w1.heap.size w1 wX → ScrWIn wX s) := fun wX hX => h.below (hb1.trans (hX.mono hb1.size))
  obtain ⟨nL, hnL⟩ : ∃ nL, s.nL = nL := ⟨_, rfl⟩
  obtain ⟨nO, hnO⟩ : ∃ nO, s.nO = nO := ⟨_, rfl⟩
  have HNL := Lib.hid hnL
  have hnmx : nL ≤ 9223372036854775807 := by have h1 := h.kL; have h2 := h.xL; unfold maxLen at h2; omega
  have HC0 : Hid (∀ wX, Below w1.heap.size w1 wX → wX.cell? ⟨w.heap.size, 0, none⟩ = some (.slice s.AL nL s.cL)) := fun wX h => by rw [← hnL]; exact (bx1.below h bx1.1).2 0 _ rfl
  have HC1 : Hid (∀ wX, Below w1.heap.size w1 wX → wX.cell? ⟨w.heap.size, 1, none⟩ = some (.slice s.AO nO s.cO)) := fun wX h => by rw [← hnO]; exact (bx1.below h bx1.1).2 1 _ rfl
  have HB1 := Lib.hid hb1
  clear hw1 bx1 h hnL hnO hb1
  unfold scrVW
  go_enter Try.func6, Try.ntmps6
  go_upto_region 1 with fail
  rw [← HW.out]
  go_wp2_with fail
  go_loopw [3, 4] (fun t i wr => ∃ k tt : Nat, i = .int .i64 k ∧ t = .int .i64 tt ∧ k ≤ nL ∧ tt ≤ 1000000000000000 ∧ Below w1.heap.size w1 wr) (fun _ i _ => nL - (intOf i).toNat)
  case atStart => exact ⟨0, 0, rfl, rfl, by omega, by omega, Below.refl _ _⟩
  case round =>
    obtain ⟨k, tt, rfl, rfl, hk, htt, hb⟩ := hrel
    have c0 := HC0.out _ hb
    have c1 := HC1.out _ hb
    have i0 : (0 : Int) ≤ (k : Int) := by omega
    by_cases hgo : k < nL ∧ tt < 1048576
    · obtain ⟨hlt, hbig⟩ := hgo
      have i1 : (k : Int) < (nL : Int) := by omega
      have i2 : (tt : Int) < 1048576 := by omega
      obtain ⟨bl, off, a, hAL, hbl, hx, hmem, hrg⟩ := (HI.out _ hb).at_ (k := k) (by rw [HNL.out]; exact hlt)
      rw [hAL] at c0
      have hin := (HI.out _ hb).act a hmem
      have d1 : wr.cell? ⟨bl, off + k * 4 + 1, none⟩ = some (.string a.S) := hrg 1 _ rfl
      have d2 : wr.cell? ⟨bl, off + k * 4 + 2, none⟩ = some (.string a.V) := hrg 2 _ rfl
      have d3 : wr.cell? ⟨bl, off + k * 4 + 3, none⟩ = some (.slice a.AK a.nK a.cK) := hrg 3 _ rfl
      have hs1 := hin.sS
      have hs2 := hin.sV
      have hs3 := hin.fK
      obtain ⟨nS, hnS⟩ : ∃ nS, a.S.size = nS := ⟨_, rfl⟩
      obtain ⟨nV, hnV⟩ : ∃ nV, a.V.size = nV := ⟨_, rfl⟩
      obtain ⟨nK, hnK⟩ : ∃ nK, a.nK = nK := ⟨_, rfl⟩
      have e9 : (a.S.size : Int) = (nS : Int) := by rw [hnS]
      have e8 : (a.V.size : Int) = (nV : Int) := by rw [hnV]
      rw [hnS] at hs1
      rw [hnV] at hs2
      rw [hnK] at hs3 d3
      obtain ⟨t1, ht1⟩ : ∃ t1, tt + nS = t1 := ⟨_, rfl⟩
      obtain ⟨t2, ht2⟩ : ∃ t2, t1 + nV = t2 := ⟨_, rfl⟩
      obtain ⟨t3, ht3⟩ : ∃ t3, t2 + nK = t3 := ⟨_, rfl⟩
      have e1 : IntKind.i64.wrap ((tt : Int) + (nS : Int)) = (t1 : Int) := by rw [IntKind.wrap_i64]; omega
      have e2 : IntKind.i64.wrap ((t1 : Int) + (nV : Int)) = (t2 : Int) := by rw [IntKind.wrap_i64]; omega
      have e3 : IntKind.i64.wrap ((t2 : Int) + (nK : Int)) = (t3 : Int) := by rw [IntKind.wrap_i64]; omega
      have ht3m : t3 ≤ 1000000000000000 := by omega
      clear hAL hmem hrg hx hin hnS hnV hnK ht1 ht2 ht3 hs1 hs2 hs3
      go_wp2_with fail
      go_quiet (fail)
      go_wp2_with fail
      go_roundw
      case rel => exact ⟨k + 1, t3, by go_num, by first | rfl | go_num, by omega, ht3m, below_n hb _⟩
      case measure => simp [intOf]; omega
    · have hcase : (¬ ((k : Int) < (nL : Int))) ∨ ((k : Int) < (nL : Int) ∧ ¬ ((tt : Int) < 1048576)) := by
        by_cases hlt : k < nL
        · exact .inr ⟨by omega, fun h => hgo ⟨hlt, by omega⟩⟩
        · exact .inl (by omega)
      clear hgo
      have HBW := Lib.hid (HB1.out.trans (hb.mono HB1.out.size))
      by_cases g1 : 40000 < tt
      · have j1 : (40000 : Int) < (tt : Int) := by omega
        rcases hcase with i1 | ⟨i1, i2⟩
        all_goals
          go_wp2_with fail
          go_ret
          exact ⟨true, rfl, HBW.out⟩
      · have j1 : ¬ ((40000 : Int) < (tt : Int)) := by omega
        rcases hcase with i1 | ⟨i1, i2⟩
        · by_cases g2 : 20 < nO
          · have j2 : (20 : Int) < (nO : Int) := by omega
            go_wp2_with fail
            go_ret
            exact ⟨true, rfl, HBW.out⟩
          · have j2 : ¬ ((20 : Int) < (nO : Int)) := by omega
            by_cases g3 : 200 < nL
            · have j3 : (200 : Int) < (nL : Int) := by omega
              go_wp2_with fail
              go_ret
              exact ⟨true, rfl, HBW.out⟩
            · have j3 : ¬ ((200 : Int) < (nL : Int)) := by omega
              go_wp2_with fail
              go_ret
              exact ⟨false, rfl, HBW.out⟩
        · exfalso
          omega

set_option maxRecDepth 100000 in
set_option maxHeartbeats 4000000 in
theorem doesK_is {K : LogK} (hK : LogC K) (hE : LogE K) {hP : LogP K} {gk gd c : Nat} {F : Nat → Prop} {l : List PP} (a : ActW) (nK m : Nat) (w : World) (h : LiveF hP F gk gd c l w) (hc : c ≤ 800000)
    (hwv : wrap64 ((IntKind.u64.wrap a.Do).tmod ((8 : Nat) : Int)) = (m : Int)) (hm8 : m < 8) (hsV : a.V.size ≤ 140737488351232) (hsz : sizeP l ≤ 200000) :
    Calls Try.prog 11 #[.pointer (some ⟨gk, 0, none⟩), .agg #[.int .i64 a.Do, .string a.S, .string a.V, .slice a.AK nK a.cK]] w fun e w' => e = .returned (.int .i64 (nextK l m a).2) ∧ DoesK hP F gk gd (c + 8) m (nextK l m a).1 w w' := by
  obtain ⟨R, hR⟩ : ∃ R, nextK l m a = R := ⟨_, rfl⟩
  rw [hR]
  rw [nextK] at hR
  obtain ⟨w1, hw1⟩ : ∃ w1, w1 = w.alloc (.cells #[.int .i64 a.Do, .string a.S, .string a.V, .slice a.AK nK a.cK] 36) := ⟨_, rfl⟩
  have hb1 : Below w.heap.size w w1 := by rw [hw1]; exact (Below.refl _ _).alloc (Nat.le_refl _) _
  have bx1 : Box w1 w.heap.size [.int .i64 a.Do, .string a.S, .string a.V, .slice a.AK nK a.cK] := by rw [hw1]; exact box_new w [.int .i64 a.Do, .string a.S, .string a.V, .slice a.AK nK a.cK] 36
  have x0 := bx1.2 0 _ rfl
  have x1 := bx1.2 1 _ rfl
  have x2 := bx1.2 2 _ rfl
  have HL1 := Lib.hid (h.below hK hb1)
  have HB1 := Lib.hid hb1
  have HW := Lib.hid hw1
  have HWI : Hid (∀ wX, Calls Try.prog 15 #[.int .i64 a.Do, .int .i64 8] wX fun e w' => e = .returned (.int .i64 m) ∧ wX = w') := fun wX => within_is a.Do 8 m wX hwv (by decide) (by decide)
  clear hw1 bx1 h hb1 hwv
  by_cases hm4 : m = 4
  · subst hm4
    have k4 : ((4 : Nat) : Int) = 4 := rfl
    rw [if_pos rfl] at hR
    have hd := livef_drop hK hE a.S 4 (by decide) HL1.out hc
    have hd2 : dropE l a.S = R.2 ∧ (if dropE l a.S = 0 then delP l a.S else l) = R.1 := by
      rw [← hR]
      by_cases h0 : dropE l a.S = 0
      · rw [if_pos h0, if_pos h0]
        refine ⟨h0, ?_⟩
        have hh : hasP l a.S = true := by
          unfold dropE at h0
          split at h0
          · cases h0
          · split at h0
            · cases h0
            · rename_i h; simpa using h
        rw [delP, if_pos hh]
      · rw [if_neg h0, if_neg h0]
        exact ⟨rfl, rfl⟩
    rw [hd2.2, hd2.1] at hd
    have HD := Lib.hid hd
    clear hd hd2 hR
    go_enter Try.func11, Try.ntmps11
    go_upto_region 1 with fail
    rw [← HW.out]
    go_wp2_with fail
    refine (HWI.out _).mono ?_
    rintro e w' ⟨rfl, rfl⟩
    go_wp2_with fail
    refine HD.out.mono ?_
    rintro e w2 ⟨rfl, hd⟩
    have HD2 := Lib.hid (hd.from HB1.out)
    clear hd
    go_wp2_with fail
    refine (num11_any _ _).mono ?_
    rintro e w' ⟨rfl, rfl⟩
    go_wp2_with fail
    go_ret
    exact ⟨rfl, HD2.out⟩
  · rw [if_neg hm4] at hR
    have k4 : ((m : Int) == 4) = false := by simp; omega
    have k4' : ¬ ((m : Int) = 4) := by omega
    by_cases hm567 : m = 5 ∨ m = 6 ∨ m = 7
    · rw [if_pos hm567] at hR
      subst hR
      rcases hm567 with rfl | hm67
      · have HD2 : Hid (DoesK hP F gk gd (c + 8) 5 l w w1) := ⟨F, HL1.out.more (by omega), fun h => absurd h (by decide), Touch.of HB1.out, fun _ hj => .inl hj⟩
        go_enter Try.func11, Try.ntmps11
        go_upto_region 1 with fail
        rw [← HW.out]
        go_wp2_with fail
        refine (HWI.out _).mono ?_
        rintro e w' ⟨rfl, rfl⟩
        go_wp2_with fail
        go_ret
        exact ⟨rfl, HD2.out⟩
      · have HS := Lib.hid (livef_sync hK hE m HL1.out hc)
        rcases hm67 with rfl | rfl
        all_goals
          go_enter Try.func11, Try.ntmps11
          go_upto_region 1 with fail
          rw [← HW.out]
          go_wp2_with fail
          refine (HWI.out _).mono ?_
          rintro e w' ⟨rfl, rfl⟩
          go_wp2_with fail
          refine HS.out.mono ?_
          rintro e w2 ⟨rfl, hd⟩
          have HD2 := Lib.hid (hd.from HB1.out)
          clear hd
          go_wp2_with fail
          refine (num11_any _ _).mono ?_
          rintro e w' ⟨rfl, rfl⟩
          go_wp2_with fail
          go_ret
          exact ⟨rfl, HD2.out⟩
    · rw [if_neg hm567] at hR
      have k5 : ((m : Int) == 5) = false := by simp; omega
      have k6 : ((m : Int) == 6) = false := by simp; omega
      have k7 : ((m : Int) == 7) = false := by simp; omega
      have k5' : ¬ ((m : Int) = 5) := by omega
      have k6' : ¬ ((m : Int) = 6) := by omega
      have k7' : ¬ ((m : Int) = 7) := by omega
      have hp := livef_put hK hE a.S a.V m (by omega) HL1.out hc hsV
      have hp2 : checkP l a.S a.V = R.2 ∧ (if checkP l a.S a.V = 0 then setP l a.S a.V else l) = R.1 := by
        rw [← hR]
        by_cases hok : 1 ≤ a.S.size ∧ a.S.size ≤ 32 ∧ a.S.size + a.V.size ≤ 4032
        · rw [if_neg (fun hn => hn hok)]
          have hs : sizeP (setP l a.S a.V) ≤ 262144 := by
            cases hh : hasP l a.S with
            | false => have := (setP_no (v := a.V) hh).2; omega
            | true =>
              obtain ⟨u, hu⟩ := hasP_at hh
              have := (setP_yes (v := a.V) hh hu).2
              omega
          have hc0 := checkP_of (k := a.S) (v := a.V) hok hs
          rw [hc0, if_pos rfl]
          exact ⟨rfl, rfl⟩
        · rw [if_pos hok]
          have hc1 : checkP l a.S a.V = 1 := by rw [checkP, if_pos hok]
          rw [hc1, if_neg (by decide)]
          exact ⟨rfl, rfl⟩
      rw [hp2.2, hp2.1] at hp
      have HD := Lib.hid hp
      clear hp hp2 hR
      go_enter Try.func11, Try.ntmps11
      go_upto_region 1 with fail
      rw [← HW.out]
      go_wp2_with fail
      refine (HWI.out _).mono ?_
      rintro e w' ⟨rfl, rfl⟩
      go_wp2_with fail
      refine HD.out.mono ?_
      rintro e w2 ⟨rfl, hd⟩
      have HD2 := Lib.hid (hd.from HB1.out)
      clear hd
      go_wp2_with fail
      refine (num11_any _ _).mono ?_
      rintro e w' ⟨rfl, rfl⟩
      go_wp2_with fail
      go_ret
      exact ⟨rfl, HD2.out⟩

end Go.Proofs.Ytaccmjgnggepjaa
