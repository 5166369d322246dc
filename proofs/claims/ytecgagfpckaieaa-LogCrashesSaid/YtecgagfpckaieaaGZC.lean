/-
  What a statement on logs says itself that an act does to records.
-/
import Derived.Test.YtecgagfpckaieaaGLaw
import Derived.Deep.RegionLaw
import Derived.Laws.BytesArg
namespace Go.Proofs.Ytecgagfpckaieaa
open Go.RowKit

theorem copyG_wp {w : World} {o : Oper} {a : Act} {K : Act → World → Prop} {Q : Exit → Act → World → Prop} {s : Nat} {t : TypeId} {v : Value} (ho : o.op = .call { callee := .value (.func 29), args := #[.tmp s], argTypes := #[t] }) (hs : a.tmps[s]? = some v) {R : Ending → World → Prop} (hc : Calls Try.prog 29 #[v] w R)
    (h : ∀ e w', R e w' → ∃ u, e = .returned u ∧ K (a.put o.dst u) w') : o.wp Try.prog a w K Q := by
  have he : a.eval (.tmp s) = v := by simp [Act.eval, hs]
  unfold Oper.wp execOp
  simp only [ho]
  go_simp
  refine hc.mono fun e w' hr => ?_
  obtain ⟨u, rfl, hk⟩ := h e w' hr
  exact hk
theorem step_copyG {w : World} {ops : Array Oper} {o : Oper} {a : Act} {K : Act → World → Prop} {Q : Exit → Act → World → Prop} {E : Prop} {s : Nat} {t : TypeId} {v : Value} (hgd : o.guard = none)
    (ho : o.op = .call { callee := .value (.func 29), args := #[.tmp s], argTypes := #[t] }) (hs : a.tmps[s]? = some v) {R : Ending → World → Prop} (hc : Calls Try.prog 29 #[v] w R)
    (h : ∀ e w', R e w' → ∃ u, e = .returned u ∧ K (a.put o.dst u) w') : if Region.wanted o (yielded ops a.tmps) = true then Oper.wp Try.prog o a w K Q else E := by
  have hw : Region.wanted o (yielded ops a.tmps) = true := by simp [Region.wanted, hgd]
  rw [if_pos hw]
  exact copyG_wp ho hs hc h

/-- records handed back, and the error -/
def NextTo (w : World) (Al : Option Addr) (l : List ByteArray) (R : List ByteArray × Int) (e : Ending) (w' : World) : Prop :=
  ∃ (A' : Option Addr) (c' : Nat), e = .returned (.tuple #[.slice A' R.1.length c', .int .i64 R.2]) ∧ True ∧ R.1.length ≤ c' ∧ c' ≤ maxLen ∧ Rd w' A' (strs R.1) ∧ Below w.heap.size w w' ∧ ((A' = Al ∧ R.1 = l) ∨ ∀ a, A' = some a → w.heap.size ≤ a.block)

set_option maxRecDepth 100000 in
set_option maxHeartbeats 4000000 in
theorem nextG_is (a : ActG) (nA nK m : Nat) (Al : Option Addr) (cl nl : Nat) (l : List ByteArray) (w : World) (hin : ActGIn w a) (hnA : a.nL = nA) (hwv : wrap64 ((IntKind.u64.wrap a.Do).tmod ((7 : Nat) : Int)) = (m : Int)) (hm7 : m < 7)
    (hfA : nA ≤ 100000) (hz : l.length = nl) (hr : Rd w Al (strs l)) (hcl : nl ≤ cl) (hml : cl ≤ maxLen) (hl : nl ≤ 100000) (hls : ∀ s ∈ l, s.size ≤ 4096) :
    Calls Try.prog 10 #[.slice Al nl cl, .agg #[.int .i64 a.Do, .string a.S, .slice a.AL nA a.cL, .slice a.AK nK a.cK]] w (NextTo w Al l (nextG l m a)) := by
  obtain ⟨w1, hw1⟩ : ∃ w1, w1 = w.alloc (.cells #[.int .i64 a.Do, .string a.S, .slice a.AL nA a.cL, .slice a.AK nK a.cK] 36) := ⟨_, rfl⟩
  have hb1 : Below w.heap.size w w1 := by rw [hw1]; exact (Below.refl _ _).alloc (Nat.le_refl _) _
  have bx1 : Box w1 w.heap.size [.int .i64 a.Do, .string a.S, .slice a.AL nA a.cL, .slice a.AK nK a.cK] := by rw [hw1]; exact box_new w [.int .i64 a.Do, .string a.S, .slice a.AL nA a.cL, .slice a.AK nK a.cK] 36
  have c0 := bx1.2 0 _ rfl
  have c1 := bx1.2 1 _ rfl
  have c2 := bx1.2 2 _ rfl
  have HW := Lib.hid hw1
  have HBX := Lib.hid hb1
  have HWI : Hid (∀ wX, Calls Try.prog 15 #[.int .i64 a.Do, .int .i64 7] wX fun e w' => e = .returned (.int .i64 (m : Int)) ∧ wX = w') := fun wX => within_is a.Do 7 m wX hwv (by decide) (by decide)
  have HZ := Lib.hid hz
  have HRD := Lib.hid hr
  have HLS := Lib.hid hls
  have HZA : Hid (a.ls.length = nA) := hin.zL.trans hnA
  have HRA := Lib.hid (hin.rL.below hb1)
  have hkA := hin.kL
  rw [hnA] at hkA
  obtain ⟨R, hR⟩ : ∃ R, nextG l m a = R := ⟨_, rfl⟩
  rw [hR]
  have hz1 := hb1.size
  clear hw1 hb1 bx1 hwv hz hr hls hin hnA
  have HRR := Lib.hid hR
  clear hR
  rcases (show m ≤ 3 ∨ m = 4 ∨ m = 5 ∨ m = 6 by omega) with h3 | rfl | rfl | rfl
  · have e4 : (((m : Nat) : Int) == 4) = false := by simp; omega
    have e5 : (((m : Nat) : Int) == 5) = false := by simp; omega
    have e6 : (((m : Nat) : Int) == 6) = false := by simp; omega
    have HR1 : Hid (R = if 4096 < a.S.size then (l, 1) else if 524288 < sizeL l + a.S.size + 16 then (l, 8) else (l ++ [a.S], 0)) := by
      show _ = _
      rw [← HRR.out, nextG, if_neg (by omega), if_neg (by omega)]
    clear HRR
    obtain ⟨nS, hnS⟩ : ∃ nS, a.S.size = nS := ⟨_, rfl⟩
    have e9 : (a.S.size : Int) = (nS : Int) := by rw [hnS]
    rw [hnS] at HR1
    clear hnS
    by_cases hbig : 4096 < nS
    · have j1 : (4096 : Int) < (nS : Int) := by omega
      have HR : Hid (R = (l, 1)) := by show _ = _; rw [HR1.out, if_pos hbig]
      clear HR1 c2
      go_enter Try.func10, Try.ntmps10
      go_upto_region 1 with fail
      rw [← HW.out]
      go_wp2_with fail
      refine (HWI.out _).mono ?_
      rintro e w' ⟨rfl, rfl⟩
      go_wp2_with fail
      go_ret2
      exact ⟨Al, cl, by rw [HR.out, HZ.out]; rfl, trivial, by rw [HR.out, HZ.out]; exact hcl, hml, by rw [HR.out]; exact HRD.out.below HBX.out, HBX.out, .inl ⟨rfl, by rw [HR.out]⟩⟩
    · have j1 : ¬ ((4096 : Int) < (nS : Int)) := by omega
      have HR2 : Hid (R = if 524288 < sizeL l + nS + 16 then (l, 8) else (l ++ [a.S], 0)) := by show _ = _; rw [HR1.out, if_neg hbig]
      clear HR1 c2
      obtain ⟨T, hT⟩ : ∃ T, sizeL l = T := ⟨_, rfl⟩
      have hmx := sizeL_max HLS.out
      rw [HZ.out, hT] at hmx
      rw [hT] at HR2
      have hsz : ∀ N, Calls Try.prog 28 #[.slice Al nl cl] (w1.drewN N) fun e w' => e = .returned (.int .i64 (T : Nat)) ∧ w1.drewN N = w' := fun N => by
        rw [← hT]
        exact size_any Al cl nl l (w1.drewN N) HZ.out ((HRD.out.below HBX.out).drewN N) HLS.out (by omega)
      have HSZ := Lib.hid hsz
      clear hsz hT
      by_cases hful : 524288 < T + nS + 16
      · have d1 : decide ((524288 : Int) - (nS : Int) - 16 < (T : Int)) = true := by simp; omega
        have HR : Hid (R = (l, 8)) := by show _ = _; rw [HR2.out, if_pos hful]
        clear HR2
        go_enter Try.func10, Try.ntmps10
        go_upto_region 1 with fail
        rw [← HW.out]
        go_wp2_with fail
        refine (HWI.out _).mono ?_
        rintro e w' ⟨rfl, rfl⟩
        go_wp2_with fail
        go_quiet ((go_at_call 28; exact quietG_same (HSZ.out _)))
        go_wp2_with fail
        go_ret2
        exact ⟨Al, cl, by rw [HR.out, HZ.out]; rfl, trivial, by rw [HR.out, HZ.out]; exact hcl, hml, by rw [HR.out]; exact (HRD.out.below HBX.out).drewN _, below_n HBX.out _, .inl ⟨rfl, by rw [HR.out]⟩⟩
      · have d1 : decide ((524288 : Int) - (nS : Int) - 16 < (T : Int)) = false := by simp; omega
        have HR : Hid (R = (l ++ [a.S], 0)) := by show _ = _; rw [HR2.out, if_neg hful]
        clear HR2
        go_enter Try.func10, Try.ntmps10
        go_upto_region 1 with fail
        rw [← HW.out]
        go_wp2_with fail
        refine (HWI.out _).mono ?_
        rintro e w' ⟨rfl, rfl⟩
        go_wp2_with fail
        go_quiet ((go_at_call 28; exact quietG_same (HSZ.out _)))
        obtain ⟨w2, hw2⟩ : ∃ w2, w2 = w1.drewN nq := ⟨_, rfl⟩
        have hb2 : Below w1.heap.size w1 w2 := by rw [hw2]; exact below_n (Below.refl _ _) nq
        have HRD2 : Hid (Rd w2 Al (strs l)) := (HRD.out.below HBX.out).below hb2
        have c1b : w2.cell? ⟨w.heap.size, 1, none⟩ = some (.string a.S) := by rw [hw2]; exact c1
        rw [← hw2]
        have hgb : w.heap.size < w2.heap.size := World.block_lt_of_cell? w2 _ c1b
        clear hw2 c1 c0
        have HBA : Hid (Below w2.heap.size w2 (w2.alloc (.cells #[.string a.S] 9)).drew) := ((Below.refl _ _).alloc (Nat.le_refl _) _).drew
        have HRDA : Hid (Rd (w2.alloc (.cells #[.string a.S] 9)).drew Al (strs l)) := HRD2.out.below HBA.out
        have HRXA : Hid (Rd (w2.alloc (.cells #[.string a.S] 9)).drew (some ⟨w2.heap.size, 0, none⟩) [.string a.S]) := Rd.drew (rd_new w2 [.string a.S] _)
        have HSA := Lib.hid HBA.out.size
        go_wp2_with fail
        go_region_law (first
          | (refine step_copyG (by rfl) (by rfl) (by rfl) (copyStrings_any Al cl nl l _ HZ.out (by first | exact HRD2.out | exact Rd.drew HRD2.out) hcl (by omega)) ?_; rintro e w5 ⟨v5, rfl, ho5, hb5⟩; have hb25 : Below w2.heap.size w2 w5 := (by first | exact hb5 | exact ((Below.refl _ _).drew).trans hb5); have ho5b := own_cast ho5 ((strs_length _).trans HZ.out); obtain ⟨A5, c5, rfl, _, _, _, _, _⟩ := own_val ho5b; refine ⟨_, rfl, ?_⟩; have k1 : w5.cell? ⟨w.heap.size, 1, none⟩ = some (.string a.S) := (hb25.cell (p := ⟨w.heap.size, 1, none⟩) hgb).trans c1b; have ka : ∀ o, (w5.alloc o).cell? ⟨w.heap.size, 1, none⟩ = some (.string a.S) := fun o => (((Below.refl w5.heap.size w5).alloc (Nat.le_refl _) o).cell (p := ⟨w.heap.size, 1, none⟩) (Nat.lt_of_lt_of_le hgb hb25.size)).trans k1)
          | (refine step_copyG (by rfl) (by rfl) (by rfl) (copyStrings_any Al cl nl l _ HZ.out HRDA.out hcl (by omega)) ?_; rintro e w5 ⟨v5, rfl, ho5, hb5⟩; have hb25 : Below w2.heap.size w2 w5 := HBA.out.trans (hb5.mono HSA.out); have ho5b := own_more (own_cast ho5 ((strs_length _).trans HZ.out)) HSA.out; have rx : Rd w5 (some ⟨w2.heap.size, 0, none⟩) [.string a.S] := HRXA.out.below hb5; obtain ⟨A5, c5, rfl, _, _, _, _, _⟩ := own_val ho5b; refine ⟨_, rfl, ?_⟩; have k1 : w5.cell? ⟨w.heap.size, 1, none⟩ = some (.string a.S) := (hb25.cell (p := ⟨w.heap.size, 1, none⟩) hgb).trans c1b; have ka : ∀ o, (w5.alloc o).cell? ⟨w.heap.size, 1, none⟩ = some (.string a.S) := fun o => (((Below.refl w5.heap.size w5).alloc (Nat.le_refl _) o).cell (p := ⟨w.heap.size, 1, none⟩) (Nat.lt_of_lt_of_le hgb hb25.size)).trans k1)
          | (refine step_app_far _ (by rfl) _ _ _ (by rfl) w2.heap.size 9 (.string ByteArray.empty) 16 Try.underlying34 info_str rfl (by decide) (.slice A5 nl c5) nl (strs l) (by rfl) (own_below (own_more ho5b (Nat.le_refl _)) ((Below.refl w5.heap.size w5).alloc (Nat.le_refl _) (.cells #[.string a.S] 9))) (some ⟨w5.heap.size, 0, none⟩) 1 1 [.string a.S] (by rfl) rfl (rd_new w5 [.string a.S] _) (strs_one [a.S]) (by omega) (by have := hb25.size; simp; omega) ?_; intro v7 w7 ho7 hb7 hg7; obtain ⟨A7, c7, rfl, hc7, hm7', hr7, ha7, _⟩ := own_val ho7; have hb27 : Below w2.heap.size w2 w7 := (hb25.trans (((Below.refl w5.heap.size w5).alloc (Nat.le_refl _) (.cells #[.string a.S] 9)).mono hb25.size)).trans hb7)
          | (refine step_app_far _ (by rfl) _ _ _ (by rfl) w2.heap.size 9 (.string ByteArray.empty) 16 Try.underlying34 info_str rfl (by decide) (.slice A5 nl c5) nl (strs l) (by rfl) ho5b (some ⟨w2.heap.size, 0, none⟩) 1 1 [.string a.S] (by rfl) rfl rx (strs_one [a.S]) (by omega) hb25.size ?_; intro v7 w7 ho7 hb7 hg7; obtain ⟨A7, c7, rfl, hc7, hm7', hr7, ha7, _⟩ := own_val ho7; have hb27 : Below w2.heap.size w2 w7 := hb25.trans hb7))
        all_goals
          have hbw : Below w.heap.size w w7 := HBX.out.trans ((hb2.trans (hb27.mono hb2.size)).mono hz1)
          have HA7 := Lib.hid ha7
          have HR7 := Lib.hid hr7
          have hz2 := hb2.size
          clear ho7 hb7 hg7 hb27 k1 ka ho5 ho5b hb25 hr7 ha7
          go_wp2_with fail
          go_ret2
          exact ⟨A7, c7, by rw [HR.out, List.length_append, HZ.out]; rfl, trivial, by rw [HR.out, List.length_append, HZ.out]; exact hc7, hm7', by rw [HR.out, strs_append]; exact HR7.out, hbw, .inr fun b hb => by have := HA7.out b hb; omega⟩
  · have HBIG : Hid (∀ s ∈ a.ls, 4096 < s.size → R = (l, 1)) := fun s hs hb => by
      rw [← HRR.out, nextG, if_pos rfl, if_pos]
      rw [bigS, List.any_eq_true]
      exact ⟨s, hs, by simpa using hb⟩
    have HNB : Hid ((∀ s ∈ a.ls, s.size ≤ 4096) → R = if 524288 < sizeL a.ls then (l, 8) else (a.ls, 0)) := fun hs => by
      rw [← HRR.out, nextG, if_pos rfl, if_neg]
      rw [bigS, List.any_eq_true]
      rintro ⟨s, h1, h2⟩
      have h3 := hs s h1
      have h4 : 4096 < s.size := by simpa using h2
      omega
    clear HRR
    go_enter Try.func10, Try.ntmps10
    go_upto_region 1 with fail
    rw [← HW.out]
    go_wp2_with fail
    refine (HWI.out _).mono ?_
    rintro e w' ⟨rfl, rfl⟩
    go_wp2_with fail
    go_loop [6] (fun i => ∃ k : Nat, i = .int .i64 k ∧ k ≤ nA ∧ Hid (∀ j s, j < k → a.ls[j]? = some s → s.size ≤ 4096)) (fun i => nA - (intOf i).toNat)
    case atStart => exact ⟨0, rfl, by omega, fun j s hj => absurd hj (by omega)⟩
    case round =>
      obtain ⟨k, rfl, hk, HS⟩ := hrel
      have i0 : (0 : Int) ≤ (k : Int) := by omega
      by_cases hlt : k < nA
      · have i1 : (k : Int) < (nA : Int) := by omega
        have hkl : k < a.ls.length := by rw [HZA.out]; exact hlt
        obtain ⟨x, hx⟩ : ∃ x, x = a.ls[k] := ⟨_, rfl⟩
        obtain ⟨b, off, hAL, _, hcll⟩ := HRA.out.open_ (by rw [strs_length]; omega)
        have y0 : w1.cell? ⟨b, off + k, none⟩ = some (.string x) := by rw [hx, hcll k _ (strs_at hkl)]; simp [hkl]
        have hxk : a.ls[k]? = some x := by rw [hx]; simp [hkl]
        rw [hAL] at c2
        obtain ⟨nx, hnx⟩ : ∃ nx, x.size = nx := ⟨_, rfl⟩
        have e9 : (x.size : Int) = (nx : Int) := by rw [hnx]
        by_cases hb : 4096 < nx
        · have j1 : (4096 : Int) < (nx : Int) := by omega
          have HR : Hid (R = (l, 1)) := HBIG.out x (List.mem_of_getElem? hxk) (by rw [hnx]; exact hb)
          clear hx hAL hcll hxk hnx
          go_wp2_with fail
          go_ret2
          exact ⟨Al, cl, by rw [HR.out, HZ.out]; rfl, trivial, by rw [HR.out, HZ.out]; exact hcl, hml, by rw [HR.out]; exact HRD.out.below HBX.out, HBX.out, .inl ⟨rfl, by rw [HR.out]⟩⟩
        · have j1 : ¬ ((4096 : Int) < (nx : Int)) := by omega
          have HS2 : Hid (∀ j s, j < k + 1 → a.ls[j]? = some s → s.size ≤ 4096) := fun j s hj hs => by
            by_cases hjk : j = k
            · subst hjk
              rw [hxk] at hs
              cases hs
              omega
            · exact HS.out j s (by omega) hs
          clear hx hAL hcll hxk hnx
          go_wp2_with fail
          go_round
          case rel => exact ⟨k + 1, by go_num, by omega, HS2⟩
          case measure => simp [intOf]; omega
      · have i1 : ¬ ((k : Int) < (nA : Int)) := by omega
        have hall : ∀ s ∈ a.ls, s.size ≤ 4096 := fun s hs => by
          obtain ⟨j, hj⟩ := List.mem_iff_getElem?.1 hs
          exact HS.out j s (by have := (List.getElem?_eq_some_iff.1 hj).1; have := HZA.out; omega) hj
        have hR1 := HNB.out hall
        have HSZ := Lib.hid (size_any a.AL a.cL nA a.ls w1 HZA.out HRA.out hall (by omega))
        obtain ⟨T, hT⟩ : ∃ T, sizeL a.ls = T := ⟨_, rfl⟩
        rw [hT] at hR1 HSZ
        have HR1 := Lib.hid hR1
        clear hall hR1 hT
        go_wp2_with fail
        refine HSZ.out.mono ?_
        rintro e w' ⟨rfl, rfl⟩
        by_cases hful : 524288 < T
        · have j1 : (524288 : Int) < (T : Int) := by omega
          have HR : Hid (R = (l, 8)) := by show _ = _; rw [HR1.out, if_pos hful]
          clear HR1
          go_wp2_with fail
          go_ret2
          exact ⟨Al, cl, by rw [HR.out, HZ.out]; rfl, trivial, by rw [HR.out, HZ.out]; exact hcl, hml, by rw [HR.out]; exact HRD.out.below HBX.out, HBX.out, .inl ⟨rfl, by rw [HR.out]⟩⟩
        · have j1 : ¬ ((524288 : Int) < (T : Int)) := by omega
          have HR : Hid (R = (a.ls, 0)) := by show _ = _; rw [HR1.out, if_neg hful]
          clear HR1
          go_wp2_with fail
          refine (copyStrings_any a.AL a.cL nA a.ls _ HZA.out HRA.out hkA (by omega)).mono ?_
          rintro e w5 ⟨v5, rfl, ho5, hb5⟩
          have ho5b := own_cast ho5 ((strs_length _).trans HZA.out)
          obtain ⟨A5, c5, rfl, hc5, hm5, hr5, ha5, _⟩ := own_val ho5b
          have hbw : Below w.heap.size w w5 := HBX.out.trans (hb5.mono hz1)
          have HR5 := Lib.hid hr5
          have HA5 := Lib.hid ha5
          clear ho5 ho5b hb5 hr5 ha5
          go_wp2_with fail
          go_ret2
          exact ⟨A5, c5, by rw [HR.out, HZA.out]; rfl, trivial, by rw [HR.out, HZA.out]; exact hc5, hm5, by rw [HR.out]; exact HR5.out, hbw, .inr fun b hb => by have := HA5.out b hb; omega⟩
  · have HR : Hid (R = (l, 0)) := by show _ = _; rw [← HRR.out, nextG, if_neg (by decide), if_pos (.inl rfl)]
    clear HRR
    go_enter Try.func10, Try.ntmps10
    go_upto_region 1 with fail
    rw [← HW.out]
    go_wp2_with fail
    refine (HWI.out _).mono ?_
    rintro e w' ⟨rfl, rfl⟩
    go_wp2_with fail
    go_ret2
    exact ⟨Al, cl, by rw [HR.out, HZ.out]; rfl, trivial, by rw [HR.out, HZ.out]; exact hcl, hml, by rw [HR.out]; exact HRD.out.below HBX.out, HBX.out, .inl ⟨rfl, by rw [HR.out]⟩⟩
  · have HR : Hid (R = (l, 0)) := by show _ = _; rw [← HRR.out, nextG, if_neg (by decide), if_pos (.inr rfl)]
    clear HRR
    go_enter Try.func10, Try.ntmps10
    go_upto_region 1 with fail
    rw [← HW.out]
    go_wp2_with fail
    refine (HWI.out _).mono ?_
    rintro e w' ⟨rfl, rfl⟩
    go_wp2_with fail
    go_ret2
    exact ⟨Al, cl, by rw [HR.out, HZ.out]; rfl, trivial, by rw [HR.out, HZ.out]; exact hcl, hml, by rw [HR.out]; exact HRD.out.below HBX.out, HBX.out, .inl ⟨rfl, by rw [HR.out]⟩⟩

end Go.Proofs.Ytecgagfpckaieaa
/-
  One act done to a log; what wakes the statements on logs.
-/
namespace Go.Proofs.Ytecgagfpckaieaa
open Go.RowKit

theorem LogK.act4 (K : LogK) (S : K.LS) (a : ActG) : K.act S 4 a = K.reset S a.ls := rfl
theorem LogK.act5 (K : LogK) (S : K.LS) (a : ActG) : K.act S 5 a = K.sync S := rfl
theorem LogK.act6 (K : LogK) (S : K.LS) (a : ActG) : K.act S 6 a = K.sync S := rfl
theorem LogK.act3 (K : LogK) (S : K.LS) (a : ActG) {m : Nat} (h : m ≤ 3) : K.act S m a = K.app S a.S := by rw [LogK.act, if_neg (by omega), if_neg (by omega)]
theorem LogC.cost {K : LogK} (hK : LogC K) (S : K.LS) (m : Nat) (a : ActG) : (K.dsk (K.act S m a).1).calls ≤ (K.dsk S).calls + 40000 := by
  unfold LogK.act
  split
  · exact hK.costR _ _
  · split
    · exact Nat.le_trans (hK.costS _) (by omega)
    · exact Nat.le_trans (hK.costA _ _) (by omega)
theorem LogK.To.behind {K : LogK} {gl gd : Nat} {F : Nat → Prop} {S : K.LS} {w w1 w2 : World} (hb : Below w.heap.size w w1) (h : K.To gl gd F S w1 w2) : K.To gl gd F S w w2 := by
  obtain ⟨F', hl, ht, hF⟩ := h
  exact ⟨F', hl, (Touch.of hb : Touch F w w1).trans ht (fun k hk => .inl hk), fun k hk => (hF k hk).imp id fun h => Nat.le_trans hb.size h⟩

set_option maxRecDepth 100000 in
set_option maxHeartbeats 4000000 in
theorem doesG_is {K : LogK} (hK : LogC K) {F : Nat → Prop} {S : K.LS} (gl gd : Nat) (a : ActG) (nA nK m : Nat) (w : World) (hin : ActGIn w a) (hnA : a.nL = nA) (h : K.IsLog w gl gd F S) (hc : (K.dsk S).calls ≤ 900000)
    (hwv : wrap64 ((IntKind.u64.wrap a.Do).tmod ((7 : Nat) : Int)) = (m : Int)) (hm7 : m < 7) (hfA : nA ≤ 100000) (hfs : ∀ x ∈ a.ls, x.size ≤ 1000000) :
    Calls Try.prog 11 #[.pointer (some ⟨gl, 0, none⟩), .agg #[.int .i64 a.Do, .string a.S, .slice a.AL nA a.cL, .slice a.AK nK a.cK]] w fun e w' => e = .returned (.int .i64 (K.act S m a).2) ∧ K.To gl gd F (K.act S m a).1 w w' := by
  obtain ⟨w1, hw1⟩ : ∃ w1, w1 = w.alloc (.cells #[.int .i64 a.Do, .string a.S, .slice a.AL nA a.cL, .slice a.AK nK a.cK] 36) := ⟨_, rfl⟩
  have hb1 : Below w.heap.size w w1 := by rw [hw1]; exact (Below.refl _ _).alloc (Nat.le_refl _) _
  have bx1 : Box w1 w.heap.size [.int .i64 a.Do, .string a.S, .slice a.AL nA a.cL, .slice a.AK nK a.cK] := by rw [hw1]; exact box_new w [.int .i64 a.Do, .string a.S, .slice a.AL nA a.cL, .slice a.AK nK a.cK] 36
  have c0 := bx1.2 0 _ rfl
  have c1 := bx1.2 1 _ rfl
  have c2 := bx1.2 2 _ rfl
  have HW := Lib.hid hw1
  have HB1 := Lib.hid hb1
  have HWI : Hid (∀ wX, Calls Try.prog 15 #[.int .i64 a.Do, .int .i64 7] wX fun e w' => e = .returned (.int .i64 (m : Int)) ∧ wX = w') := fun wX => within_is a.Do 7 m wX hwv (by decide) (by decide)
  have hl1 := hK.kept h hb1.size fun k hk => hb1.block k (hK.lt h k hk)
  have HL1 := Lib.hid hl1
  have HLT : Hid (∀ k, F k → k < w.heap.size) := hK.lt h
  have HZA : Hid (a.ls.length = nA) := hin.zL.trans hnA
  have HRA := Lib.hid (hin.rL.below hb1)
  have hkA := hin.kL
  rw [hnA] at hkA
  have hsS := hin.sS
  have hz1 := hb1.size
  have HFS := Lib.hid hfs
  clear hw1 bx1 hwv hb1 h hl1 hin hnA hfs
  rcases (show m ≤ 3 ∨ m = 4 ∨ m = 5 ∨ m = 6 by omega) with h3 | rfl | rfl | rfl
  · have e4 : (((m : Nat) : Int) == 4) = false := by simp; omega
    have e5 : (((m : Nat) : Int) == 5) = false := by simp; omega
    have e6 : (((m : Nat) : Int) == 6) = false := by simp; omega
    rw [K.act3 S a h3]
    go_enter Try.func11, Try.ntmps11
    go_upto_region 1 with fail
    rw [← HW.out]
    go_wp2_with fail
    refine (HWI.out _).mono ?_
    rintro e w' ⟨rfl, rfl⟩
    go_wp2_with fail
    refine (hK.app_ a.S HL1.out hsS hc).mono ?_
    rintro e w2 ⟨rfl, ht2⟩
    have HT2 := Lib.hid (ht2.behind HB1.out)
    clear ht2
    go_wp2_with fail
    refine (num10_any _ _).mono ?_
    rintro e w' ⟨rfl, rfl⟩
    go_wp2_with fail
    go_ret
    exact ⟨rfl, HT2.out⟩
  · rw [K.act4]
    go_enter Try.func11, Try.ntmps11
    go_upto_region 1 with fail
    rw [← HW.out]
    go_wp2_with fail
    refine (HWI.out _).mono ?_
    rintro e w' ⟨rfl, rfl⟩
    go_wp2_with fail
    refine (copyStrings_any a.AL a.cL nA a.ls _ HZA.out HRA.out hkA (by omega)).mono ?_
    rintro e w2 ⟨v2, rfl, ho2, hb2⟩
    have ho2b := own_cast ho2 ((strs_length _).trans HZA.out)
    obtain ⟨A2, c2', rfl, hc2, hm2, hr2, ha2, _⟩ := own_val ho2b
    have hl2 := hK.kept HL1.out hb2.size fun k hk => hb2.block k (hK.lt HL1.out k hk)
    have HO2 := Lib.hid ho2b
    have HTX : Hid (TxtIn w2 F A2 nA c2' a.ls) := ⟨HZA.out, hr2, hc2, hm2, fun b hb _ hf => by have h1 := ha2 b hb; have h2 := HLT.out _ hf; omega⟩
    have HL2 := Lib.hid hl2
    have HB2 := Lib.hid hb2
    have hz2 := hb2.size
    clear ho2 ho2b hr2 ha2 hl2 hb2
    go_wp2_with fail
    refine (hK.reset_ A2 nA c2' a.ls HL2.out HTX.out hfA HFS.out hc).mono ?_
    rintro e w3 ⟨rfl, F3, hl3, ht3, hF3⟩
    have ho3 : w3.ownsRow w1.heap.size 9 1 (.slice A2 nA c2') nA (strs a.ls) := own_kept HO2.out fun k hk hl => ht3.block k hl fun hf => by
      have h1 := (own_lt HO2.out hk).2
      have h2 := HLT.out _ hf
      omega
    have HO3 := Lib.hid ho3
    have HL3 := Lib.hid hl3
    have HT3 := Lib.hid ht3
    have HF3 := Lib.hid hF3
    clear ho3 hl3 ht3 hF3
    go_wp2_with fail
    refine (num10_any _ _).mono ?_
    rintro e w' ⟨rfl, rfl⟩
    go_wp2_with fail
    refine (spoilStr_far w1.heap.size _ nA a.ls _ HO3.out (by omega)).mono ?_
    rintro e w4 ⟨rfl, ht4⟩
    have hown : ∀ k, (Value.slice A2 nA c2').ownBlock = some k → w1.heap.size ≤ k ∧ k < w2.heap.size := fun k hk => ⟨(own_lt HO2.out hk).2, (own_lt HO2.out hk).1⟩
    have hl4 := hK.kept HL3.out ht4.size fun k hk => ht4.block k (hK.lt HL3.out k hk) fun ho => by
      obtain ⟨q1, q2⟩ := hown k ho
      rcases HF3.out k hk with hf | hf
      · have := HLT.out _ hf; omega
      · omega
    have HRES : Hid (K.To gl gd F (K.reset S a.ls).1 w w4) := ⟨F3, hl4, (((Touch.of HB1.out : Touch F w w1).then HB2.out).trans HT3.out (fun k hk => .inl hk)).trans ht4 (fun k hk => .inr (by have := (hown k hk).1; omega)), fun k hk => (HF3.out k hk).imp id fun h => by omega⟩
    clear hl4 ht4 hown
    go_wp2_with fail
    go_ret
    exact ⟨rfl, HRES.out⟩
  · rw [K.act5]
    go_enter Try.func11, Try.ntmps11
    go_upto_region 1 with fail
    rw [← HW.out]
    go_wp2_with fail
    refine (HWI.out _).mono ?_
    rintro e w' ⟨rfl, rfl⟩
    go_wp2_with fail
    refine (hK.sync_ HL1.out hc).mono ?_
    rintro e w2 ⟨rfl, ht2⟩
    have HT2 := Lib.hid (ht2.behind HB1.out)
    clear ht2
    go_wp2_with fail
    refine (num10_any _ _).mono ?_
    rintro e w' ⟨rfl, rfl⟩
    go_wp2_with fail
    go_ret
    exact ⟨rfl, HT2.out⟩
  · rw [K.act6]
    go_enter Try.func11, Try.ntmps11
    go_upto_region 1 with fail
    rw [← HW.out]
    go_wp2_with fail
    refine (HWI.out _).mono ?_
    rintro e w' ⟨rfl, rfl⟩
    go_wp2_with fail
    refine (hK.sync_ HL1.out hc).mono ?_
    rintro e w2 ⟨rfl, ht2⟩
    have HT2 := Lib.hid (ht2.behind HB1.out)
    clear ht2
    go_wp2_with fail
    refine (num10_any _ _).mono ?_
    rintro e w' ⟨rfl, rfl⟩
    go_wp2_with fail
    go_ret
    exact ⟨rfl, HT2.out⟩

/-- a log that is new, on a disk that is new -/
theorem LogC.openS {K : LogK} (hK : LogC K) {gd : Nat} {F : Nat → Prop} {D : PD} {S : K.LS} {w : World} (hd : IsDisk w gd F D) (hc : D.calls ≤ 900000) (ho : K.openL D = (some S, 0, K.dsk S)) :
    Calls Try.prog 8 #[.pointer (some ⟨gd, 0, none⟩)] w fun e w' => ∃ gl, e = .returned (.tuple #[.pointer (some ⟨gl, 0, none⟩), .int .i64 0]) ∧ K.To gl gd F S w w' := by
  refine (hK.open_ hd hc).mono ?_
  rintro e w' ⟨F', ht, hF, ⟨S', gl, h1, h2, h3, h4⟩ | ⟨h1, _⟩⟩
  · rw [ho] at h1 h2
    cases h1
    exact ⟨gl, h2, F', h3, ht, hF⟩
  · rw [ho] at h1
    cases h1

def actA (s : ByteArray) : ActG := ⟨0, s, none, 0, 0, [], none, 0, 0, []⟩
set_option maxRecDepth 100000 in
set_option maxHeartbeats 4000000 in
theorem wakesG_any {K : LogK} (hK : LogC K) (hP : LogP K) (w : World) : Calls Try.prog 17 #[] w (Tells w.heap.size w (.bool true)) := by
  obtain ⟨S0, ho0, hf0, hr0⟩ := hP.start
  obtain ⟨a1, a2, a3⟩ := hP.act 0 (actA bA) hf0
  rw [K.act3 S0 _ (by omega), hr0] at a1 a2
  rw [K.act3 S0 _ (by omega)] at a3
  have e1 : nextG [] 0 (actA bA) = ([bA], 0) := by decide +kernel
  rw [e1] at a1 a2
  change (K.app S0 bA).2 = 0 at a1
  change K.recs (K.app S0 bA).1 = [bA] at a2
  change hP.Fine (K.app S0 bA).1 at a3
  obtain ⟨b1, b2, b3⟩ := hP.act 5 (actA bA) a3
  rw [K.act5] at b1 b2
  change (K.sync (K.app S0 bA).1).2 = 0 at b1
  change K.recs (K.sync (K.app S0 bA).1).1 = K.recs (K.app S0 bA).1 at b2
  rw [a2] at b2
  have hcS0 : (K.dsk S0).calls ≤ 40000 := by
    have h1 := hK.costO (dNew [])
    rw [ho0] at h1
    have h2 : (K.dsk S0).calls ≤ 0 + 40000 := h1
    omega
  have hc1 := hK.costA S0 bA
  obtain ⟨S1, hS1⟩ : ∃ S1, (K.app S0 bA).1 = S1 := ⟨_, rfl⟩
  rw [hS1] at a2 a3 b1 b2 hc1
  obtain ⟨S2, hS2⟩ : ∃ S2, (K.sync S1).1 = S2 := ⟨_, rfl⟩
  rw [hS2] at b2
  have HS1 := Lib.hid hS1
  have HS2 := Lib.hid hS2
  have HA1 := Lib.hid a1
  have HB1 := Lib.hid b1
  have HB2 := Lib.hid b2
  have HO0 := Lib.hid ho0
  clear a1 a2 a3 b1 b2 b3 e1 hS1 hS2 ho0 hf0 hr0
  go_enter Try.func17, Try.ntmps17
  go_wp2_with fail
  refine (diskG_any _).mono ?_
  rintro e w2 ⟨gd, rfl, hd2, hb2⟩
  obtain ⟨_, F2, hi2, hn2⟩ := hd2
  have HI2 := Lib.hid hi2
  have HF2 : Hid (∀ k, F2 k → w.heap.size ≤ k) := fun k hk => by have := hn2 k hk; omega
  have z2 := hb2.size
  clear hi2 hn2
  go_wp2_with fail
  refine (hK.openS HI2.out (by show 0 ≤ 900000; omega) HO0.out).mono ?_
  rintro e w3 ⟨gl, rfl, F3, hl3, ht3, hF3⟩
  have HL3 := Lib.hid hl3
  have HB3 : Hid (Below w.heap.size w w3) := hb2.trans (ht3.below HF2.out z2)
  have z3 := ht3.size
  have HF3 : Hid (∀ k, F3 k → w.heap.size ≤ k) := fun k hk => by
    rcases hF3 k hk with h | h
    · exact HF2.out k h
    · omega
  clear hl3 ht3 hF3
  go_wp2_with fail
  refine (num10_any _ _).mono ?_
  rintro e w' ⟨rfl, rfl⟩
  go_wp2_with fail
  refine (hK.app_ bA HL3.out (by decide) (by omega)).mono ?_
  rintro e w4 ⟨he, F4, hl4, ht4, hF4⟩
  rw [HA1.out] at he
  rw [HS1.out] at hl4
  subst he
  have HL4 := Lib.hid hl4
  have HB4 : Hid (Below w.heap.size w w4) := HB3.out.trans (ht4.below HF3.out HB3.out.size)
  have z4 := ht4.size
  have HF4 : Hid (∀ k, F4 k → w.heap.size ≤ k) := fun k hk => by
    rcases hF4 k hk with h | h
    · exact HF3.out k h
    · omega
  clear hl4 ht4 hF4
  go_wp2_with fail
  refine (num10_any _ _).mono ?_
  rintro e w' ⟨rfl, rfl⟩
  go_wp2_with fail
  refine (hK.sync_ HL4.out (by omega)).mono ?_
  rintro e w5 ⟨he, F5, hl5, ht5, hF5⟩
  rw [HB1.out] at he
  rw [HS2.out] at hl5
  subst he
  have HL5 := Lib.hid hl5
  have HB5 : Hid (Below w.heap.size w w5) := HB4.out.trans (ht5.below HF4.out HB4.out.size)
  clear hl5 ht5 hF5
  go_wp2_with fail
  refine (num10_any _ _).mono ?_
  rintro e w' ⟨rfl, rfl⟩
  have HALL := Lib.hid (hK.all_ HL5.out)
  rw [HB2.out] at HALL
  go_wp2_with fail
  refine HALL.out.mono ?_
  rintro e w6 ⟨v6, rfl, ho6, hb6⟩
  obtain ⟨A6, c6, rfl, hc6, hm6, hr6, _, _⟩ := own_val ho6
  have z5 := HB5.out.size
  have z6 := hb6.size
  have hb6w := HB5.out.trans (hb6.mono z5)
  go_wp2_with fail
  obtain ⟨w7, hw7⟩ : ∃ w7, w7 = w6.alloc (.cells #[.string ⟨#[97]⟩] 9) := ⟨_, rfl⟩
  have hb7 : Below w6.heap.size w6 w7 := by rw [hw7]; exact (Below.refl _ _).alloc (Nat.le_refl _) _
  have hr7 : Rd w7 (some ⟨w6.heap.size, 0, none⟩) (strs [bA]) := by rw [hw7]; exact rd_new w6 (strs [bA]) _
  rw [← hw7]
  clear hw7
  refine (eqStrings_same A6 (some ⟨w6.heap.size, 0, none⟩) c6 1 1 [bA] _ rfl (hr6.below hb7) hr7 (by omega)).mono ?_
  rintro e w8 ⟨rfl, d, hw8⟩
  have hb8 : Below w.heap.size w w8 := by rw [hw8]; exact below_n (hb6w.trans (hb7.mono (by omega))) d
  clear hw8 ho6 hr6 hr7 hb7
  go_wp2_with fail
  go_ret
  exact ⟨rfl, hb8⟩

end Go.Proofs.Ytecgagfpckaieaa
/-
  Records are taken till there is no room, and then none is lost: the walk.
-/
namespace Go.Proofs.Ytecgagfpckaieaa
open Go.RowKit

theorem conv_rdG (w : World) {A : Option Addr} {n : Nat} {zs : List Int} (hz : zs.length = n) (h0 : 0 < n) (hr : Rd w A (u8s zs)) (c : Nat) :
    (convert 50 9 (.slice A n c)).run Try.prog w = .ok (.string (strOfNums zs)) w := by
  subst hz
  obtain ⟨b, off, rfl, _, hc⟩ := hr.open_ (by rw [u8s_length]; exact h0)
  refine run_convert_bytes_arg w 50 5 Try.underlying50 Try.underlying5 b off zs.length c zs rfl (fun i hi => ?_) 9 Try.underlying9
  rw [hc i _ (u8s_at hi)]
  rw [List.getD_eq_getElem?_getD]
theorem make_q (w : World) (n : Nat) (hn : n ≤ 1048576) : ∃ w3, (Instr.makeSlice 50 (.int .i64 n) (.int .i64 n)).run Try.prog w = .ok (.slice (some ⟨w.heap.size, 0, none⟩) n n) w3 ∧ Rd w3 (some ⟨w.heap.size, 0, none⟩) (u8s (List.replicate n 0)) ∧ Below w.heap.size w w3 := by
  obtain ⟨i0, hi0, hz0, hz1, hz2⟩ := info_parts info_u8
  obtain ⟨M, hM⟩ : ∃ M, M = madeCells (Value.int .u8 0).cells (((n : Nat) : Int).toNat * i0.size) := ⟨_, rfl⟩
  have hMl : M.toList = List.replicate n (.int .u8 0) := by
    rw [hM, hz1, Int.toNat_natCast, Nat.mul_one]
    exact toList_madeCells_one _ _
  have hmk := run_make (P := Try.prog) w 50 5 i0 (.int .u8 0) Try.underlying50 hi0 hz0 .i64 .i64 (n : Int) (n : Int) (by omega) (by omega) (by rw [hz2]; omega) (by omega)
  rw [← hM] at hmk
  refine ⟨_, hmk, ?_, (Below.refl _ _).alloc (Nat.le_refl _) _⟩
  have e : M = (u8s (List.replicate n 0)).toArray := by
    apply Array.toList_inj.1
    rw [hMl]
    simp [u8s]
  rw [e]
  exact rd_new w _ _
theorem strOfNums_size (l : List Int) : (strOfNums l).size = l.length := by
  show (strOfNums l).data.size = _
  simp [strOfNums]
section
variable {q t : ByteArray}
theorem sizeL_rep (hq : q.size = 4096) (k : Nat) : sizeL (List.replicate k q) = k * 4112 := by
  induction k with
  | zero => simp [sizeL]
  | succ k ih => rw [List.replicate_succ, sizeL, ih, hq]; omega
def actR (l : List ByteArray) : ActG := ⟨4, ByteArray.empty, none, 0, 0, l, none, 0, 0, []⟩
variable {K : LogK} {S : K.LS}
theorem LogP.app (hP : LogP K) (hf : hP.Fine S) (s : ByteArray) : (K.app S s).2 = (nextG (K.recs S) 0 (actA s)).2 ∧ K.recs (K.app S s).1 = (nextG (K.recs S) 0 (actA s)).1 ∧ hP.Fine (K.app S s).1 := by
  have h := hP.act 0 (actA s) hf
  rwa [K.act3 S (actA s) (by omega)] at h
theorem LogP.rst (hP : LogP K) (hf : hP.Fine S) (l : List ByteArray) : (K.reset S l).2 = (nextG (K.recs S) 4 (actR l)).2 ∧ K.recs (K.reset S l).1 = (nextG (K.recs S) 4 (actR l)).1 ∧ hP.Fine (K.reset S l).1 := by
  have h := hP.act 4 (actR l) hf
  rwa [K.act4] at h
theorem next_big (ht : t.size = 4097) (l : List ByteArray) : nextG l 0 (actA t) = (l, 1) := by
  rw [nextG, if_neg (by omega), if_neg (by omega), if_pos (by show 4096 < t.size; omega)]
theorem next_room (hq : q.size = 4096) {k : Nat} (h : k < 127) : nextG (List.replicate k q) 0 (actA q) = (List.replicate (k + 1) q, 0) := by
  rw [nextG, if_neg (by omega), if_neg (by omega), if_neg (by show ¬ 4096 < q.size; omega), if_neg (by show ¬ 524288 < _ + q.size + 16; rw [sizeL_rep hq]; omega)]
  rw [List.replicate_succ']
  rfl
theorem next_full (hq : q.size = 4096) : nextG (List.replicate 127 q) 0 (actA q) = (List.replicate 127 q, 8) := by
  rw [nextG, if_neg (by omega), if_neg (by omega), if_neg (by show ¬ 4096 < q.size; omega), if_pos (by show 524288 < _ + q.size + 16; rw [sizeL_rep hq]; omega)]
theorem next_bad (ht : t.size = 4097) (l : List ByteArray) : nextG l 4 (actR [bA, t]) = (l, 1) := by
  rw [nextG, if_pos rfl, if_pos]
  rw [bigS, List.any_eq_true]
  exact ⟨t, by show t ∈ [bA, t]; simp, by rw [decide_eq_true_eq]; omega⟩
theorem next_new (l : List ByteArray) : nextG l 4 (actR [bA]) = ([bA], 0) := by
  rw [nextG, if_pos rfl, if_neg (by decide), if_neg (by decide)]
  rfl
theorem next_two (hq : q.size = 4096) : nextG [bA] 0 (actA q) = ([bA, q], 0) := by
  have h1 : sizeL [bA] = 17 := by decide
  rw [nextG, if_neg (by omega), if_neg (by omega), if_neg (by show ¬ 4096 < q.size; omega), if_neg (by show ¬ 524288 < _ + q.size + 16; rw [h1]; omega)]
  rfl
end

set_option maxRecDepth 100000 in
set_option maxHeartbeats 4000000 in
theorem logQuotas_walk {K : LogK} (hK : LogC K) (hP : LogP K) (s : ScrG) (w : World) : Calls Try.prog 5 #[scrVG s] w (Tells w.heap.size w (.bool true)) := by
  obtain ⟨w1, hw1⟩ : ∃ w1, w1 = w.alloc (.cells #[.slice s.AL s.nL s.cL, .slice s.AO s.nO s.cO] 25) := ⟨_, rfl⟩
  have hb1 : Below w.heap.size w w1 := by rw [hw1]; exact (Below.refl _ _).alloc (Nat.le_refl _) _
  have bx1 : Box w1 w.heap.size (scrCG s) := by rw [hw1]; exact box_new w (scrCG s) 25
  have HW := Lib.hid hw1
  obtain ⟨nL, hnL⟩ : ∃ nL, s.nL = nL := ⟨_, rfl⟩
  have HC0 : Hid (∀ wX, Below w1.heap.size w1 wX → wX.cell? ⟨w.heap.size, 0, none⟩ = some (.slice s.AL nL s.cL)) := fun wX h => by rw [← hnL]; exact (bx1.below h bx1.1).2 0 _ rfl
  have fin : ∀ wX, Below w1.heap.size w1 wX → Calls Try.prog 17 #[] wX (Tells w.heap.size w (.bool true)) := fun wX hX => (wakesG_any hK hP wX).mono fun e w' hh => ⟨hh.1, hb1.trans ((hX.trans (hh.2.mono hX.size)).mono hb1.size)⟩
  have HFIN := Lib.hid fin
  obtain ⟨S0, ho0, hf0, hr0⟩ := hP.start
  have hc0 : (K.dsk S0).calls ≤ 40000 := by
    have h1 := hK.costO (dNew [])
    rw [ho0] at h1
    have h2 : (K.dsk S0).calls ≤ 0 + 40000 := h1
    omega
  have HO0 := Lib.hid ho0
  have HFI0 := Lib.hid hf0
  have HRE0 := Lib.hid hr0
  clear hw1 bx1 hnL fin ho0 hf0 hr0
  unfold scrVG
  go_enter Try.func5, Try.ntmps5
  go_upto_region 1 with fail
  rw [← HW.out]
  go_wp2_with fail
  refine (diskG_any _).mono ?_
  rintro e w3 ⟨gd, rfl, hd3, hb3⟩
  obtain ⟨_, F3, hi3, hn3⟩ := hd3
  have HI3 := Lib.hid hi3
  have HF3 : Hid (∀ k, F3 k → w1.heap.size ≤ k) := fun k hk => by have := hn3 k hk; omega
  have HB3 := Lib.hid hb3
  clear hi3 hn3 hb3
  go_wp2_with fail
  refine (hK.openS HI3.out (by show 0 ≤ 900000; omega) HO0.out).mono ?_
  rintro e w4 ⟨gl, rfl, F4, hl4, ht4, hF4⟩
  have HL4 := Lib.hid hl4
  have hb4 : Below w1.heap.size w1 w4 := HB3.out.trans (ht4.below HF3.out HB3.out.size)
  have z3 := HB3.out.size
  have HF4 : Hid (∀ k, F4 k → w1.heap.size ≤ k) := fun k hk => by
    rcases hF4 k hk with h | h
    · exact HF3.out k h
    · omega
  clear hl4 ht4 hF4
  go_wp2_with fail
  refine (num10_any _ _).mono ?_
  rintro e w' ⟨rfl, rfl⟩
  obtain ⟨w5, hmk, hr5, hb5⟩ := make_q w4 4096 (by omega)
  rw [show ((4096 : Nat) : Int) = 4096 from rfl] at hmk
  have hcv := conv_rdG w5 (zs := List.replicate 4096 0) (n := 4096) List.length_replicate (by omega) hr5 4096
  have hqs := strOfNums_size (List.replicate 4096 0)
  rw [List.length_replicate] at hqs
  obtain ⟨q, hq⟩ : ∃ q, q = strOfNums (List.replicate 4096 0) := ⟨_, rfl⟩
  rw [← hq] at hcv hqs
  have HQ := Lib.hid hqs
  have HL5 := Lib.hid (hK.kept HL4.out hb5.size fun k hk => hb5.block k (hK.lt HL4.out k hk))
  have hb15 := hb4.trans (hb5.mono hb4.size)
  clear hq hr5 hqs hb5
  have hts : (q ++ (⟨#[120]⟩ : ByteArray)).size = 4097 := by
    have h1 : (⟨#[120]⟩ : ByteArray).size = 1 := rfl
    rw [ByteArray.size_append, HQ.out, h1]
  obtain ⟨t, ht⟩ : ∃ t, q ++ (⟨#[120]⟩ : ByteArray) = t := ⟨_, rfl⟩
  rw [ht] at hts
  have HTT := Lib.hid hts
  obtain ⟨p1, p2, p3⟩ := hP.app HFI0.out t
  rw [HRE0.out, next_big HTT.out] at p1 p2
  have hcc := hK.costA S0 t
  obtain ⟨S1, hS1⟩ : ∃ S1, (K.app S0 t).1 = S1 := ⟨_, rfl⟩
  rw [hS1] at p2 p3 hcc
  have HP1 := Lib.hid p1
  have HP2 := Lib.hid p2
  have HP3 := Lib.hid p3
  have HS1 := Lib.hid hS1
  clear p1 p2 p3 hS1 hts
  have hqz : q.size = 4096 := HQ.out
  go_wp2_with fail
  refine (hK.app_ t HL5.out (by rw [HTT.out]; omega) (by omega)).mono ?_
  rintro e w6 ⟨he, F6, hl6, ht6, hF6⟩
  rw [HP1.out] at he
  rw [HS1.out] at hl6
  subst he
  have HL6 := Lib.hid hl6
  have hb16 := hb15.trans (ht6.below HF4.out hb15.size)
  have HF6 : Hid (∀ k, F6 k → w1.heap.size ≤ k) := fun k hk => by
    have := hb15.size
    rcases hF6 k hk with h | h
    · exact HF4.out k h
    · omega
  clear hl6 ht6 hF6 hmk hcv
  go_wp2_with fail
  refine (num10_any _ _).mono ?_
  rintro e w' ⟨rfl, rfl⟩
  go_wp2_with fail
  go_loopw [7] (fun i wr => ∃ (k : Nat) (F : Nat → Prop) (S : K.LS), i = .int .i64 k ∧ k ≤ 127 ∧ Hid (K.IsLog wr gl gd F S) ∧ Hid (K.recs S = List.replicate k q) ∧ Hid (hP.Fine S) ∧ (K.dsk S).calls ≤ 41000 + k * 1000 ∧ Hid (∀ k, F k → w1.heap.size ≤ k) ∧ Below w1.heap.size w1 wr) (fun i _ => 127 - (intOf i).toNat)
  case atStart => exact ⟨0, F6, S1, rfl, by omega, HL6.out, HP2.out, HP3.out, by omega, HF6.out, hb16⟩
  case round =>
    obtain ⟨k, F, S, rfl, hk, HL, HRE, HFI, hcl, HFB, hb⟩ := hrel
    have i0 : (0 : Int) ≤ (k : Int) := by omega
    by_cases hlt : k < 127
    · have i1 : (k : Int) < 127 := by omega
      obtain ⟨p1, p2, p3⟩ := hP.app HFI.out q
      rw [HRE.out, next_room HQ.out hlt] at p1 p2
      have hcc2 := hK.costA S q
      obtain ⟨S2, hS2⟩ : ∃ S2, (K.app S q).1 = S2 := ⟨_, rfl⟩
      rw [hS2] at p2 p3 hcc2
      have HQ1 := Lib.hid p1
      have HQ2 := Lib.hid p2
      have HQ3 := Lib.hid p3
      have HS2 := Lib.hid hS2
      clear p1 p2 p3 hS2
      go_wp2_with fail
      refine (hK.app_ q HL.out (by rw [HQ.out]; omega) (by omega)).mono ?_
      rintro e w7 ⟨he, F7, hl7, ht7, hF7⟩
      rw [HQ1.out] at he
      rw [HS2.out] at hl7
      subst he
      have HL7 := Lib.hid hl7
      have hb17 := hb.trans (ht7.below HFB.out hb.size)
      have HF7 : Hid (∀ k, F7 k → w1.heap.size ≤ k) := fun k hk => by
        have := hb.size
        rcases hF7 k hk with h | h
        · exact HFB.out k h
        · omega
      clear hl7 ht7 hF7
      go_wp2_with fail
      refine (num10_any _ _).mono ?_
      rintro e w' ⟨rfl, rfl⟩
      go_wp2_with fail
      go_roundw
      case rel => exact ⟨k + 1, F7, S2, by go_num, by omega, HL7.out, HQ2.out, HQ3.out, by omega, HF7.out, hb17⟩
      case measure => simp [intOf]; omega
    · have i1 : ¬ ((k : Int) < 127) := by omega
      have hk127 : k = 127 := by omega
      have hre := HRE.out
      rw [hk127] at hre
      obtain ⟨p1, p2, p3⟩ := hP.app HFI.out q
      rw [hre, next_full HQ.out] at p1 p2
      have hc2 := hK.costA S q
      obtain ⟨S2, hS2⟩ : ∃ S2, (K.app S q).1 = S2 := ⟨_, rfl⟩
      rw [hS2] at p2 p3 hc2
      obtain ⟨r1, r2, r3⟩ := hP.rst p3 [bA, t]
      rw [next_bad HTT.out, p2] at r1 r2
      have hc3 := hK.costR S2 [bA, t]
      obtain ⟨S3, hS3⟩ : ∃ S3, (K.reset S2 [bA, t]).1 = S3 := ⟨_, rfl⟩
      rw [hS3] at r2 r3 hc3
      obtain ⟨s1, s2, s3⟩ := hP.rst r3 [bA]
      rw [next_new] at s1 s2
      have hc4 := hK.costR S3 [bA]
      obtain ⟨S4, hS4⟩ : ∃ S4, (K.reset S3 [bA]).1 = S4 := ⟨_, rfl⟩
      rw [hS4] at s2 s3 hc4
      obtain ⟨t1, t2, t3⟩ := hP.app s3 q
      rw [s2, next_two HQ.out] at t1 t2
      obtain ⟨S5, hS5⟩ : ∃ S5, (K.app S4 q).1 = S5 := ⟨_, rfl⟩
      rw [hS5] at t2
      have HA1 := Lib.hid p1
      have HA2 : Hid (K.recs S2 = List.replicate 127 q) := p2
      have HR1 := Lib.hid r1
      have HR2 : Hid (K.recs S3 = List.replicate 127 q) := r2
      have HN1 := Lib.hid s1
      have HT1 := Lib.hid t1
      have HT2 : Hid (K.recs S5 = [bA, q]) := t2
      have HS2 := Lib.hid hS2
      have HS3 := Lib.hid hS3
      have HS4 := Lib.hid hS4
      have HS5 := Lib.hid hS5
      clear p1 p2 p3 r1 r2 r3 s1 s2 s3 t1 t2 t3 hS2 hS3 hS4 hS5 hre
      go_wp2_with fail
      refine (hK.app_ q HL.out (by rw [HQ.out]; omega) (by omega)).mono ?_
      rintro e w7 ⟨he, F7, hl7, ht7, hF7⟩
      rw [HA1.out] at he
      rw [HS2.out] at hl7
      subst he
      have HL7 := Lib.hid hl7
      have hb17 := hb.trans (ht7.below HFB.out hb.size)
      have HF7 : Hid (∀ k, F7 k → w1.heap.size ≤ k) := fun k hk => by
        have := hb.size
        rcases hF7 k hk with h | h
        · exact HFB.out k h
        · omega
      have HALL7 := Lib.hid (hK.all_ HL7.out)
      rw [HA2.out] at HALL7
      clear hl7 ht7 hF7
      go_wp2_with fail
      refine (num10_any _ _).mono ?_
      rintro e w' ⟨rfl, rfl⟩
      go_wp2_with fail
      refine HALL7.out.mono ?_
      rintro e w8 ⟨v8, rfl, ho8, hb8⟩
      have ho8b := own_cast ho8 ((strs_length _).trans List.length_replicate)
      obtain ⟨A8, c8, rfl, _, _, _, _, _⟩ := own_val ho8b
      have hb18 := hb17.trans (hb8.mono hb17.size)
      have HL8 := Lib.hid (hK.kept HL7.out hb8.size fun k hk => hb8.block k (hK.lt HL7.out k hk))
      have HLT8 : Hid (∀ k, F7 k → k < w8.heap.size) := hK.lt HL8.out
      clear ho8 ho8b hb8
      go_wp2_with fail
      obtain ⟨w9, hw9⟩ : ∃ w9, w9 = w8.alloc (.cells #[.string ⟨#[97]⟩, .string t] 9) := ⟨_, rfl⟩
      have hb9 : Below w8.heap.size w8 w9 := by rw [hw9]; exact (Below.refl _ _).alloc (Nat.le_refl _) _
      have hr9 : Rd w9 (some ⟨w8.heap.size, 0, none⟩) (strs [bA, t]) := by rw [hw9]; exact rd_new w8 (strs [bA, t]) _
      rw [← hw9]
      clear hw9
      have HL9 := Lib.hid (hK.kept HL8.out hb9.size fun k hk => hb9.block k (hK.lt HL8.out k hk))
      refine (hK.reset_ (some ⟨w8.heap.size, 0, none⟩) 2 2 [bA, t] HL9.out ⟨rfl, hr9, by omega, by decide, fun b' hb' _ hf => by cases hb'; have := HLT8.out _ hf; exact absurd this (by show ¬ w8.heap.size < _; omega)⟩ (by omega) (fun x hx => by
        simp only [List.mem_cons, List.not_mem_nil, or_false] at hx
        rcases hx with rfl | rfl
        · decide
        · rw [HTT.out]; omega) (by omega)).mono ?_
      rintro e w10 ⟨he, F10, hl10, ht10, hF10⟩
      rw [HR1.out] at he
      rw [HS3.out] at hl10
      subst he
      have HL10 := Lib.hid hl10
      have hb19 := hb18.trans (hb9.mono hb18.size)
      have hb110 := hb19.trans (ht10.below HF7.out hb19.size)
      have HF10 : Hid (∀ k, F10 k → w1.heap.size ≤ k) := fun k hk => by
        have := hb19.size
        rcases hF10 k hk with h | h
        · exact HF7.out k h
        · omega
      have HALL10 := Lib.hid (hK.all_ HL10.out)
      rw [HR2.out] at HALL10
      clear hl10 ht10 hF10 hr9 hb9
      go_wp2_with fail
      refine (num10_any _ _).mono ?_
      rintro e w' ⟨rfl, rfl⟩
      go_wp2_with fail
      refine HALL10.out.mono ?_
      rintro e w11 ⟨v11, rfl, ho11, hb11⟩
      have ho11b := own_cast ho11 ((strs_length _).trans List.length_replicate)
      obtain ⟨A11, c11, rfl, _, _, _, _, _⟩ := own_val ho11b
      have hb111 := hb110.trans (hb11.mono hb110.size)
      have HL11 := Lib.hid (hK.kept HL10.out hb11.size fun k hk => hb11.block k (hK.lt HL10.out k hk))
      have HLT11 : Hid (∀ k, F10 k → k < w11.heap.size) := hK.lt HL11.out
      clear ho11 ho11b hb11
      go_wp2_with fail
      obtain ⟨w12, hw12⟩ : ∃ w12, w12 = w11.alloc (.cells #[.string ⟨#[97]⟩] 9) := ⟨_, rfl⟩
      have hb12 : Below w11.heap.size w11 w12 := by rw [hw12]; exact (Below.refl _ _).alloc (Nat.le_refl _) _
      have hr12 : Rd w12 (some ⟨w11.heap.size, 0, none⟩) (strs [bA]) := by rw [hw12]; exact rd_new w11 (strs [bA]) _
      rw [← hw12]
      clear hw12
      have HL12 := Lib.hid (hK.kept HL11.out hb12.size fun k hk => hb12.block k (hK.lt HL11.out k hk))
      refine (hK.reset_ (some ⟨w11.heap.size, 0, none⟩) 1 1 [bA] HL12.out ⟨rfl, hr12, by omega, by decide, fun b' hb' _ hf => by cases hb'; have := HLT11.out _ hf; exact absurd this (by show ¬ w11.heap.size < _; omega)⟩ (by omega) (fun x hx => by
        rw [List.mem_singleton] at hx
        subst hx
        decide) (by omega)).mono ?_
      rintro e w13 ⟨he, F13, hl13, ht13, hF13⟩
      rw [HN1.out] at he
      rw [HS4.out] at hl13
      subst he
      have HL13 := Lib.hid hl13
      have hb112 := hb111.trans (hb12.mono hb111.size)
      have hb113 := hb112.trans (ht13.below HF10.out hb112.size)
      have HF13 : Hid (∀ k, F13 k → w1.heap.size ≤ k) := fun k hk => by
        have := hb112.size
        rcases hF13 k hk with h | h
        · exact HF10.out k h
        · omega
      clear hl13 ht13 hF13 hr12 hb12
      go_wp2_with fail
      refine (num10_any _ _).mono ?_
      rintro e w' ⟨rfl, rfl⟩
      go_wp2_with fail
      refine (hK.app_ q HL13.out (by rw [HQ.out]; omega) (by omega)).mono ?_
      rintro e w14 ⟨he, F14, hl14, ht14, hF14⟩
      rw [HT1.out] at he
      rw [HS5.out] at hl14
      subst he
      have hb114 := hb113.trans (ht14.below HF13.out hb113.size)
      have HALL14 := Lib.hid (hK.all_ hl14)
      rw [HT2.out] at HALL14
      clear hl14 ht14 hF14
      go_wp2_with fail
      refine (num10_any _ _).mono ?_
      rintro e w' ⟨rfl, rfl⟩
      go_wp2_with fail
      refine HALL14.out.mono ?_
      rintro e w15 ⟨v15, rfl, ho15, hb15'⟩
      obtain ⟨A15, c15, rfl, _, _, hr15, _, _⟩ := own_val ho15
      have hb115 := hb114.trans (hb15'.mono hb114.size)
      go_wp2_with fail
      obtain ⟨w16, hw16⟩ : ∃ w16, w16 = w15.alloc (.cells #[.string ⟨#[97]⟩, .string q] 9) := ⟨_, rfl⟩
      have hb16' : Below w15.heap.size w15 w16 := by rw [hw16]; exact (Below.refl _ _).alloc (Nat.le_refl _) _
      have hr16 : Rd w16 (some ⟨w15.heap.size, 0, none⟩) (strs [bA, q]) := by rw [hw16]; exact rd_new w15 (strs [bA, q]) _
      rw [← hw16]
      clear hw16
      refine (eqStrings_same A15 (some ⟨w15.heap.size, 0, none⟩) c15 2 2 [bA, q] _ rfl (hr15.below hb16') hr16 (by omega)).mono ?_
      rintro e w17 ⟨rfl, d, hw17⟩
      have hb117 : Below w1.heap.size w1 w17 := by rw [hw17]; exact below_n (hb115.trans (hb16'.mono hb115.size)) d
      have c0 := HC0.out _ hb117
      clear hw17 ho15 hr15 hr16 hb16'
      go_wp2_with fail
      refine (HFIN.out _ hb117).mono ?_
      rintro e w18 ⟨rfl, hb18'⟩
      go_wp2_with fail
      go_ret
      exact ⟨rfl, hb18'⟩

end Go.Proofs.Ytecgagfpckaieaa
/-
  A log tells just what was appended and laid anew; synced and opened anew it is the same: the walk.
-/
namespace Go.Proofs.Ytecgagfpckaieaa
open Go.RowKit

theorem few_len {l : List ByteArray} (h : sizeL l ≤ 524288) : l.length ≤ 32768 := by have := sizeL_len l; omega

set_option maxRecDepth 100000 in
set_option maxHeartbeats 8000000 in
theorem logModel_walk {K : LogK} (hK : LogC K) (hP : LogP K) (s : ScrG) (w : World) (h : ScrGIn w s) : Calls Try.prog 3 #[scrVG s] w (Tells w.heap.size w (.bool true)) := by
  obtain ⟨w1, hw1⟩ : ∃ w1, w1 = w.alloc (.cells #[.slice s.AL s.nL s.cL, .slice s.AO s.nO s.cO] 25) := ⟨_, rfl⟩
  have hb1 : Below w.heap.size w w1 := by rw [hw1]; exact (Below.refl _ _).alloc (Nat.le_refl _) _
  have bx1 : Box w1 w.heap.size (scrCG s) := by rw [hw1]; exact box_new w (scrCG s) 25
  have HW := Lib.hid hw1
  have HX := Lib.hid bx1
  have HI : Hid (∀ wX, Below w1.heap.size w1 wX → ScrGIn wX s) := fun wX hX => h.below (hb1.trans (hX.mono hb1.size))
  have HI1 := Lib.hid (h.below hb1)
  obtain ⟨nL, hnL⟩ : ∃ nL, s.nL = nL := ⟨_, rfl⟩
  have HNL := Lib.hid hnL
  have HC0 : Hid (∀ wX, Below w1.heap.size w1 wX → wX.cell? ⟨w.heap.size, 0, none⟩ = some (.slice s.AL nL s.cL)) := fun wX h => by rw [← hnL]; exact (bx1.below h bx1.1).2 0 _ rfl
  have fin : ∀ wX, Below w1.heap.size w1 wX → Calls Try.prog 17 #[] wX (Tells w.heap.size w (.bool true)) := fun wX hX => (wakesG_any hK hP wX).mono fun e w' hh => ⟨hh.1, hb1.trans ((hX.trans (hh.2.mono hX.size)).mono hb1.size)⟩
  have HFIN := Lib.hid fin
  have hcS0 : ∀ S, K.openL (dNew []) = (some S, 0, K.dsk S) → (K.dsk S).calls ≤ 40000 := fun S ho => by
    have h1 := hK.costO (dNew [])
    rw [ho] at h1
    have h2 : (K.dsk S).calls ≤ 0 + 40000 := h1
    omega
  obtain ⟨S0, ho0, hf0, hr0⟩ := hP.start
  have hc0 := hcS0 S0 ho0
  have HO0 := Lib.hid ho0
  have HFI0 := Lib.hid hf0
  have HRE0 := Lib.hid hr0
  clear hw1 bx1 h hnL fin hcS0 ho0 hf0 hr0
  unfold scrVG
  go_enter Try.func3, Try.ntmps3
  go_upto_region 1 with fail
  rw [← HW.out]
  go_wp2_with (refine wpList_load_box rfl 25 _ rfl w.heap.size rfl (scrCG s) HX.out _ Try.underlying25 rfl size_scrG ?_)
  refine (heavyG_any s _ HI1.out).mono ?_
  rintro e w2 ⟨b, rfl, hb2, hlight⟩
  cases b with
  | true =>
    go_wp2_with fail
    go_ret
    exact ⟨rfl, hb1.trans (hb2.mono hb1.size)⟩
  | false =>
    have HLI := Lib.hid (hlight rfl)
    clear hlight
    go_wp2_with fail
    refine (diskG_any _).mono ?_
    rintro e w3 ⟨gd, rfl, hd3, hb3⟩
    obtain ⟨_, F3, hi3, hn3⟩ := hd3
    have HI3 := Lib.hid hi3
    have z2 := hb2.size
    have HF3 : Hid (∀ k, F3 k → w1.heap.size ≤ k) := fun k hk => by have := hn3 k hk; omega
    have HB3 := Lib.hid (hb2.trans (hb3.mono z2))
    clear hi3 hn3 hb3
    go_wp2_with fail
    refine (hK.openS HI3.out (by show 0 ≤ 900000; omega) HO0.out).mono ?_
    rintro e w4 ⟨gl, rfl, F4, hl4, ht4, hF4⟩
    have HL4 := Lib.hid hl4
    have hb4 : Below w1.heap.size w1 w4 := HB3.out.trans (ht4.below HF3.out HB3.out.size)
    have z3 := HB3.out.size
    have HF4 : Hid (∀ k, F4 k → w1.heap.size ≤ k) := fun k hk => by
      rcases hF4 k hk with h | h
      · exact HF3.out k h
      · omega
    clear hl4 ht4 hF4
    go_wp2_with fail
    refine (num10_any _ _).mono ?_
    rintro e w' ⟨rfl, rfl⟩
    have HTX0 : Hid (TxtIn w4 F4 none 0 0 (K.recs S0)) := by show TxtIn _ _ _ _ _ _; rw [HRE0.out]; exact TxtIn.nil _ _
    go_wp2_with fail
    go_loopw [3, 4, 6, 7] (fun d lg r i wr => ∃ (k gd gl : Nat) (F : Nat → Prop) (S : K.LS) (Ar : Option Addr) (nr cr : Nat), i = .int .i64 k ∧ d = .pointer (some ⟨gd, 0, none⟩) ∧ lg = .pointer (some ⟨gl, 0, none⟩) ∧ r = .slice Ar nr cr ∧ k ≤ 20 ∧ Hid (K.IsLog wr gl gd F S) ∧ Hid (TxtIn wr F Ar nr cr (K.recs S)) ∧ (K.dsk S).calls ≤ k * 40000 + 40000 ∧ Hid (hP.Fine S) ∧ Hid (∀ k, F k → w1.heap.size ≤ k) ∧ Below w1.heap.size w1 wr) (fun _ _ _ i _ => 20 - (intOf i).toNat)
    case atStart => exact ⟨0, gd, gl, F4, S0, none, 0, 0, rfl, rfl, rfl, rfl, by omega, HL4.out, HTX0.out, by omega, HFI0.out, HF4.out, hb4⟩
    case round =>
      obtain ⟨k, gd, gl, F, S, Ar, nr, cr, rfl, rfl, rfl, rfl, hk20, HL, HTX, hcl, HFI, HFB, hb⟩ := hrel
      have c0 := HC0.out _ hb
      have i0 : (0 : Int) ≤ (k : Int) := by omega
      by_cases hgo : k < nL ∧ k < 20
      · obtain ⟨hlt, h20⟩ := hgo
        have i1 : (k : Int) < (nL : Int) := by omega
        have i2 : (k : Int) < 20 := by omega
        obtain ⟨bl, off, a, hAL, hbl, hx, hmem, hrg⟩ := (HI.out _ hb).at_ (k := k) (by rw [HNL.out]; exact hlt)
        rw [hAL] at c0
        obtain ⟨hl1, hl2, hl3, hl4⟩ := HLI.out.2.2 a hmem
        obtain ⟨nA, hnA⟩ : ∃ nA, a.nL = nA := ⟨_, rfl⟩
        obtain ⟨nK, hnK⟩ : ∃ nK, a.nK = nK := ⟨_, rfl⟩
        have hrg2 : wr.rangeAt bl (off + k * 4) [.int .i64 a.Do, .string a.S, .slice a.AL nA a.cL, .slice a.AK nK a.cK] := by rw [← hnA, ← hnK]; exact hrg
        rw [hnA] at hl2
        have HRG := Lib.hid hrg2
        have HA : Hid (∀ wX, Below w1.heap.size w1 wX → ActGIn wX a) := fun wX hX => (HI.out wX hX).act a hmem
        obtain ⟨m, hm7, hwv⟩ := within_val a.Do 7 (by decide) (by decide)
        have HNA := Lib.hid hnA
        have HNK := Lib.hid hnK
        have HWV := Lib.hid hwv
        obtain ⟨w2', hw2⟩ : ∃ w2', w2' = wr.alloc (.cells #[.int .i64 a.Do, .string a.S, .slice a.AL nA a.cL, .slice a.AK nK a.cK] 36) := ⟨_, rfl⟩
        have hbA : Below wr.heap.size wr w2' := by rw [hw2]; exact (Below.refl _ _).alloc (Nat.le_refl _) _
        have bxA : Box w2' wr.heap.size [.int .i64 a.Do, .string a.S, .slice a.AL nA a.cL, .slice a.AK nK a.cK] := by rw [hw2]; exact box_new wr [.int .i64 a.Do, .string a.S, .slice a.AL nA a.cL, .slice a.AK nK a.cK] 36
        have HW2 := Lib.hid hw2
        have HBA := Lib.hid bxA
        have hfew := hK.few HL.out
        have hnr : nr ≤ 32768 := by have h1 := few_len hfew.1; have h2 := HTX.out.hz; omega
        have HFEW := Lib.hid hfew
        have hb12 : Below w1.heap.size w1 w2' := hb.trans (hbA.mono hb.size)
        have HL2 := Lib.hid (hK.kept HL.out hbA.size fun k hk => hbA.block k (hK.lt HL.out k hk))
        have HTX2 := Lib.hid (HTX.out.below hbA)
        have HGA : Hid (¬ F wr.heap.size) := fun hf => by have := hK.lt HL.out _ hf; omega
        have HFLT : Hid (∀ k, F k → k < w2'.heap.size) := hK.lt HL2.out
        have zA := hbA.size
        have HL3 := Lib.hid hl3
        obtain ⟨p1, p2, p3⟩ := hP.act m a HFI.out
        obtain ⟨S1, hS1⟩ : ∃ S1, (K.act S m a).1 = S1 := ⟨_, rfl⟩
        obtain ⟨R, hR⟩ : ∃ R, nextG (K.recs S) m a = R := ⟨_, rfl⟩
        rw [hS1] at p2 p3
        rw [hR] at p1 p2
        have hfR : sizeL R.1 ≤ 524288 := by rw [← hR]; exact (nextG_few hfew).1
        have hnR : R.1.length ≤ 32768 := few_len hfR
        obtain ⟨nR, hnRe⟩ : ∃ nR, R.1.length = nR := ⟨_, rfl⟩
        rw [hnRe] at hnR
        have HNR := Lib.hid hnRe
        have hcc := hK.cost S m a
        rw [hS1] at hcc
        have HP1 := Lib.hid p1
        have HP2 := Lib.hid p2
        have HP3 := Lib.hid p3
        have HS1 := Lib.hid hS1
        have HRR := Lib.hid hR
        clear hAL hmem hrg hrg2 hx hnA hnK hwv hw2 hbA bxA hfew p1 p2 p3 hS1 hR hnRe hfR hl3 hl1 hl4
        go_wp2_with (first | (refine wpList_load_mid rfl 36 _ rfl bl (off + k * 4) rfl [.int .i64 a.Do, .string a.S, .slice a.AL nA a.cL, .slice a.AK nK a.cK] _ HRG.out Try.underlying36 rfl size_actG ?_))
        rw [← HW2.out]
        refine (nextG_is a nA nK m Ar cr nr (K.recs S) w2' ((HA.out _ hb12)) HNA.out HWV.out hm7 (by omega) HTX2.out.hz HTX2.out.rd HTX2.out.hc HTX2.out.hm (by omega) HFEW.out.2).mono ?_
        rintro e w3 ⟨A3, c3, rfl, _, hc3, hm3, hr3, hb3, hor⟩
        rw [HRR.out] at hc3 hr3 ⊢
        rw [HNR.out] at hc3 ⊢
        have HTX3 : Hid (TxtIn w3 F A3 nR c3 R.1) := ⟨HNR.out, hr3, hc3, hm3, fun b hbb h0 hf => by
          rcases hor with ⟨e, e'⟩ | e
          · subst e
            rw [HRR.out] at e'
            have h1 : R.1.length = nR := HNR.out
            rw [e', HTX2.out.hz] at h1
            exact HTX2.out.far b hbb (by omega) hf
          · have h1 := e b hbb
            have h2 := HFLT.out _ hf
            omega⟩
        have z3' := hb3.size
        have HL3' := Lib.hid (hK.kept HL2.out hb3.size fun k hk => hb3.block k (hK.lt HL2.out k hk))
        have bx3 := HBA.out.below hb3 HBA.out.1
        have HBX3 := Lib.hid bx3
        have hb13 : Below w1.heap.size w1 w3 := hb12.trans (hb3.mono hb12.size)
        have HDO := Lib.hid (doesG_is (nK := nK) hK gl gd a nA m w3 (HA.out _ hb13) HNA.out HL3'.out (by omega) HWV.out hm7 (by omega) (fun x hx => by have := HL3.out x hx; omega))
        rw [HS1.out, HP1.out] at HDO
        clear hr3 hb3 hor bx3 c0
        go_wp2_with (first | (refine wpList_load_box rfl 36 _ rfl wr.heap.size rfl [.int .i64 a.Do, .string a.S, .slice a.AL nA a.cL, .slice a.AK nK a.cK] HBX3.out _ Try.underlying36 rfl size_actG ?_))
        refine HDO.out.mono ?_
        rintro e w4 ⟨rfl, F4', hl4, ht4, hF4'⟩
        have HL4' := Lib.hid hl4
        have HTX4 := Lib.hid (HTX3.out.touch ht4 hF4')
        have hb34 : Below w1.heap.size w3 w4 := ht4.below HFB.out hb13.size
        have hb14 := hb13.trans hb34
        have bx4 := box_touchG HBX3.out ht4 HGA.out
        have HBX4 := Lib.hid bx4
        have z4' := ht4.size
        have HF4 : Hid (∀ k, F4' k → w1.heap.size ≤ k) := fun k hk => by
          rcases hF4' k hk with h | h
          · exact HFB.out k h
          · have := hb13.size; omega
        have HALL := Lib.hid (hK.all_ HL4'.out)
        rw [HP2.out] at HALL
        clear hl4 ht4 hF4' hb34 bx4
        go_wp2_with fail
        refine HALL.out.mono ?_
        rintro e w5 ⟨v5, rfl, ho5, hb5⟩
        have ho5b := own_cast ho5 ((strs_length _).trans HNR.out)
        obtain ⟨A5, c5, rfl, hc5, hm5, hr5, _, _⟩ := own_val ho5b
        have z5' := hb5.size
        have HO5 := Lib.hid ho5b
        go_wp2_with fail
        refine (eqStrings_same A5 A3 c5 c3 nR R.1 _ HNR.out hr5 (HTX4.out.rd.below hb5) (by omega)).mono ?_
        rintro e w6 ⟨rfl, d6, hw6⟩
        have hb6 : Below w5.heap.size w5 w6 := by rw [hw6]; exact below_n (Below.refl _ _) d6
        have ho6 := own_below HO5.out hb6
        have z6' := hb6.size
        have HB46 := Lib.hid (hb5.trans (hb6.mono z5'))
        clear ho5 ho5b hr5 hb5 hb6 hw6
        go_wp2_with fail
        refine (spoilStrings_any w4.heap.size _ nR R.1 _ ho6 (by omega) (by omega)).mono ?_
        rintro e w7 ⟨rfl, hb7⟩
        have hb47 : Below w4.heap.size w4 w7 := HB46.out.trans hb7
        have bx7 := HBX4.out.below hb47 HBX4.out.1
        have k0 := bx7.2 0 _ rfl
        have k3 := bx7.2 3 _ rfl
        have HL7 := Lib.hid (hK.kept HL4'.out hb47.size fun k hk => hb47.block k (hK.lt HL4'.out k hk))
        have HTX7 := Lib.hid (HTX4.out.below hb47)
        have hb17 := hb14.trans (hb47.mono hb14.size)
        have z7' := hb47.size
        clear ho6 hb7 hb47 bx7
        go_wp2_with fail
        refine (within_is a.Do 7 m _ HWV.out (by decide) (by decide)).mono ?_
        rintro e w' ⟨rfl, rfl⟩
        by_cases h6 : m = 6
        · subst h6
          have hlast : hP.Last S1 := by
            have h1 := hP.sync HFI.out
            have h2 := HS1.out
            rw [K.act6] at h2
            rwa [h2] at h1
          have hAin := HA.out _ hb17
          have hst : StG K w1.heap.size F4' gl gd S1 w7 := ⟨HL7.out, HF4.out, hb17.size⟩
          have HAG := Lib.hid (againG_any gd a.AK nK a.cK a.ps w7 (hst.hd hK) (hAin.zK.trans HNK.out) hAin.rK (by have := hAin.kK; rw [HNK.out] at this; exact this) hAin.xK hAin.yK)
          obtain ⟨S2, ho2, hf2, hr2⟩ := hP.reopen hlast a.ps
          have hcO := hK.costO (dNew (dCrash (K.dsk S1) a.ps))
          rw [ho2] at hcO
          have hc2 : (K.dsk S2).calls ≤ 40000 := by
            have h2 : (K.dsk S2).calls ≤ 0 + 40000 := hcO
            omega
          have HO2 := Lib.hid ho2
          have HF2 := Lib.hid hf2
          have HR2 : Hid (K.recs S2 = R.1) := hr2.trans HP2.out
          clear hlast hst ho2 hf2 hr2 hcO hAin
          go_wp2_with fail
          refine HAG.out.mono ?_
          rintro e w8 ⟨gd', rfl, hd8, hb8⟩
          obtain ⟨_, F8, hi8, hn8⟩ := hd8
          have HI8 := Lib.hid hi8
          have HF8 : Hid (∀ k, F8 k → w7.heap.size ≤ k) := fun k hk => by have := hn8 k hk; omega
          have HTX8 : Hid (TxtIn w8 F8 A3 nR c3 R.1) := ⟨HTX7.out.hz, HTX7.out.rd.below hb8, HTX7.out.hc, HTX7.out.hm, fun b hbb h0 hf => by
            have h1 := HF8.out _ hf
            obtain ⟨bb, oo, e2, hb2', _⟩ := HTX7.out.rd.open_ (by rw [strs_length, HTX7.out.hz]; exact h0)
            rw [e2] at hbb
            cases hbb
            have h3 : w7.heap.size ≤ bb := h1
            omega⟩
          have z8 := hb8.size
          have HB18 := Lib.hid (hb17.trans (hb8.mono hb17.size))
          clear hi8 hn8 hb8 k0 k3
          go_wp2_with fail
          refine (hK.openS HI8.out (by show 0 ≤ 900000; omega) HO2.out).mono ?_
          rintro e w9 ⟨gl', rfl, F9, hl9, ht9, hF9⟩
          have HL9 := Lib.hid hl9
          have HTX9 := Lib.hid (HTX8.out.touch ht9 hF9)
          have hb19 : Below w1.heap.size w1 w9 := HB18.out.trans (ht9.below (fun k hk => by have := HF8.out k hk; have := hb17.size; omega) HB18.out.size)
          have HF9 : Hid (∀ k, F9 k → w1.heap.size ≤ k) := fun k hk => by
            have := hb17.size
            rcases hF9 k hk with h | h
            · have := HF8.out k h; omega
            · omega
          have HALL9 := Lib.hid (hK.all_ HL9.out)
          rw [HR2.out] at HALL9
          clear hl9 ht9 hF9
          go_wp2_with fail
          refine (num10_any _ _).mono ?_
          rintro e w' ⟨rfl, rfl⟩
          go_wp2_with fail
          refine HALL9.out.mono ?_
          rintro e w10 ⟨v10, rfl, ho10, hb10⟩
          have ho10b := own_cast ho10 ((strs_length _).trans HNR.out)
          obtain ⟨A10, c10, rfl, hc10, hm10, hr10, _, _⟩ := own_val ho10b
          have z10 := hb10.size
          go_wp2_with fail
          refine (eqStrings_same A10 A3 c10 c3 nR R.1 _ HNR.out hr10 (HTX9.out.rd.below hb10) (by omega)).mono ?_
          rintro e w11 ⟨rfl, d11, hw11⟩
          have hb11 : Below w9.heap.size w9 w11 := by rw [hw11]; exact below_n hb10 d11
          have HL11 := Lib.hid (hK.kept HL9.out hb11.size fun k hk => hb11.block k (hK.lt HL9.out k hk))
          have HTX11 : Hid (TxtIn w11 F9 A3 nR c3 (K.recs S2)) := by show TxtIn _ _ _ _ _ _; rw [HR2.out]; exact HTX9.out.below hb11
          have hb111 := hb19.trans (hb11.mono hb19.size)
          clear ho10 ho10b hr10 hb10 hw11 hb11
          go_wp2_with fail
          go_roundw
          case rel => exact ⟨k + 1, gd', gl', F9, S2, A3, nR, c3, by go_num, rfl, rfl, rfl, by omega, HL11.out, HTX11.out, by omega, HF2.out, HF9.out, hb111⟩
          case measure => simp [intOf]; omega
        · have e6 : (((m : Nat) : Int) == 6) = false := by simp; omega
          have HTX9 : Hid (TxtIn w7 F4' A3 nR c3 (K.recs S1)) := by show TxtIn _ _ _ _ _ _; rw [HP2.out]; exact HTX7.out
          go_wp2_with fail
          go_roundw
          case rel => exact ⟨k + 1, gd, gl, F4', S1, A3, nR, c3, by go_num, rfl, rfl, rfl, by omega, HL7.out, HTX9.out, by omega, HP3.out, HF4.out, hb17⟩
          case measure => simp [intOf]; omega
      · have hcase : (¬ ((k : Int) < (nL : Int))) ∨ ((k : Int) < (nL : Int) ∧ ¬ ((k : Int) < 20)) := by
          by_cases hlt : k < nL
          · exact .inr ⟨by omega, fun h => hgo ⟨hlt, by omega⟩⟩
          · exact .inl (by omega)
        clear hgo
        rcases hcase with i1 | ⟨i1, i2⟩
        all_goals
          go_wp2_with fail
          refine (hK.openNil _).mono ?_
          rintro e w9 ⟨rfl, hb9⟩
          have hb19 := hb.trans (hb9.mono hb.size)
          go_wp2_with fail
          refine (num10_any _ _).mono ?_
          rintro e w' ⟨rfl, rfl⟩
          go_wp2_with fail
          refine (HFIN.out _ hb19).mono ?_
          rintro e w10 ⟨rfl, hb10⟩
          go_wp2_with fail
          go_ret
          exact ⟨rfl, hb10⟩

end Go.Proofs.Ytecgagfpckaieaa
