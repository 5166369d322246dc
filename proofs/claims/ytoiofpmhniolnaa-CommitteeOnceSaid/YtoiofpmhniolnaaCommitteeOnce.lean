/-
  'CommitteeOnce': for every input the law returns true, and its argument reads as it did. 
-/
import Derived.Test.YtoiofpmhniolnaaBacks
namespace Go.Proofs.Ytoiofpmhniolnaa
open Go.RowKit Go.ChangeShapes Go.WideShapes Go.ChangeAt

set_option maxRecDepth 100000 in
set_option maxHeartbeats 4000000 in
theorem committeeOnce_walk (a : Option Addr) (len cap : Nat) (w : World) (ha : Asks w a len cap) :
    Calls Try.prog 8 #[.slice a len cap] w fun e w' => e = .returned (.bool true) ∧ Below w.heap.size w w' := by
  obtain ⟨hl, hm, hi⟩ := ha
  unfold maxLen at hm
  have HI := Lib.hid hi
  clear hi
  go_enter Try.func8, Try.ntmps8
  go_wp2_with fail
  go_loopw [3] (fun i wr => ∃ k : Nat, i = .int .i64 k ∧ k ≤ len ∧ k ≤ 30 ∧ Below w.heap.size w wr) (fun i _ => 30 - (intOf i).toNat)
  case atStart => exact ⟨0, rfl, by omega, by omega, Below.refl _ _⟩
  case round =>
    obtain ⟨k, rfl, hk, hkm, hb⟩ := hrel
    by_cases hlt : k < len
    · by_cases hmo : k < 30
      · have i0 : (0 : Int) ≤ (k : Int) := by omega
        have i1 : (k : Int) < (len : Int) := by omega
        have i2 : (k : Int) < 30 := by omega
        obtain ⟨b, off, ⟨N, R, AL, cL, L⟩, nL, rfl, (hnL : L.length = nL), hA⟩ := (HI.out k hlt).all
        have HA := Lib.hid hA
        have HNL := Lib.hid hnL
        clear hA hnL
        obtain ⟨ok, c0, c1, c2⟩ := HA.out _ hb
        try simp only at c0 c1 c2
        obtain ⟨w1, hw1⟩ : ∃ w1, w1 = wr.alloc (.cells #[.int .i64 N, .int .i64 R, .slice AL nL cL] 25) := ⟨_, rfl⟩
        have HP := Lib.hid (box_cells hw1)
        have hb1 : Below w.heap.size w w1 := by rw [hw1]; exact hb.alloc hb.size _
        go_wp2_with fail
        rw [← hw1]
        have hs1 := hb1.size
        obtain ⟨q0, q1, q2⟩ := HP.out _ (Below.refl _ _)
        clear hw1 ok c0 c1 c2
        cases hhv : decide (300 < nL) with
        | true =>
          have HV := Lib.hid hhv
          clear hhv
          go_wp2_with fail
          refine (heavy_any N R AL nL cL _ _ HV.out).mono ?_
          rintro e w2 ⟨rfl, hx2⟩
          go_wp2_with fail
          go_ret
          exact ⟨rfl, Below.up hb1 hs1 hx2⟩
        | false =>
          have hn : nL ≤ 300 := by simpa using hhv
          have HV := Lib.hid hhv
          clear hhv
          go_wp2_with fail
          refine (heavy_any N R AL nL cL _ _ HV.out).mono ?_
          rintro e w2 ⟨rfl, hx2⟩
          clear q0 q1 q2
          obtain ⟨q0, q1, q2⟩ := HP.out _ hx2
          cases hmay : may N with
          | false =>
            have HM := Lib.hid hmay
            clear hmay
            go_wp2_with fail
            refine (enough_no N AL cL nL _ HM.out).mono ?_
            rintro e w' ⟨rfl, rfl⟩
            go_wp2_with fail
            refine (num_any _ _).mono ?_
            rintro e w' ⟨rfl, rfl⟩
            go_wp2_with fail
            go_roundw
            case rel => exact ⟨k + 1, by go_num, by omega, by omega, Below.up hb1 hs1 hx2⟩
            case measure => simp [intOf]; omega
          | true =>
            have HM := Lib.hid hmay
            clear hmay
            obtain ⟨t, ht⟩ : ∃ t, tal N L = t := ⟨_, rfl⟩
            have HT := Lib.hid ht
            have HTB := Lib.hid ((tal_backs (N := N) HNL.out).trans ht)
            clear ht
            obtain ⟨m1, m2, _⟩ := may_yes HM.out
            have u0 : 0 ≤ N / 3 := by omega
            have u1 : N / 3 ≤ 5 := by omega
            obtain ⟨bq, hbq⟩ : ∃ b, decide (2 * (N / 3) + 1 ≤ (t : Int)) = b := ⟨_, rfl⟩
            obtain ⟨bf, hbf⟩ : ∃ b, decide (N / 3 + 1 ≤ (t : Int)) = b := ⟨_, rfl⟩
            have HQ := Lib.hid hbq
            have HF := Lib.hid hbf
            clear hbq hbf
            go_wp2_with fail
            refine (enough_is bq N AL cL nL t L _ HT.out HQ.out HM.out HNL.out ((HA.out _ (Below.up hb1 hs1 hx2)).1.rL) (by omega)).mono ?_
            rintro e w3 ⟨rfl, hc3⟩
            have hx3 := hx2.trans (hc3.mono hx2.size)
            clear hc3 hx2
            clear q0 q1 q2
            obtain ⟨q0, q1, q2⟩ := HP.out _ hx3
            go_wp2_with fail
            refine (num_any _ _).mono ?_
            rintro e w' ⟨rfl, rfl⟩
            go_wp2_with fail
            obtain ⟨g, hg⟩ : ∃ g, g = wr.heap.size := ⟨_, rfl⟩
            rw [← hg] at q0 q1 q2 ⊢
            have HG := Lib.hid hg
            clear hg
            have HP3 : Hid (∀ wX, Below w1.heap.size w1 wX → wX.cell? ⟨g, 0, none⟩ = some (.int .i64 N) ∧ wX.cell? ⟨g, 1, none⟩ = some (.int .i64 R) ∧ wX.cell? ⟨g, 2, none⟩ = some (.slice AL nL cL)) := HG.out ▸ HP.out
            go_loopw [7, 8] (fun v i wz => ∃ j : Nat, i = .int .i64 ((nL : Int) - 1 - (j : Int)) ∧ j ≤ nL ∧ wz.ownsRow w3.heap.size 3 1 v (4 * j) (i64s (backs N L nL j)) ∧ Below w3.heap.size w3 wz) (fun _ i _ => (intOf i + 1).toNat)
            case atStart => exact ⟨0, by go_num, by omega, World.ownsRow_nil _ _ _ _, Below.refl _ _⟩
            case round =>
              obtain ⟨j, rfl, hj, hown, hbz⟩ := hrel
              clear q0 q1 q2
              have hxz := hx3.trans (hbz.mono hx3.size)
              by_cases hjn : j < nL
              · obtain ⟨i, hi⟩ : ∃ i : Nat, nL = i + 1 + j := ⟨nL - 1 - j, by omega⟩
                have e : (nL : Int) - 1 - (j : Int) = (i : Int) := by omega
                have e' : nL - 1 - j = i := by omega
                rw [e]
                have hup : backs N L nL (j + 1) = backs N L nL j ++ [L[i]?.getD 0, L[i]?.getD 0, N + 1 + (i : Int), -(i : Int)] := by rw [backs, e']
                have HUP := Lib.hid hup
                have HIJ := Lib.hid hi
                obtain ⟨p0, p1, p2⟩ := HP3.out _ hxz
                obtain ⟨b', off', hAL, hbl', hcell⟩ := (HA.out _ (Below.up hb1 hs1 hxz)).1.rL.open_ (by rw [i64s_length]; show 0 < L.length; have := HNL.out; omega)
                have hli : i < L.length := by have := HNL.out; omega
                have hc1 := hcell i _ (i64s_at hli)
                obtain ⟨x, hx⟩ : ∃ x, L[i]?.getD 0 = x := ⟨_, rfl⟩
                rw [hx] at hc1 HUP
                simp only at hAL
                subst hAL
                have HC : Hid (∀ wX, Below w1.heap.size w1 wX → wX.cell? ⟨b', off' + i, none⟩ = some (.int .i64 x)) := fun wX hX => by
                  obtain ⟨b2, off2, heq, _, hc⟩ := (HA.out _ (Below.up hb1 hs1 hX)).1.rL.open_ (by rw [i64s_length]; show 0 < L.length; have := HNL.out; omega)
                  simp only at heq
                  cases heq
                  rw [← hx]
                  exact hc i _ (i64s_at hli)
                have i5 : i < nL := by omega
                have i6 : (i : Int) < (nL : Int) := by omega
                have i7 : (0 : Int) ≤ (i : Int) := by omega
                have i8 : (i : Int) ≤ 300 := by omega
                have i9 : ¬ ((i : Int) < 0) := by omega
                clear hup hi e e' hcell hx p1 hli
                go_wp2_with fail
                have s1 : IntKind.i64.wrap (N + 1) = N + 1 := IntWalk.i64_in _ (by omega)
                have s2 : IntKind.i64.wrap (N + 1 + (i : Int)) = N + 1 + (i : Int) := IntWalk.i64_in _ (by omega)
                have s3 : IntKind.i64.wrap (-(i : Int)) = -(i : Int) := IntWalk.i64_in _ (by omega)
                go_region_held3 (fun w' => w'.cell? ⟨g, 0, none⟩ = some (.int .i64 N) ∧ w'.cell? ⟨g, 2, none⟩ = some (.slice (some ⟨b', off', none⟩) nL cL) ∧ w'.cell? ⟨b', off' + i, none⟩ = some (.int .i64 x))
                  (first | assumption | go_keep)
                  ((refine step_app_list _ (by rfl) _ _ _ (by rfl) w3.heap.size 3 (.int .i64 0) 8 Try.underlying23 info_i64 rfl (by decide) _ (4 * j) _ (by rfl) ((hown.alloc _).drew) (some ⟨wr.heap.size, 0, none⟩) 4 4 [.int .i64 x, .int .i64 x, .int .i64 (N + 1 + (i : Int)), .int .i64 (-(i : Int))] (by rfl) (by rfl) ((rd_new wr [.int .i64 x, .int .i64 x, .int .i64 (N + 1 + (i : Int)), .int .i64 (-(i : Int))] _).drew) (by intro u hu; simp at hu; rcases hu with rfl | rfl | rfl <;> rfl) (by omega) (by have := hbz.size; simp; omega) ?_; intro v7 w7 ho7 hb8; have hb9 : Below w3.heap.size w3 w7 := ((hbz.alloc hbz.size _).drew).trans hb8; have hx9 := hx3.trans (hb9.mono hx3.size); have hS7 := And.intro (HP3.out _ hx9).1 (And.intro (HP3.out _ hx9).2.2 (HC.out _ hx9))))
                have ho8 := own_conv (ys := i64s (backs N L nL (j + 1))) (n' := 4 * (j + 1)) ho7 (by rw [HUP.out, i64s_append]; rfl) (by omega)
                clear ho7 hown hb8 hS7 hc1 p0 p2 s1 s2 s3
                go_wp2_with fail
                go_roundw
                case rel => exact ⟨j + 1, by have := HIJ.out; go_num, by omega, ho8, hb9⟩
                case measure => simp [intOf]
              · have hje : j = nL := by omega
                have ez : (nL : Int) - 1 - (j : Int) = -1 := by omega
                rw [ez]
                subst hje
                have hown2 := own_cast (n' := 4 * j) hown rfl
                obtain ⟨A4, d4, rfl, hd4, _, hr4, _, hl4⟩ := own_val hown2
                clear hl4 hown hown2 hbz ez hjn hj
                have HL4 := Lib.hid (backs_length N L j j)
                obtain ⟨q0, q1, q2⟩ := HP3.out _ hxz
                go_wp2_with fail
                refine (enough_is bq N A4 d4 (4 * j) t _ _ HTB.out HQ.out HM.out HL4.out hr4 (by omega)).mono ?_
                rintro e w5 ⟨rfl, hc5⟩
                have hx5 := hxz.trans (hc5.mono hxz.size)
                have hr5 := hr4.below hc5
                clear hc5 hxz hr4 q0 q1 q2
                obtain ⟨q0, q1, q2⟩ := HP3.out _ hx5
                go_wp2_with fail
                refine (some_is bf N AL cL j t L _ HT.out HF.out HM.out HNL.out ((HA.out _ (Below.up hb1 hs1 hx5)).1.rL) (by omega)).mono ?_
                rintro e w6 ⟨rfl, hc6⟩
                have hx6 := hx5.trans (hc6.mono hx5.size)
                have hr6 := hr5.below hc6
                clear hc6 hx5 hr5 q0 q1 q2
                obtain ⟨q0, q1, q2⟩ := HP3.out _ hx6
                go_wp2_with fail
                refine (some_is bf N A4 d4 (4 * j) t _ _ HTB.out HF.out HM.out HL4.out hr6 (by omega)).mono ?_
                rintro e w7 ⟨rfl, hc7⟩
                have hx7 := hx6.trans (hc7.mono hx6.size)
                clear hc7 hx6 hr6 q0 q1 q2
                obtain ⟨q0, q1, q2⟩ := HP3.out _ hx7
                go_wp2_with fail
                refine (num_any _ _).mono ?_
                rintro e w' ⟨rfl, rfl⟩
                go_wp2_with fail
                refine (num_any _ _).mono ?_
                rintro e w' ⟨rfl, rfl⟩
                go_wp2_with fail
                refine (num_any _ _).mono ?_
                rintro e w' ⟨rfl, rfl⟩
                cases bq with
                | false =>
                  go_wp2_with fail
                  go_roundw
                  case rel => exact ⟨k + 1, by go_num, by omega, by omega, Below.up hb1 hs1 hx7⟩
                  case measure => simp [intOf]; omega
                | true =>
                  have hbt : bf = true := by
                    have h1 : 2 * (N / 3) + 1 ≤ (t : Int) := by simpa using HQ.out
                    have h2 := HF.out
                    rw [← h2]; simp; omega
                  subst hbt
                  go_wp2_with fail
                  go_roundw
                  case rel => exact ⟨k + 1, by go_num, by omega, by omega, Below.up hb1 hs1 hx7⟩
                  case measure => simp [intOf]; omega
      · have i1 : (k : Int) < (len : Int) := by omega
        have i2 : ¬ ((k : Int) < 30) := by omega
        go_wp2_with fail
        refine (wakes_any _).mono ?_
        rintro e w' ⟨rfl, rfl⟩
        go_wp2_with fail
        go_ret
        exact ⟨rfl, hb⟩
    · have i1 : ¬ ((k : Int) < (len : Int)) := by omega
      go_wp2_with fail
      refine (wakes_any _).mono ?_
      rintro e w' ⟨rfl, rfl⟩
      go_wp2_with fail
      go_ret
      exact ⟨rfl, hb⟩

set_option maxRecDepth 100000 in
theorem committeeOnce_lifted (os : Os) (started : os.Started) (H : Type) (enc : TypeId × Value → H) :
    ReturnsInHanded {} Try.checked os 8 .any (Rows.committeeOnceSpec.pre6 enc Try.prog Try.f8 Rows.committeeOnceRow.domain false) (Rows.committeeOnceSpec.post enc Try.prog Try.f8 false true false false) := by
  refine returnsInHanded_of_change (C := Try.checked) (by kernel_rfl) started (by kernel_rfl) Try.func8
    (ChangeSpec.witness6 (enc := enc) (C := Try.checked) false ⟨#[], #[.slice none 0 0], []⟩ 8 (by kernel_rfl) (by kernel_rfl) (by kernel_rfl) (by kernel_rfl)) ?_
  intro W base args ds gs before hval0 hW hcnd _
  have hval : ∀ (j : Nat) t v, Try.f8.params[j]? = some t → args[j]? = some v → Value.okWide Try.prog W .any base t v := hval0
  have hW' := hW
  obtain ⟨p, q, hA0, hV, rfl, hfz, hnd⟩ := hW
  have hA : DataW.TrodAll enc Try.prog W 0 (fun _ => true) true Try.f8.params.toList args.toList ds p := hA0
  rw [Try.params8] at hA hval
  obtain ⟨v0, d0, rfl, rfl, h0⟩ := trodAll_one hA
  obtain ⟨rfl, rfl⟩ := trodVars_none hV
  obtain ⟨a0, len, cap, rfl⟩ := okWide_slice Try.underlying22 (hval 0 22 v0 rfl rfl)
  have k0 := h0
  have lt0 : ∀ x ∈ p, x.block < W.heap.size := by obtain ⟨m, hm⟩ := k0; exact DataW.trod_lt m _ _ _ hm
  obtain ⟨fuel, hf⟩ := h0
  clear hA0 hval0
  refine (committeeOnce_walk a0 len cap W (open_asks hf)).mono fun e W' ⟨he, bel⟩ => ?_
  subst he
  exact ⟨_, rfl, _, _, _, [], _, [], hW', trodAll_mk1 (shut_bool Try.underlying4 _), trodAll_mk1 (Below.trod (by kernel_rfl) (by kernel_rfl) (of_decide_eq_true (by kernel_rfl)) k0 bel lt0), rfl, bel.frame _, fun h => by cases h⟩

theorem committeeOnce_holds : Rows.CommitteeOnceSaid :=
  OpenClaim.holds_of_wide 8 Try.f8 rfl rfl rfl rfl rfl rfl rfl ⟨rfl, rfl, rfl, rfl, rfl⟩ rfl rfl rfl rfl rfl (by kernel_rfl) Try.func8 (by kernel_rfl)
    (of_decide_eq_true (by kernel_rfl)) (by unfold Func.isWrapper; first | (rw [if_pos (by decide +kernel)]; kernel_rfl) | (rw [if_neg (by decide +kernel)]; exact ⟨rfl, rfl⟩))
    (fun os started H enc _ => committeeOnce_lifted os started H enc)

end Go.Proofs.Ytoiofpmhniolnaa
