/-
  'WirePuts': for every input the law returns true, and its argument reads as it did. 
-/
import Derived.Test.YtggohjdgenjijaaLawKit
namespace Go.Proofs.Ytggohjdgenjijaa
open Go.RowKit Go.ChangeShapes Go.WideShapes Go.ChangeAt

set_option maxRecDepth 100000 in
set_option maxHeartbeats 4000000 in
theorem wirePuts_walk (a : Option Addr) (len cap : Nat) (w : World) (ha : Asks w a len cap) :
    Calls Try.prog 4 #[.slice a len cap] w fun e w' => e = .returned (.bool true) ∧ Below w.heap.size w w' := by
  obtain ⟨hl, hm, hi⟩ := ha
  unfold maxLen at hm
  have HI := Lib.hid hi
  clear hi
  go_enter Try.func4, Try.ntmps4
  go_wp2_with fail
  go_loopw [3] (fun i wr => ∃ k : Nat, i = .int .i64 k ∧ k ≤ len ∧ k ≤ 12 ∧ Below w.heap.size w wr) (fun i _ => 12 - (intOf i).toNat)
  case atStart => exact ⟨0, rfl, by omega, by omega, Below.refl _ _⟩
  case round =>
    obtain ⟨k, rfl, hk, hk12, hb⟩ := hrel
    by_cases hlt : k < len
    · by_cases h12 : k < 12
      · have i0 : (0 : Int) ≤ (k : Int) := by omega
        have i1 : (k : Int) < (len : Int) := by omega
        have i2 : (k : Int) < 12 := by omega
        obtain ⟨b, off, ⟨N, AL, cL, L, AN, cN, S, AB, cB, B⟩, nL, nS, nB, rfl, (hnL : L.length = nL), (hnS : S.length = nS), (hnB : B.length = nB), hA⟩ := (HI.out k hlt).all
        have HA := Lib.hid hA
        have HNL := Lib.hid hnL
        have HNS := Lib.hid hnS
        have HNB := Lib.hid hnB
        clear hA hnL hnS hnB
        obtain ⟨ok, c0, c1, c2, c3⟩ := HA.out _ hb
        try simp only at c0 c1 c2 c3
        go_wp2_with fail
        refine (heavy_nums ⟨N, AL, cL, L, AN, cN, S, AB, cB, B⟩ nL nS nB HNL.out HNS.out HNB.out _ ok).mono ?_
        rintro e w1 ⟨hv, rfl, hb1, hlight⟩
        have HLI := Lib.hid hlight
        have hbb := hb.trans (hb1.mono hb.size)
        clear hlight c0 c1 c2 c3 ok hb1 hb
        cases hv with
        | true =>
          go_wp2_with fail
          go_ret
          exact ⟨rfl, hbb⟩
        | false =>
          obtain ⟨(lL : L.length + totT L L.length ≤ 8000), (lB : B.length ≤ 8000), (lS : S.length ≤ 500)⟩ := HLI.out rfl
          rw [HNS.out] at lS
          rw [HNB.out] at lB
          have lT : nL + totT L nL ≤ 8000 := by have := HNL.out; rw [← this]; exact lL
          have lT2 := lL
          clear lL
          clear HLI
          obtain ⟨ok, c0, c1, c2, c3⟩ := HA.out _ hbb
          try simp only at c0 c1 c2 c3
          have HF := Lib.hid (putPuts_len lT2)
          have hHu : ∃ K, (putPuts (L.map byt)).length = K := ⟨_, rfl⟩
          obtain ⟨K, hK⟩ := hHu
          have HK := Lib.hid hK
          clear hK
          have hKf : K ≤ 1048576 := by have := HF.out; rw [HK.out] at this; exact this
          have HPL : Hid ((u8s (putPuts (L.map byt))).length = K) := (u8s_length _).trans HK.out
          go_wp2_with fail
          refine (copyStrings_any AL cL nL L _ HNL.out ok.rL (HNL.out ▸ ok.hL) (by omega)).mono ?_
          rintro e w2 ⟨v2, rfl, ho2, hb2⟩
          have hb3 := hbb.trans (hb2.mono hbb.size)
          have ho2b := own_cast ho2 ((strs_length L).trans HNL.out)
          obtain ⟨A2, d2, rfl, hd2, _, hr2, _, hl2⟩ := own_val ho2b
          clear hb2 ho2 ho2b hl2 hbb
          clear c0 c1 c2 c3 ok
          go_wp2_with fail
          refine (put_yes A2 d2 nL L _ HNL.out hr2 (by omega) HF.out).mono ?_
          rintro e w4 ⟨v4, rfl, ho4, hb4⟩
          have hb5 := hb3.trans (hb4.mono hb3.size)
          have hr2b := hr2.below hb4
          have ho4b := own_more (own_cast ho4 HPL.out) hb3.size
          clear hb4 ho4 hr2 hb3
          obtain ⟨ok, c0, c1, c2, c3⟩ := HA.out _ hb5
          try simp only at c0 c1 c2 c3
          go_wp2_with fail
          refine (rput_yes AL cL nL L _ HNL.out ok.rL (by omega) HF.out).mono ?_
          rintro e w5 ⟨v5, rfl, ho5, hb6⟩
          have hb6b := hb5.trans (hb6.mono hb5.size)
          have ho4c := own_below ho4b hb6
          have ho5b := own_cast ho5 HPL.out
          have hr2c := hr2b.below hb6
          clear hb6 ho5 ho4b hr2b hb5
          clear c0 c1 c2 c3 ok
          obtain ⟨A4, d4, rfl, hd4, _, hr4, _, hl4⟩ := own_val ho4c
          obtain ⟨A5, d5, rfl, hd5, _, hr5, _, hl5⟩ := own_val ho5b
          clear hl4 hl5 ho5b
          obtain ⟨ok, c0, c1, c2, c3⟩ := HA.out _ hb6b
          try simp only at c0 c1 c2 c3
          go_wp2_with fail
          refine (num_any _ _).mono ?_
          rintro e w' ⟨rfl, rfl⟩
          go_wp2_with fail
          refine (eqBytes_same A4 A5 d4 d5 K (putPuts (L.map byt)) _ HK.out hr4 hr5 (by omega)).mono ?_
          rintro e w' ⟨rfl, dq, rfl⟩
          go_wp2_with fail
          refine (eqStrings_same A2 AL d2 cL nL L _ HNL.out (hr2c.drewN _) (ok.rL.drewN _) (by omega)).mono ?_
          rintro e w' ⟨rfl, dr, rfl⟩
          go_wp2_with fail
          refine (spoilBytes_any w.heap.size (.slice A4 K d4) K (putPuts (L.map byt)) _ (own_n ho4c (dq + dr)) hb6b.size (by omega)).mono ?_
          rintro e w6 ⟨rfl, hb7⟩
          have hb3b := (below_n hb6b (dq + dr)).trans hb7
          clear hb6b hb7 hr2c hr4 hr5 ho4c
          clear c0 c1 c2 c3 ok
          obtain ⟨ok, c0, c1, c2, c3⟩ := HA.out _ hb3b
          try simp only at c0 c1 c2 c3
          go_wp2_with fail
          refine (copyBytes_any AB cB nB B _ HNB.out ok.rB (HNB.out ▸ ok.hB) (by omega)).mono ?_
          rintro e wc ⟨vc, rfl, hoc, hbc⟩
          have hbd := hb3b.trans (hbc.mono hb3b.size)
          have hoc1 := own_cast hoc ((u8s_length B).trans HNB.out)
          obtain ⟨Ac, dc, rfl, hdc, hmc, hrc, _, hlc⟩ := own_val hoc1
          clear hlc hoc hoc1 hbc c0 c1 c2 c3 ok
          have hyB := (HA.out _ hbd).1.sB
          simp only at hyB
          go_wp2_with fail
          refine (getPuts_any Ac dc nB B _ HNB.out hrc hyB hdc hmc (by omega)).mono ?_
          rintro e w7 hgot
          cases hgn : getPuts B with
          | none =>
            have HGN := Lib.hid hgn
            rw [hgn] at hgot
            obtain ⟨rfl, hb7⟩ := hgot
            clear hgn
            have hb8 := hbd.trans (hb7.mono hbd.size)
            have hrc1 := hrc.below hb7
            clear hrc hyB
            clear hb7
            obtain ⟨ok, c0, c1, c2, c3⟩ := HA.out _ hb8
            try simp only at c0 c1 c2 c3
            go_wp2_with fail
            refine (rgetPuts_any AB cB nB B _ HNB.out ok.rB ok.sB (HNB.out ▸ ok.hB) ok.mB (by omega)).mono ?_
            rintro e w8 hrgot
            rw [HGN.out] at hrgot
            obtain ⟨v8, rfl, hb9⟩ := hrgot
            have hb10 := hb8.trans (hb9.mono hb8.size)
            have hrc2 := hrc1.below hb9
            clear hrc1
            clear hb9
            clear c0 c1 c2 c3 ok
            obtain ⟨ok, c0, c1, c2, c3⟩ := HA.out _ hb10
            try simp only at c0 c1 c2 c3
            go_wp2_with fail
            refine (num_any _ _).mono ?_
            rintro e w' ⟨rfl, rfl⟩
            go_wp2_with fail
            refine (num_any _ _).mono ?_
            rintro e w' ⟨rfl, rfl⟩
            go_wp2_with fail
            refine (eqBytes_same Ac AB dc cB nB B _ HNB.out hrc2 ok.rB (by omega)).mono ?_
            rintro e w' ⟨rfl, de, rfl⟩
            go_wp2_with fail
            refine (spoilStrings_any w.heap.size (.slice none 0 0) 0 [] _ (own_n (World.ownsRow_nil _ _ _ _) de) hb10.size (by omega)).mono ?_
            rintro e w11 ⟨rfl, hb11⟩
            have hb12 := (below_n hb10 de).trans hb11
            clear hb11
            clear c0 c1 c2 c3 ok
            go_wp2_with fail
            go_roundw
            case rel => exact ⟨k + 1, by go_num, by omega, by omega, hb12⟩
            case measure => simp [intOf]; omega
          | some l =>
            have HGN := Lib.hid hgn
            rw [hgn] at hgot
            obtain ⟨v7, rfl, ho7, hb7⟩ := hgot
            clear hgn
            have hb8 := hbd.trans (hb7.mono hbd.size)
            have ho7b := own_more ho7 hbd.size
            have hrc1 := hrc.below hb7
            clear hrc hyB
            clear hb7 ho7
            obtain ⟨ok, c0, c1, c2, c3⟩ := HA.out _ hb8
            try simp only at c0 c1 c2 c3
            go_wp2_with fail
            refine (rgetPuts_any AB cB nB B _ HNB.out ok.rB ok.sB (HNB.out ▸ ok.hB) ok.mB (by omega)).mono ?_
            rintro e w8 hrgot
            rw [HGN.out] at hrgot
            obtain ⟨v8, rfl, ho8, hb9⟩ := hrgot
            have hb10 := hb8.trans (hb9.mono hb8.size)
            have ho7c := own_below ho7b hb9
            have hrc2 := hrc1.below hb9
            clear hrc1
            clear hb9 ho7b
            clear c0 c1 c2 c3 ok
            have hll : (strs (l.map strOfNums)).length = l.length := by rw [strs_length, List.length_map]
            have ho7d := own_cast ho7c hll
            have ho8d := own_cast ho8 hll
            clear hll ho7c ho8
            obtain ⟨A7, d7, rfl, hd7, _, hr7, _, hl7⟩ := own_val ho7d
            obtain ⟨A8, d8, rfl, hd8, _, hr8, _, hl8⟩ := own_val ho8d
            clear hl7 hl8
            have hlen : l.length ≤ 8000 := by have := countT_le (HA.out _ hb10).1.sB HGN.out; rw [HNB.out] at this; omega
            obtain ⟨ok, c0, c1, c2, c3⟩ := HA.out _ hb10
            try simp only at c0 c1 c2 c3
            go_wp2_with fail
            refine (num_any _ _).mono ?_
            rintro e w' ⟨rfl, rfl⟩
            go_wp2_with fail
            refine (eqStrings_same A7 A8 d7 d8 l.length (l.map strOfNums) _ (List.length_map _) hr7 hr8 (by omega)).mono ?_
            rintro e w' ⟨rfl, dq, rfl⟩
            go_wp2_with fail
            refine (eqBytes_same Ac AB dc cB nB B _ HNB.out (hrc2.drewN _) (ok.rB.drewN _) (by omega)).mono ?_
            rintro e w' ⟨rfl, de, rfl⟩
            go_wp2_with fail
            refine (spoilStrings_any w.heap.size (.slice A7 l.length d7) l.length (l.map strOfNums) _ (own_n ho7d _) hb10.size (by omega)).mono ?_
            rintro e w11 ⟨rfl, hb11⟩
            have hb12 := (below_n hb10 (dq + de)).trans hb11
            clear hb11
            clear c0 c1 c2 c3 ok
            go_wp2_with fail
            go_roundw
            case rel => exact ⟨k + 1, by go_num, by omega, by omega, hb12⟩
            case measure => simp [intOf]; omega
      · have i1 : (k : Int) < (len : Int) := by omega
        have i2 : ¬ ((k : Int) < 12) := by omega
        go_wp2_with fail
        refine (wakes_any _).mono ?_
        rintro e w' ⟨rfl, hbw⟩
        go_wp2_with fail
        go_ret
        exact ⟨rfl, hb.trans (hbw.mono hb.size)⟩
    · have i1 : ¬ ((k : Int) < (len : Int)) := by omega
      go_wp2_with fail
      refine (wakes_any _).mono ?_
      rintro e w' ⟨rfl, hbw⟩
      go_wp2_with fail
      go_ret
      exact ⟨rfl, hb.trans (hbw.mono hb.size)⟩

set_option maxRecDepth 100000 in
theorem wirePuts_lifted (os : Os) (started : os.Started) (H : Type) (enc : TypeId × Value → H) :
    ReturnsInHanded {} Try.checked os 4 .any (Rows.wirePutsSpec.pre6 enc Try.prog Try.f4 Rows.wirePutsRow.domain false) (Rows.wirePutsSpec.post enc Try.prog Try.f4 false true false false) := by
  refine returnsInHanded_of_change_sized (C := Try.checked) (by kernel_rfl) started (by kernel_rfl) Try.func4
    (ChangeSpec.witness6 (enc := enc) (C := Try.checked) false ⟨#[], #[.slice none 0 0], []⟩ 8 (by kernel_rfl) (by kernel_rfl) (by kernel_rfl) (by kernel_rfl)) ?_
  intro W base args ds gs before hval0 hW hcnd hsz0 _
  have hval : ∀ (j : Nat) t v, Try.f4.params[j]? = some t → args[j]? = some v → Value.okWide Try.prog W .any base t v := hval0
  have hsz : (DataW.weightsEach Try.prog (Try.f4.params.toList ++ Rows.wirePutsSpec.plain.varTypes Try.prog) (ds ++ gs)).all (· ≤ reachBytes) = true := hsz0
  have hW' := hW
  obtain ⟨p, q, hA0, hV, rfl, hfz, hnd⟩ := hW
  have hA : DataW.TrodAll enc Try.prog W 0 (fun _ => true) true Try.f4.params.toList args.toList ds p := hA0
  rw [Try.params4] at hA hval hsz
  obtain ⟨v0, d0, rfl, rfl, h0⟩ := trodAll_one hA
  obtain ⟨rfl, rfl⟩ := trodVars_none hV
  obtain ⟨a0, len, cap, rfl⟩ := okWide_slice Try.underlying22 (hval 0 22 v0 rfl rfl)
  have k0 := h0
  have lt0 : ∀ x ∈ p, x.block < W.heap.size := by obtain ⟨m, hm⟩ := k0; exact DataW.trod_lt m _ _ _ hm
  obtain ⟨fuel, hf⟩ := h0
  have hwt : ∀ n ∈ d0.weights Try.prog 22, n ≤ reachBytes := fun n hn => by
    have h1 := List.all_eq_true.1 hsz n (DataW.weights_mem_each (j := 0) (t := 22) (d := d0) rfl rfl n hn)
    simpa using h1
  clear hA0 hval0 hsz0 hsz
  refine (wirePuts_walk a0 len cap W (open_asks hf hwt)).mono fun e W' ⟨he, bel⟩ => ?_
  subst he
  exact ⟨_, rfl, _, _, _, [], _, [], hW', trodAll_mk1 (shut_bool Try.underlying4 _), trodAll_mk1 (Below.trod (by kernel_rfl) (by kernel_rfl) (of_decide_eq_true (by kernel_rfl)) k0 bel lt0), rfl, bel.frame _, fun h => by cases h⟩

theorem wirePuts_holds : Rows.WirePutsSaid :=
  OpenClaim.holds_of_wide 4 Try.f4 rfl rfl rfl rfl rfl rfl rfl ⟨rfl, rfl, rfl, rfl, rfl⟩ rfl rfl rfl rfl rfl (by kernel_rfl) Try.func4 (by kernel_rfl)
    (of_decide_eq_true (by kernel_rfl)) (by unfold Func.isWrapper; first | (rw [if_pos (by decide +kernel)]; kernel_rfl) | (rw [if_neg (by decide +kernel)]; exact ⟨rfl, rfl⟩))
    (fun os started H enc _ => wirePuts_lifted os started H enc)

end Go.Proofs.Ytggohjdgenjijaa
