/-
  'WireNums': for every input the law returns true, and its argument reads as it did. 
-/
import Derived.Test.YtggohjdgenjijaaRegion
namespace Go.Proofs.Ytggohjdgenjijaa
open Go.RowKit Go.ChangeShapes Go.WideShapes Go.ChangeAt

set_option maxRecDepth 100000 in
set_option maxHeartbeats 4000000 in
theorem wireNums_walk (a : Option Addr) (len cap : Nat) (w : World) (ha : Asks w a len cap) :
    Calls Try.prog 3 #[.slice a len cap] w fun e w' => e = .returned (.bool true) ∧ Below w.heap.size w w' := by
  obtain ⟨hl, hm, hi⟩ := ha
  unfold maxLen at hm
  have HI := Lib.hid hi
  clear hi
  go_enter Try.func3, Try.ntmps3
  go_wp2_with fail
  go_loopw [3] (fun i wr => ∃ k : Nat, i = .int .i64 k ∧ k ≤ len ∧ k ≤ 12 ∧ Below w.heap.size w wr) (fun i _ => 12 - (intOf i).toNat)
  case atStart => exact ⟨0, rfl, by omega, by omega, Below.refl _ _⟩
  case round =>
    obtain ⟨k, rfl, hk, hk12, hb⟩ := hrel
    by_cases hlt : k < len
    · by_cases h12 : k < 12
      · have i0 : (0 : Int) ≤ (k : Int) := by omega
        have i1 : (k : Int) < (len : Int) := by omega
        have i2 : (k : Int) < 12 := by omega
        obtain ⟨b, off, ⟨N, AL, cL, L, AN, cN, S, AB, cB, B⟩, nL, nS, nB, rfl, (hnL : L.length = nL), (hnS : S.length = nS), (hnB : B.length = nB), hA⟩ := (HI.out k hlt).all
        have HA := Lib.hid hA
        have HNL := Lib.hid hnL
        have HNS := Lib.hid hnS
        have HNB := Lib.hid hnB
        clear hA hnL hnS hnB
        obtain ⟨ok, c0, c1, c2, c3⟩ := HA.out _ hb
        try simp only at c0 c1 c2 c3
        go_wp2_with fail
        refine (heavy_nums ⟨N, AL, cL, L, AN, cN, S, AB, cB, B⟩ nL nS nB HNL.out HNS.out HNB.out _ ok).mono ?_
        rintro e w1 ⟨hv, rfl, hb1, hlight⟩
        have HLI := Lib.hid hlight
        have hbb := hb.trans (hb1.mono hb.size)
        clear hlight c0 c1 c2 c3 ok hb1 hb
        cases hv with
        | true =>
          go_wp2_with fail
          go_ret
          exact ⟨rfl, hbb⟩
        | false =>
          obtain ⟨(lL : L.length + totT L L.length ≤ 8000), (lB : B.length ≤ 8000), (lS : S.length ≤ 500)⟩ := HLI.out rfl
          rw [HNS.out] at lS
          rw [HNB.out] at lB
          have lT : nL + totT L nL ≤ 8000 := by have := HNL.out; rw [← this]; exact lL
          clear lL
          clear HLI
          obtain ⟨ok, c0, c1, c2, c3⟩ := HA.out _ hbb
          try simp only at c0 c1 c2 c3
          by_cases hneg : N < 0
          · go_wp2_with fail
            refine (num_no N _ hneg).mono ?_
            rintro e w' ⟨rfl, rfl⟩
            go_wp2_with fail
            refine (num_any _ _).mono ?_
            rintro e w' ⟨rfl, rfl⟩
            clear c0 c1 c2 c3 ok
            obtain ⟨ok, c0, c1, c2, c3⟩ := HA.out _ hbb
            try simp only at c0 c1 c2 c3
            go_wp2_with fail
            refine (getNum_any AB cB nB B _ HNB.out ok.rB ok.sB (by omega)).mono ?_
            rintro e w' ⟨rfl, rfl⟩
            clear c0 c1 c2 c3 ok
            cases hgn : gn 0 0 B with
            | none =>
              have HGN := Lib.hid hgn
              clear hgn
              unfold gnVal
              obtain ⟨ok, c0, c1, c2, c3⟩ := HA.out _ hbb
              try simp only at c0 c1 c2 c3
              go_wp2_with fail
              refine (rgetNum_any AB cB nB B _ HNB.out ok.rB ok.sB (by omega)).mono ?_
              rintro e w9 ⟨rfl, hb9⟩
              rw [HGN.out]
              unfold rgnVal
              have hb10 := hbb.trans (hb9.mono hbb.size)
              clear hb9
              clear c0 c1 c2 c3 ok
              go_wp2_with fail
              refine (num_any _ _).mono ?_
              rintro e w' ⟨rfl, rfl⟩
              go_wp2_with fail
              refine (num_any _ _).mono ?_
              rintro e w' ⟨rfl, rfl⟩
              go_wp2_with fail
              go_roundw
              case rel => exact ⟨k + 1, by go_num, by omega, by omega, hb10⟩
              case measure => simp [intOf]; omega
            | some p3 =>
              obtain ⟨m, k3⟩ := p3
              obtain ⟨hn1, hn2, hn3, hn4⟩ := num_back (HA.out _ hbb).1.sB hgn
              have hpos := vnum_pos m
              rw [hn2] at hpos
              have e3 : ((k3 : Int) == 0) = false := by simp; omega
              have e4 : (0 : Int) < (k3 : Int) := by omega
              have HGN := Lib.hid hgn
              clear hgn hn1 hn2 hn3 hpos
              unfold gnVal
              obtain ⟨ok, c0, c1, c2, c3⟩ := HA.out _ hbb
              try simp only at c0 c1 c2 c3
              go_wp2_with fail
              refine (rgetNum_any AB cB nB B _ HNB.out ok.rB ok.sB (by omega)).mono ?_
              rintro e w9 ⟨rfl, hb9⟩
              rw [HGN.out]
              unfold rgnVal
              have hb10 := hbb.trans (hb9.mono hbb.size)
              clear hb9
              clear c0 c1 c2 c3 ok
              go_wp2_with fail
              refine (num_any _ _).mono ?_
              rintro e w' ⟨rfl, rfl⟩
              go_wp2_with fail
              go_roundw
              case rel => exact ⟨k + 1, by go_num, by omega, by omega, hb10⟩
              case measure => simp [intOf]; omega
          · have hN63 := ok.wN
            obtain ⟨n0, hn0⟩ : ∃ n0 : Nat, N = (n0 : Int) := ⟨N.toNat, by omega⟩
            subst hn0
            simp only at hN63
            have h63 : n0 < 9223372036854775808 := by omega
            obtain ⟨K, hK⟩ : ∃ K, (vnum n0).length = K := ⟨_, rfl⟩
            have hK9 := vnum_len_le n0 h63
            rw [hK] at hK9
            have HK := Lib.hid hK
            clear hK hneg
            go_wp2_with fail
            refine (num_yes n0 _ h63).mono ?_
            rintro e w4 ⟨v4, rfl, ho4, hb4⟩
            have hb5 := hbb.trans (hb4.mono hbb.size)
            have ho4b := own_cast ho4 ((u8s_length _).trans HK.out)
            obtain ⟨A4, d4, rfl, hd4, hm4, hr4, _, hl4⟩ := own_val ho4b
            clear hl4 ho4 ho4b hb4 hbb c0 c1 c2 c3 ok
            obtain ⟨ok, c0, c1, c2, c3⟩ := HA.out _ hb5
            try simp only at c0 c1 c2 c3
            have HR4 : Hid (∀ wX, Below w4.heap.size w4 wX → Rd wX A4 (u8s (vnum n0))) := fun wX h => hr4.below h
            have HGP : Hid (gn 0 0 (vnum n0 ++ B) = some (n0, K)) := by
              show gn 0 0 (vnum n0 ++ B) = some (n0, K)
              rw [get_put h63 B, HK.out]
            have HLP : Hid ((vnum n0 ++ B).length = K + nB) := by
              show (vnum n0 ++ B).length = K + nB
              rw [List.length_append, HK.out, HNB.out]
            have hyp := (vnum_byts n0).append ok.sB
            have HNB2 : Hid (nB = (u8s B).length) := by show nB = (u8s B).length; rw [u8s_length]; exact HNB.out.symm
            go_wp2_with fail
            go_region_held3 (fun w' => w'.cell? ⟨b, off + k * 4 + 3, none⟩ = some (.slice AB nB cB))
              (first | assumption | go_keep)
              (first
                | (go_at_call 13; refine (copyBytes_any A4 d4 K (vnum n0) _ HK.out (HR4.out _ (by first | exact Below.refl _ _ | exact (Below.refl _ _).drew | exact below_n (Below.refl _ _) _)) hd4 (by omega)).mono ?_; rintro e w6 ⟨v6, rfl, ho6, hb6⟩; have hb7 : Below w.heap.size w w6 := (by first | exact hb5.trans (hb6.mono hb5.size) | exact hb5.drew.trans (hb6.mono hb5.size)); have hb46 : Below w4.heap.size w4 w6 := (by first | exact hb6 | exact ((Below.refl _ _).drew).trans hb6); have hS6 := (HA.out _ hb7).2.2.2.2; have ho6b := own_cast ho6 ((u8s_length _).trans HK.out))
                | (refine step_app_list _ (by rfl) _ _ _ (by rfl) w4.heap.size 5 (.int .u8 0) 1 Try.underlying26 info_u8 rfl (by decide) _ K _ (by rfl) ho6b AB nB cB (u8s B) (by rfl) HNB2.out ((HA.out _ hb7).1.rB) (u8s_one _) (by omega) (hb46.size) ?_; intro v7 w7 ho7 hb8; have hb47 := hb46.trans hb8; have hb9 : Below w.heap.size w w7 := hb5.trans (hb47.mono hb5.size); have hS7 := (HA.out _ hb9).2.2.2.2; have ho7b := own_conv (ys := u8s (vnum n0 ++ B)) (n' := K + nB) ho7 (u8s_append _ _).symm rfl; obtain ⟨A7, d7, rfl, hd7, hm7, hr7, _, hl7⟩ := own_val ho7b; clear hl7)
                | (go_at_call 12; refine (getNum_is A7 d7 (K + nB) (vnum n0 ++ B) _ n0 K HGP.out HLP.out hr7 hyp (by omega)).mono ?_; rintro e w' ⟨rfl, rfl⟩))
            have hr4c : Rd w7 A4 (u8s (vnum n0)) := HR4.out _ hb47
            clear hb7 hb46 hb8 hb47 hS6 hS7 hr7 ho7 ho6b ho6 hb6 hr4 hb5 hm7 hd7 c0 c1 c2 c3 ok
            obtain ⟨ok, c0, c1, c2, c3⟩ := HA.out _ hb9
            try simp only at c0 c1 c2 c3
            go_wp2_with fail
            refine (num_any _ _).mono ?_
            rintro e w' ⟨rfl, rfl⟩
            go_wp2_with fail
            refine (rnum_any n0 _ h63).mono ?_
            rintro e w12 ⟨v12, rfl, ho12, hb12⟩
            have hb13 := hb9.trans (hb12.mono hb9.size)
            have hr4d := hr4c.below hb12
            have ho12b := own_cast ho12 ((u8s_length _).trans HK.out)
            obtain ⟨A12, d12, rfl, _, _, hr12, _, hl12⟩ := own_val ho12b
            clear hl12 ho12 ho12b hb12 hb9 hr4c
            clear c0 c1 c2 c3 ok
            obtain ⟨ok, c0, c1, c2, c3⟩ := HA.out _ hb13
            try simp only at c0 c1 c2 c3
            go_wp2_with fail
            refine (eqBytes_same A4 A12 d4 d12 K (vnum n0) _ HK.out hr4d hr12 (by omega)).mono ?_
            rintro e w' ⟨rfl, dx, rfl⟩
            have hb14 := below_n hb13 dx
            clear hb13 hr4d hr12
            go_wp2_with fail
            refine (num_any _ _).mono ?_
            rintro e w' ⟨rfl, rfl⟩
            clear c0 c1 c2 c3 ok
            obtain ⟨ok, c0, c1, c2, c3⟩ := HA.out _ hb14
            try simp only at c0 c1 c2 c3
            go_wp2_with fail
            refine (getNum_any AB cB nB B _ HNB.out ok.rB ok.sB (by omega)).mono ?_
            rintro e w' ⟨rfl, rfl⟩
            clear c0 c1 c2 c3 ok
            cases hgn : gn 0 0 B with
            | none =>
              have HGN := Lib.hid hgn
              clear hgn
              unfold gnVal
              obtain ⟨ok, c0, c1, c2, c3⟩ := HA.out _ hb14
              try simp only at c0 c1 c2 c3
              go_wp2_with fail
              refine (rgetNum_any AB cB nB B _ HNB.out ok.rB ok.sB (by omega)).mono ?_
              rintro e w9 ⟨rfl, hb9⟩
              rw [HGN.out]
              unfold rgnVal
              have hb10 := hb14.trans (hb9.mono hb14.size)
              clear hb9
              clear c0 c1 c2 c3 ok
              go_wp2_with fail
              refine (num_any _ _).mono ?_
              rintro e w' ⟨rfl, rfl⟩
              go_wp2_with fail
              refine (num_any _ _).mono ?_
              rintro e w' ⟨rfl, rfl⟩
              go_wp2_with fail
              go_roundw
              case rel => exact ⟨k + 1, by go_num, by omega, by omega, hb10⟩
              case measure => simp [intOf]; omega
            | some p3 =>
              obtain ⟨m, k3⟩ := p3
              obtain ⟨hn1, hn2, hn3, hn4⟩ := num_back (HA.out _ hb14).1.sB hgn
              have hpos := vnum_pos m
              rw [hn2] at hpos
              have e3 : ((k3 : Int) == 0) = false := by simp; omega
              have e4 : (0 : Int) < (k3 : Int) := by omega
              have HGN := Lib.hid hgn
              clear hgn hn1 hn2 hn3 hpos
              unfold gnVal
              obtain ⟨ok, c0, c1, c2, c3⟩ := HA.out _ hb14
              try simp only at c0 c1 c2 c3
              go_wp2_with fail
              refine (rgetNum_any AB cB nB B _ HNB.out ok.rB ok.sB (by omega)).mono ?_
              rintro e w9 ⟨rfl, hb9⟩
              rw [HGN.out]
              unfold rgnVal
              have hb10 := hb14.trans (hb9.mono hb14.size)
              clear hb9
              clear c0 c1 c2 c3 ok
              go_wp2_with fail
              refine (num_any _ _).mono ?_
              rintro e w' ⟨rfl, rfl⟩
              go_wp2_with fail
              go_roundw
              case rel => exact ⟨k + 1, by go_num, by omega, by omega, hb10⟩
              case measure => simp [intOf]; omega
      · have i1 : (k : Int) < (len : Int) := by omega
        have i2 : ¬ ((k : Int) < 12) := by omega
        go_wp2_with fail
        refine (wakes_any _).mono ?_
        rintro e w' ⟨rfl, hbw⟩
        go_wp2_with fail
        go_ret
        exact ⟨rfl, hb.trans (hbw.mono hb.size)⟩
    · have i1 : ¬ ((k : Int) < (len : Int)) := by omega
      go_wp2_with fail
      refine (wakes_any _).mono ?_
      rintro e w' ⟨rfl, hbw⟩
      go_wp2_with fail
      go_ret
      exact ⟨rfl, hb.trans (hbw.mono hb.size)⟩

set_option maxRecDepth 100000 in
theorem wireNums_lifted (os : Os) (started : os.Started) (H : Type) (enc : TypeId × Value → H) :
    ReturnsInHanded {} Try.checked os 3 .any (Rows.wireNumsSpec.pre6 enc Try.prog Try.f3 Rows.wireNumsRow.domain false) (Rows.wireNumsSpec.post enc Try.prog Try.f3 false true false false) := by
  refine returnsInHanded_of_change_sized (C := Try.checked) (by kernel_rfl) started (by kernel_rfl) Try.func3
    (ChangeSpec.witness6 (enc := enc) (C := Try.checked) false ⟨#[], #[.slice none 0 0], []⟩ 8 (by kernel_rfl) (by kernel_rfl) (by kernel_rfl) (by kernel_rfl)) ?_
  intro W base args ds gs before hval0 hW hcnd hsz0 _
  have hval : ∀ (j : Nat) t v, Try.f3.params[j]? = some t → args[j]? = some v → Value.okWide Try.prog W .any base t v := hval0
  have hsz : (DataW.weightsEach Try.prog (Try.f3.params.toList ++ Rows.wireNumsSpec.plain.varTypes Try.prog) (ds ++ gs)).all (· ≤ reachBytes) = true := hsz0
  have hW' := hW
  obtain ⟨p, q, hA0, hV, rfl, hfz, hnd⟩ := hW
  have hA : DataW.TrodAll enc Try.prog W 0 (fun _ => true) true Try.f3.params.toList args.toList ds p := hA0
  rw [Try.params3] at hA hval hsz
  obtain ⟨v0, d0, rfl, rfl, h0⟩ := trodAll_one hA
  obtain ⟨rfl, rfl⟩ := trodVars_none hV
  obtain ⟨a0, len, cap, rfl⟩ := okWide_slice Try.underlying22 (hval 0 22 v0 rfl rfl)
  have k0 := h0
  have lt0 : ∀ x ∈ p, x.block < W.heap.size := by obtain ⟨m, hm⟩ := k0; exact DataW.trod_lt m _ _ _ hm
  obtain ⟨fuel, hf⟩ := h0
  have hwt : ∀ n ∈ d0.weights Try.prog 22, n ≤ reachBytes := fun n hn => by
    have h1 := List.all_eq_true.1 hsz n (DataW.weights_mem_each (j := 0) (t := 22) (d := d0) rfl rfl n hn)
    simpa using h1
  clear hA0 hval0 hsz0 hsz
  refine (wireNums_walk a0 len cap W (open_asks hf hwt)).mono fun e W' ⟨he, bel⟩ => ?_
  subst he
  exact ⟨_, rfl, _, _, _, [], _, [], hW', trodAll_mk1 (shut_bool Try.underlying4 _), trodAll_mk1 (Below.trod (by kernel_rfl) (by kernel_rfl) (of_decide_eq_true (by kernel_rfl)) k0 bel lt0), rfl, bel.frame _, fun h => by cases h⟩

theorem wireNums_holds : Rows.WireNumsSaid :=
  OpenClaim.holds_of_wide 3 Try.f3 rfl rfl rfl rfl rfl rfl rfl ⟨rfl, rfl, rfl, rfl, rfl⟩ rfl rfl rfl rfl rfl (by kernel_rfl) Try.func3 (by kernel_rfl)
    (of_decide_eq_true (by kernel_rfl)) (by unfold Func.isWrapper; first | (rw [if_pos (by decide +kernel)]; kernel_rfl) | (rw [if_neg (by decide +kernel)]; exact ⟨rfl, rfl⟩))
    (fun os started H enc _ => wireNums_lifted os started H enc)

end Go.Proofs.Ytggohjdgenjijaa
