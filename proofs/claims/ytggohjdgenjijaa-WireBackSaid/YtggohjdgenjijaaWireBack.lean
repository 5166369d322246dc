/-
  'WireBack': for every input the law returns true, and its argument reads as it did. 
-/
import Derived.Test.YtggohjdgenjijaaLawKit
namespace Go.Proofs.Ytggohjdgenjijaa
open Go.RowKit Go.ChangeShapes Go.WideShapes Go.ChangeAt

set_option maxRecDepth 100000 in
set_option maxHeartbeats 16000000 in
theorem wireBack_walk (a : Option Addr) (len cap : Nat) (w : World) (ha : Asks w a len cap) :
    Calls Try.prog 6 #[.slice a len cap] w fun e w' => e = .returned (.bool true) ∧ Below w.heap.size w w' := by
  obtain ⟨hl, hm, hi⟩ := ha
  unfold maxLen at hm
  have HI := Lib.hid hi
  clear hi
  go_enter Try.func6, Try.ntmps6
  go_wp2_with fail
  go_loopw [3] (fun i wr => ∃ k : Nat, i = .int .i64 k ∧ k ≤ len ∧ k ≤ 12 ∧ Below w.heap.size w wr) (fun i _ => 12 - (intOf i).toNat)
  case atStart => exact ⟨0, rfl, by omega, by omega, Below.refl _ _⟩
  case round =>
    obtain ⟨k, rfl, hk, hk12, hb⟩ := hrel
    by_cases hlt : k < len
    · by_cases h12 : k < 12
      · have i0 : (0 : Int) ≤ (k : Int) := by omega
        have i1 : (k : Int) < (len : Int) := by omega
        have i2 : (k : Int) < 12 := by omega
        obtain ⟨b, off, ⟨N, AL, cL, L, AN, cN, S, AB, cB, B⟩, nL, nS, nB, rfl, (hnL : L.length = nL), (hnS : S.length = nS), (hnB : B.length = nB), hA⟩ := (HI.out k hlt).all
        have HA := Lib.hid hA
        have HNL := Lib.hid hnL
        have HNS := Lib.hid hnS
        have HNB := Lib.hid hnB
        clear hA hnL hnS hnB
        obtain ⟨ok, c0, c1, c2, c3⟩ := HA.out _ hb
        try simp only at c0 c1 c2 c3
        go_wp2_with fail
        refine (heavy_nums ⟨N, AL, cL, L, AN, cN, S, AB, cB, B⟩ nL nS nB HNL.out HNS.out HNB.out _ ok).mono ?_
        rintro e w1 ⟨hv, rfl, hb1, hlight⟩
        have HLI := Lib.hid hlight
        have hbb := hb.trans (hb1.mono hb.size)
        clear hlight c0 c1 c2 c3 ok hb1 hb
        cases hv with
        | true =>
          go_wp2_with fail
          go_ret
          exact ⟨rfl, hbb⟩
        | false =>
          obtain ⟨(lL : L.length + totT L L.length ≤ 8000), (lB : B.length ≤ 8000), (lS : S.length ≤ 500)⟩ := HLI.out rfl
          rw [HNS.out] at lS
          rw [HNB.out] at lB
          have lT : nL + totT L nL ≤ 8000 := by have := HNL.out; rw [← this]; exact lL
          have lT2 := lL
          clear lL
          clear HLI
          obtain ⟨ok, c0, c1, c2, c3⟩ := HA.out _ hbb
          try simp only at c0 c1 c2 c3
          obtain ⟨Z, hZ⟩ : ∃ Z, Z = putPuts (L.map byt) := ⟨_, rfl⟩
          obtain ⟨g1, g2, g3, g4⟩ := read_texts lT2
          have hf := putPuts_lens lT2
          rw [← hZ] at g1 g2 g3 g4 hf
          obtain ⟨K, hK⟩ : ∃ K, Z.length = K := ⟨_, rfl⟩
          rw [hK] at hf
          have HZE := Lib.hid hZ
          have HZK := Lib.hid hK
          have HG1 := Lib.hid g1
          have HG2 := Lib.hid g2
          have HG3 := Lib.hid g3
          have HBZ := Lib.hid g4
          have HZK1 : Hid ((Z ++ [0]).length = K + 1) := by show (Z ++ [0]).length = K + 1; rw [List.length_append, hK]; rfl
          clear hZ hK g1 g2 g3 g4
          go_wp2_with fail
          refine (put_yes AL cL nL L _ HNL.out ok.rL (by omega) (by rw [← HZE.out, HZK.out]; omega)).mono ?_
          rintro e w4 ⟨v4, rfl, ho4, hb4⟩
          rw [← HZE.out] at ho4
          have hb5 := hbb.trans (hb4.mono hbb.size)
          have ho4b := own_cast ho4 ((u8s_length Z).trans HZK.out)
          obtain ⟨A4, d4, rfl, hd4, hm4, hr4, _, hl4⟩ := own_val ho4b
          clear hl4 ho4 ho4b hb4 hbb
          clear c0 c1 c2 c3 ok
          go_wp2_with fail
          refine (getPuts_any A4 d4 K Z _ HZK.out hr4 HBZ.out hd4 hm4 (by omega)).mono ?_
          rintro e w5 hgot
          rw [HG1.out] at hgot
          obtain ⟨v5, rfl, ho5, hbv⟩ := hgot
          have hb6 := hb5.trans (hbv.mono hb5.size)
          have hr4b := hr4.below hbv
          have ho5b := own_cast ho5 ((strs_length L).trans HNL.out)
          obtain ⟨A5, d5, rfl, hd5, _, hr5, _, hl5⟩ := own_val ho5b
          have HR4 : Hid (∀ wX, Below w5.heap.size w5 wX → Rd wX A4 (u8s Z)) := fun wX h => hr4b.below h
          have HR5 : Hid (∀ wX, Below w5.heap.size w5 wX → Rd wX A5 (strs L)) := fun wX h => hr5.below h
          clear hl5 ho5 ho5b hbv hr4 hb5
          go_wp2_with fail
          refine (copyBytes_any A4 d4 K Z _ HZK.out hr4b hd4 (by omega)).mono ?_
          rintro e w7 ⟨v7, rfl, ho7, hb7⟩
          have hb8 := hb6.trans (hb7.mono hb6.size)
          have hr4c := hr4b.below hb7
          have hr5c := hr5.below hb7
          have ho7b := own_cast ho7 ((u8s_length Z).trans HZK.out)
          have hB7 : w5.heap.size ≤ w7.heap.size := hb7.size
          clear ho7 hr4b hr5
          go_wp2_with (at_builtin; refine wpList_app_one _ rfl _ _ 26 rfl w5.heap.size 5 (.int .u8 0) 1 Try.underlying26 info_u8 rfl (by decide) _ K _ rfl (ho7b.alloc _) w7.heap.size (.int .u8 0) rfl (cell_new _ _ _) rfl (by omega) (by simp; omega) ?_)
          intro v8 w8 ho8 hb9
          have hb8a := hb8.alloc hb8.size (.cells #[.int .u8 0] 5)
          have hb57 : Below w5.heap.size w5 w8 := (hb7.alloc hB7 _).trans hb9
          have hb10 : Below w.heap.size w w8 := hb6.trans (hb57.mono hb6.size)
          have hr4d : Rd w8 A4 (u8s Z) := HR4.out _ hb57
          have hr5d : Rd w8 A5 (strs L) := HR5.out _ hb57
          have ho8b := own_conv (ys := u8s (Z ++ [0])) (n' := K + 1) ho8 (by rw [u8s_append]; rfl) rfl
          obtain ⟨A8, d8, rfl, hd8, hm8, hr8, _, hl8⟩ := own_val ho8b
          clear hl8 ho8 ho8b ho7b hb9 hb8a hb8 hb7 hr4c hr5c hb6 hB7
          go_wp2_with fail
          refine (getPuts_any A8 d8 (K + 1) (Z ++ [0]) _ HZK1.out hr8 (HBZ.out.append (Byts.cons ⟨by decide, by decide⟩ Byts.nil)) hd8 hm8 (by omega)).mono ?_
          rintro e w9 hgot
          rw [HG2.out] at hgot
          obtain ⟨rfl, hb11⟩ := hgot
          have hb12 := hb10.trans (hb11.mono hb10.size)
          have hr4e := hr4d.below hb11
          have hr5e := hr5d.below hb11
          clear hr4d hr5d hr8 hb11 hb57 hb10 HR4 HR5
          obtain ⟨ok, c0, c1, c2, c3⟩ := HA.out _ hb12
          try simp only at c0 c1 c2 c3
          go_wp2_with fail
          refine (num_any _ _).mono ?_
          rintro e w' ⟨rfl, rfl⟩
          go_wp2_with fail
          refine (num_any _ _).mono ?_
          rintro e w' ⟨rfl, rfl⟩
          go_wp2_with fail
          refine (eqStrings_same A5 AL d5 cL nL L _ HNL.out hr5e ok.rL (by omega)).mono ?_
          rintro e w' ⟨rfl, dq, rfl⟩
          go_wp2_with fail
          refine (num_any _ _).mono ?_
          rintro e w' ⟨rfl, rfl⟩
          have hb13 := below_n hb12 dq
          have hr4f : Rd (w9.drewN dq) A4 (u8s Z) := hr4e
          clear hb12 hr4e hr5e
          clear c0 c1 c2 c3 ok
          go_wp2_with fail
          go_loopw [10] (fun i wr => ∃ kk : Nat, i = .int .i64 kk ∧ kk ≤ 2097152 ∧ Rd wr A4 (u8s Z) ∧ Below w.heap.size w wr) (fun i _ => K - (intOf i).toNat)
          case atStart => exact ⟨0, rfl, by omega, hr4f, hb13⟩
          case round =>
            obtain ⟨kk, rfl, hkk, hr4g, hbg⟩ := hrel
            clear hr4f hb13
            by_cases hkt : kk < K
            · have j0 : (0 : Int) ≤ (kk : Int) := by omega
              have j1 : (kk : Int) < (K : Int) := by omega
              have hmd : d4 ≤ 9223372036854775807 := hm4
              have HTK := Lib.hid (HG3.out kk (by rw [HZK.out]; exact hkt))
              have HTL : Hid ((Z.take kk).length = kk) := by have := HZK.out; show (Z.take kk).length = kk; rw [List.length_take]; omega
              have hrt := hr4g.take kk
              rw [show (u8s Z).take kk = u8s (Z.take kk) by simp [u8s, List.map_take]] at hrt
              have HRT := Lib.hid hrt
              clear hrt
              go_wp2_with fail
              refine (getPuts_any A4 d4 kk (Z.take kk) _ HTL.out HRT.out (HBZ.out.take kk) (by omega) hm4 (by omega)).mono ?_
              rintro e w14 hgot
              rw [HTK.out] at hgot
              obtain ⟨rfl, hb14⟩ := hgot
              have hb15 := hbg.trans (hb14.mono hbg.size)
              have hr4h := hr4g.below hb14
              clear hb14 HRT
              go_wp2_with fail
              refine (num_any _ _).mono ?_
              rintro e w' ⟨rfl, rfl⟩
              go_wp2_with fail
              go_roundw
              case rel => exact ⟨kk + 1 + K / 20, by go_num, by omega, hr4h, hb15⟩
              case measure => simp [intOf]; omega
            · have j1 : ¬ ((kk : Int) < (K : Int)) := by omega
              obtain ⟨ok, c0, c1, c2, c3⟩ := HA.out _ hbg
              try simp only at c0 c1 c2 c3
              rcases nats_or_neg S with ⟨L0, hS⟩ | ⟨q, hq⟩
              · subst hS
                have H63 := Lib.hid (nats_lt ok.sN)
                have HL0 : Hid (L0.length = nS) := (nats_length L0).symm.trans HNS.out
                clear HZE HZK HG1 HG2 HG3 HBZ HZK1 hr4g hf hd4 hm4
                obtain ⟨Z2, hZ⟩ : ∃ Z2, Z2 = putNums L0 := ⟨_, rfl⟩
                obtain ⟨g1, g2, g3, g4⟩ := read_nums H63.out (by rw [HL0.out]; exact lS)
                have hf := putNums_lens H63.out (by rw [HL0.out]; exact lS)
                rw [← hZ] at g1 g2 g3 g4 hf
                obtain ⟨K2, hK⟩ : ∃ K2, Z2.length = K2 := ⟨_, rfl⟩
                rw [hK] at hf
                have HZE := Lib.hid hZ
                have HZK := Lib.hid hK
                have HG1 := Lib.hid g1
                have HG2 := Lib.hid g2
                have HG3 := Lib.hid g3
                have HBZ := Lib.hid g4
                have HZK1 : Hid ((Z2 ++ [0]).length = K2 + 1) := by show (Z2 ++ [0]).length = K2 + 1; rw [List.length_append, hK]; rfl
                clear hZ hK g1 g2 g3 g4
                go_wp2_with fail
                refine (nums_yes AN cN nS L0 _ HL0.out ok.rN (by omega) H63.out (by rw [← HZE.out, HZK.out]; omega)).mono ?_
                rintro e w24 ⟨v24, rfl, ho24, hb24⟩
                rw [← HZE.out] at ho24
                have hb25 := hbg.trans (hb24.mono hbg.size)
                have ho24b := own_cast ho24 ((u8s_length Z2).trans HZK.out)
                obtain ⟨A24, d24, rfl, hd4, hm4, hr4, _, hl4⟩ := own_val ho24b
                clear hl4 ho24 ho24b hb24 hbg
                clear c0 c1 c2 c3 ok
                go_wp2_with fail
                refine (num_any _ _).mono ?_
                rintro e w' ⟨rfl, rfl⟩
                go_wp2_with fail
                refine (getNums_any A24 d24 K2 Z2 _ HZK.out hr4 HBZ.out hd4 hm4 (by omega)).mono ?_
                rintro e w5b hgot
                rw [HG1.out] at hgot
                obtain ⟨v5, rfl, ho5, hbv⟩ := hgot
                have hb6 := hb25.trans (hbv.mono hb25.size)
                have hr4b := hr4.below hbv
                have ho5b := own_cast ho5 ((i64s_length _).trans HNS.out)
                obtain ⟨A5, d5, rfl, hd5, _, hr5, _, hl5⟩ := own_val ho5b
                have HR4 : Hid (∀ wX, Below w5b.heap.size w5b wX → Rd wX A24 (u8s Z2)) := fun wX h => hr4b.below h
                have HR5 : Hid (∀ wX, Below w5b.heap.size w5b wX → Rd wX A5 (i64s (nats L0))) := fun wX h => hr5.below h
                clear hl5 ho5 ho5b hbv hr4 hb25
                go_wp2_with fail
                refine (copyBytes_any A24 d24 K2 Z2 _ HZK.out hr4b hd4 (by omega)).mono ?_
                rintro e w7b ⟨v7, rfl, ho7, hb7⟩
                have hb8 := hb6.trans (hb7.mono hb6.size)
                have hr4c := hr4b.below hb7
                have hr5c := hr5.below hb7
                have ho7b := own_cast ho7 ((u8s_length Z2).trans HZK.out)
                have hB7 : w5b.heap.size ≤ w7b.heap.size := hb7.size
                clear ho7 hr4b hr5
                go_wp2_with (at_builtin; refine wpList_app_one _ rfl _ _ 26 rfl w5b.heap.size 5 (.int .u8 0) 1 Try.underlying26 info_u8 rfl (by decide) _ K2 _ rfl (ho7b.alloc _) w7b.heap.size (.int .u8 0) rfl (cell_new _ _ _) rfl (by omega) (by simp; omega) ?_)
                intro v8 w8b ho8 hb9
                have hb8a := hb8.alloc hb8.size (.cells #[.int .u8 0] 5)
                have hb57 : Below w5b.heap.size w5b w8b := (hb7.alloc hB7 _).trans hb9
                have hb10 : Below w.heap.size w w8b := hb6.trans (hb57.mono hb6.size)
                have hr4d : Rd w8b A24 (u8s Z2) := HR4.out _ hb57
                have hr5d : Rd w8b A5 (i64s (nats L0)) := HR5.out _ hb57
                have ho8b := own_conv (ys := u8s (Z2 ++ [0])) (n' := K2 + 1) ho8 (by rw [u8s_append]; rfl) rfl
                obtain ⟨A8, d8, rfl, hd8, hm8, hr8, _, hl8⟩ := own_val ho8b
                clear hl8 ho8 ho8b ho7b hb9 hb8a hb8 hb7 hr4c hr5c hb6 hB7
                go_wp2_with fail
                refine (getNums_any A8 d8 (K2 + 1) (Z2 ++ [0]) _ HZK1.out hr8 (HBZ.out.append (Byts.cons ⟨by decide, by decide⟩ Byts.nil)) hd8 hm8 (by omega)).mono ?_
                rintro e w9b hgot
                rw [HG2.out] at hgot
                obtain ⟨rfl, hb11⟩ := hgot
                have hb12 := hb10.trans (hb11.mono hb10.size)
                have hr4e := hr4d.below hb11
                have hr5e := hr5d.below hb11
                clear hr4d hr5d hr8 hb11 hb57 hb10 HR4 HR5
                obtain ⟨ok, c0, c1, c2, c3⟩ := HA.out _ hb12
                try simp only at c0 c1 c2 c3
                go_wp2_with fail
                refine (num_any _ _).mono ?_
                rintro e w' ⟨rfl, rfl⟩
                go_wp2_with fail
                refine (eqNumbers_same A5 AN d5 cN nS (nats L0) _ HNS.out hr5e ok.rN (by omega)).mono ?_
                rintro e w' ⟨rfl, dq, rfl⟩
                go_wp2_with fail
                refine (num_any _ _).mono ?_
                rintro e w' ⟨rfl, rfl⟩
                have hb13 := below_n hb12 dq
                have hr4f : Rd (w9b.drewN dq) A24 (u8s Z2) := hr4e
                clear hb12 hr4e hr5e
                clear c0 c1 c2 c3 ok
                go_wp2_with fail
                go_loopw [14] (fun i wq => ∃ kk : Nat, i = .int .i64 kk ∧ kk ≤ 2097152 ∧ Rd wq A24 (u8s Z2) ∧ Below w.heap.size w wq) (fun i _ => K2 - (intOf i).toNat)
                case atStart => exact ⟨0, rfl, by omega, hr4f, hb13⟩
                case round =>
                  obtain ⟨kk, rfl, hkk, hr4g, hbg⟩ := hrel
                  clear hr4f hb13
                  by_cases hkt : kk < K2
                  · have j0 : (0 : Int) ≤ (kk : Int) := by omega
                    have j1 : (kk : Int) < (K2 : Int) := by omega
                    have hmd : d24 ≤ 9223372036854775807 := hm4
                    have HTK := Lib.hid (HG3.out kk (by rw [HZK.out]; exact hkt))
                    have HTL : Hid ((Z2.take kk).length = kk) := by have := HZK.out; show (Z2.take kk).length = kk; rw [List.length_take]; omega
                    have hrt := hr4g.take kk
                    rw [show (u8s Z2).take kk = u8s (Z2.take kk) by simp [u8s, List.map_take]] at hrt
                    have HRT := Lib.hid hrt
                    clear hrt
                    go_wp2_with fail
                    refine (getNums_any A24 d24 kk (Z2.take kk) _ HTL.out HRT.out (HBZ.out.take kk) (by omega) hm4 (by omega)).mono ?_
                    rintro e w14b hgot
                    rw [HTK.out] at hgot
                    obtain ⟨rfl, hb14⟩ := hgot
                    have hb15 := hbg.trans (hb14.mono hbg.size)
                    have hr4h := hr4g.below hb14
                    clear hb14 HRT
                    go_wp2_with fail
                    refine (num_any _ _).mono ?_
                    rintro e w' ⟨rfl, rfl⟩
                    go_wp2_with fail
                    go_roundw
                    case rel => exact ⟨kk + 1 + K2 / 20, by go_num, by omega, hr4h, hb15⟩
                    case measure => simp [intOf]; omega
                  · have j1 : ¬ ((kk : Int) < (K2 : Int)) := by omega
                    go_wp2_with fail
                    go_roundw
                    case rel => exact ⟨k + 1, by go_num, by omega, by omega, hbg⟩
                    case measure => simp [intOf]; omega
              · have HQ := Lib.hid hq
                clear hq
                go_wp2_with fail
                refine (nums_no AN cN nS q S _ HNS.out ok.rN (by omega) (fun m hm => (ok.sN m hm).2) HQ.out).mono ?_
                rintro e w' ⟨rfl, rfl⟩
                go_wp2_with fail
                refine (num_any _ _).mono ?_
                rintro e w' ⟨rfl, rfl⟩
                clear c0 c1 c2 c3 ok
                go_wp2_with fail
                go_roundw
                case rel => exact ⟨k + 1, by go_num, by omega, by omega, hbg⟩
                case measure => simp [intOf]; omega
      · have i1 : (k : Int) < (len : Int) := by omega
        have i2 : ¬ ((k : Int) < 12) := by omega
        go_wp2_with fail
        refine (wakes_any _).mono ?_
        rintro e w' ⟨rfl, hbw⟩
        go_wp2_with fail
        go_ret
        exact ⟨rfl, hb.trans (hbw.mono hb.size)⟩
    · have i1 : ¬ ((k : Int) < (len : Int)) := by omega
      go_wp2_with fail
      refine (wakes_any _).mono ?_
      rintro e w' ⟨rfl, hbw⟩
      go_wp2_with fail
      go_ret
      exact ⟨rfl, hb.trans (hbw.mono hb.size)⟩

set_option maxRecDepth 100000 in
theorem wireBack_lifted (os : Os) (started : os.Started) (H : Type) (enc : TypeId × Value → H) :
    ReturnsInHanded {} Try.checked os 6 .any (Rows.wireBackSpec.pre6 enc Try.prog Try.f6 Rows.wireBackRow.domain false) (Rows.wireBackSpec.post enc Try.prog Try.f6 false true false false) := by
  refine returnsInHanded_of_change_sized (C := Try.checked) (by kernel_rfl) started (by kernel_rfl) Try.func6
    (ChangeSpec.witness6 (enc := enc) (C := Try.checked) false ⟨#[], #[.slice none 0 0], []⟩ 8 (by kernel_rfl) (by kernel_rfl) (by kernel_rfl) (by kernel_rfl)) ?_
  intro W base args ds gs before hval0 hW hcnd hsz0 _
  have hval : ∀ (j : Nat) t v, Try.f6.params[j]? = some t → args[j]? = some v → Value.okWide Try.prog W .any base t v := hval0
  have hsz : (DataW.weightsEach Try.prog (Try.f6.params.toList ++ Rows.wireBackSpec.plain.varTypes Try.prog) (ds ++ gs)).all (· ≤ reachBytes) = true := hsz0
  have hW' := hW
  obtain ⟨p, q, hA0, hV, rfl, hfz, hnd⟩ := hW
  have hA : DataW.TrodAll enc Try.prog W 0 (fun _ => true) true Try.f6.params.toList args.toList ds p := hA0
  rw [Try.params6] at hA hval hsz
  obtain ⟨v0, d0, rfl, rfl, h0⟩ := trodAll_one hA
  obtain ⟨rfl, rfl⟩ := trodVars_none hV
  obtain ⟨a0, len, cap, rfl⟩ := okWide_slice Try.underlying22 (hval 0 22 v0 rfl rfl)
  have k0 := h0
  have lt0 : ∀ x ∈ p, x.block < W.heap.size := by obtain ⟨m, hm⟩ := k0; exact DataW.trod_lt m _ _ _ hm
  obtain ⟨fuel, hf⟩ := h0
  have hwt : ∀ n ∈ d0.weights Try.prog 22, n ≤ reachBytes := fun n hn => by
    have h1 := List.all_eq_true.1 hsz n (DataW.weights_mem_each (j := 0) (t := 22) (d := d0) rfl rfl n hn)
    simpa using h1
  clear hA0 hval0 hsz0 hsz
  refine (wireBack_walk a0 len cap W (open_asks hf hwt)).mono fun e W' ⟨he, bel⟩ => ?_
  subst he
  exact ⟨_, rfl, _, _, _, [], _, [], hW', trodAll_mk1 (shut_bool Try.underlying4 _), trodAll_mk1 (Below.trod (by kernel_rfl) (by kernel_rfl) (of_decide_eq_true (by kernel_rfl)) k0 bel lt0), rfl, bel.frame _, fun h => by cases h⟩

theorem wireBack_holds : Rows.WireBackSaid :=
  OpenClaim.holds_of_wide 6 Try.f6 rfl rfl rfl rfl rfl rfl rfl ⟨rfl, rfl, rfl, rfl, rfl⟩ rfl rfl rfl rfl rfl (by kernel_rfl) Try.func6 (by kernel_rfl)
    (of_decide_eq_true (by kernel_rfl)) (by unfold Func.isWrapper; first | (rw [if_pos (by decide +kernel)]; kernel_rfl) | (rw [if_neg (by decide +kernel)]; exact ⟨rfl, rfl⟩))
    (fun os started H enc _ => wireBack_lifted os started H enc)

end Go.Proofs.Ytggohjdgenjijaa
