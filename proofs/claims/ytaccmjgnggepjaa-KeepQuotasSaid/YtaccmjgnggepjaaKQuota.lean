/-
  A key, and a value, as long as may be are taken, one byte longer is refused: the walk.
-/
import Derived.Test.YtaccmjgnggepjaaKZM
import Derived.Test.YtaccmjgnggepjaaKScr
import Derived.Test.YtaccmjgnggepjaaKZN
namespace Go.Proofs.Ytaccmjgnggepjaa
open Go.RowKit

section
variable {q val : ByteArray}
theorem check_bad {l : List PP} {k v : ByteArray} (h : ¬ (1 ≤ k.size ∧ k.size ≤ 32 ∧ k.size + v.size ≤ 4032)) : checkP l k v = 1 := by rw [checkP, if_pos h]
theorem lt_zero {q : ByteArray} (hq : q.data.toList = List.replicate 32 0) : ltN q bA1 = true := by
  unfold ltN
  rw [Lib.toList_data, Lib.toList_data, hq]
  rfl
theorem rep_data (n : Nat) : (strOfNums (List.replicate n 0)).data.toList = List.replicate n 0 := by
  simp [strOfNums]
theorem q_put (hq : q.size = 32) (hv : val.size = 4000) : setP [] q val = [(q, val)] ∧ checkP [] q val = 0 := by
  have e : setP [] q val = [(q, val)] := rfl
  refine ⟨e, checkP_of (k := q) (v := val) ⟨by show 1 ≤ q.size; omega, by show q.size ≤ 32; omega, by show q.size + val.size ≤ 4032; omega⟩ ?_⟩
  rw [e]
  simp [sizeP, cntP]
  omega
theorem q_put2 (hq : q.size = 32) (hv : val.size = 4000) (hl : ltN q bA1 = true) : setP [(q, val)] bA1 ByteArray.empty = [(q, val), (bA1, ByteArray.empty)] ∧ checkP [(q, val)] bA1 ByteArray.empty = 0 := by
  have e : setP [(q, val)] bA1 ByteArray.empty = [(q, val), (bA1, ByteArray.empty)] := set_end (p := (bA1, ByteArray.empty)) (l := [(q, val)]) fun a ha => by
    simp [keysP] at ha
    rw [ha]
    exact hl
  refine ⟨e, checkP_of (k := bA1) (v := ByteArray.empty) ⟨by decide, by decide, by decide⟩ ?_⟩
  rw [e]
  have h1 : bA1.size = 1 := rfl
  have h2 : ByteArray.empty.size = 0 := rfl
  simp only [sizeP, cntP, h1, h2]
  omega
theorem q_rise (hl : ltN q bA1 = true) : RiseN (keysP [(q, val), (bA1, ByteArray.empty)]) := by
  show List.Pairwise _ [q, bA1]
  simp [hl]
theorem q_drop (hq : q.size = 32) (hl : ltN q bA1 = true) : dropE [(q, val), (bA1, ByteArray.empty)] q = 0 ∧ delP [(q, val), (bA1, ByteArray.empty)] q = [(bA1, ByteArray.empty)] := by
  obtain ⟨h1, h2⟩ := hasN_of (q_rise (val := val) hl) (j := 0) (s := q) rfl
  have h3 : hasP [(q, val), (bA1, ByteArray.empty)] q = true := h1
  have h4 : posP [(q, val), (bA1, ByteArray.empty)] q = 0 := h2
  refine ⟨?_, ?_⟩
  · rw [dropE, if_neg (fun hn => hn ⟨by omega, by omega⟩), if_neg (by rw [h3]; decide)]
  · rw [delP, if_pos h3, h4]
    rfl
end

set_option maxRecDepth 100000 in
set_option maxHeartbeats 8000000 in
theorem keepQuotas_walk {K : LogK} (hK : LogC K) (hE : LogE K) (hP : LogP K) (s : ScrW) (w : World) : Calls Try.prog 5 #[scrVW s] w (Tells w.heap.size w (.bool true)) := by
  obtain ⟨w1, hw1⟩ : ∃ w1, w1 = w.alloc (.cells #[.slice s.AL s.nL s.cL, .slice s.AO s.nO s.cO] 25) := ⟨_, rfl⟩
  have hb1 : Below w.heap.size w w1 := by rw [hw1]; exact (Below.refl _ _).alloc (Nat.le_refl _) _
  have bx1 : Box w1 w.heap.size (scrCW s) := by rw [hw1]; exact box_new w (scrCW s) 25
  have HW := Lib.hid hw1
  obtain ⟨nL, hnL⟩ : ∃ nL, s.nL = nL := ⟨_, rfl⟩
  have HC0 : Hid (∀ wX, Below w1.heap.size w1 wX → wX.cell? ⟨w.heap.size, 0, none⟩ = some (.slice s.AL nL s.cL)) := fun wX h => by rw [← hnL]; exact (bx1.below h bx1.1).2 0 _ rfl
  have fin : ∀ wX, Below w1.heap.size w1 wX → Calls Try.prog 17 #[] wX (Tells w.heap.size w (.bool true)) := fun wX hX => (wakesK_any hK hE hP wX).mono fun e w' hh => ⟨hh.1, hb1.trans ((hX.trans (hh.2.mono hX.size)).mono hb1.size)⟩
  have HFIN := Lib.hid fin
  clear hw1 bx1 hnL fin hb1
  unfold scrVW
  go_enter Try.func5, Try.ntmps5
  go_upto_region 1 with fail
  rw [← HW.out]
  go_wp2_with fail
  refine (diskG_any _).mono ?_
  rintro e w3 ⟨gd, rfl, hd3, hb3⟩
  have HD3 := Lib.hid hd3
  clear hd3
  go_wp2_with fail
  refine (live_open (hP := hP) hK hE HD3.out hb3.size (ready_new hP) rfl).mono ?_
  rintro e w4' ⟨gk, rfl, hl4', hb4'⟩
  have HL4' := Lib.hid hl4'
  have hb4x := hb3.trans hb4'
  clear hl4' hb3 hb4'
  go_wp2_with fail
  refine (num11_any _ _).mono ?_
  rintro e w' ⟨rfl, rfl⟩
  obtain ⟨w5', hmk, hr5, hb5'⟩ := make_q w4' 32 (by omega)
  rw [show ((32 : Nat) : Int) = 32 from rfl] at hmk
  have hcv := conv_rdG w5' (zs := List.replicate 32 0) (n := 32) List.length_replicate (by omega) hr5 32
  have hqs := strOfNums_size (List.replicate 32 0)
  rw [List.length_replicate] at hqs
  have hqd := rep_data 32
  obtain ⟨q, hq⟩ : ∃ q, q = strOfNums (List.replicate 32 0) := ⟨_, rfl⟩
  rw [← hq] at hcv hqs hqd
  obtain ⟨w6', hmk2, hr6, hb6'⟩ := make_q w5' 4000 (by omega)
  rw [show ((4000 : Nat) : Int) = 4000 from rfl] at hmk2
  have hcv2 := conv_rdG w6' (zs := List.replicate 4000 0) (n := 4000) List.length_replicate (by omega) hr6 4000
  have hvs := strOfNums_size (List.replicate 4000 0)
  rw [List.length_replicate] at hvs
  obtain ⟨val, hval⟩ : ∃ val, val = strOfNums (List.replicate 4000 0) := ⟨_, rfl⟩
  rw [← hval] at hcv2 hvs
  have hb46 := hb5'.trans (hb6'.mono hb5'.size)
  obtain ⟨w4, hw4⟩ : ∃ w4, w4 = w6' := ⟨_, rfl⟩
  rw [← hw4] at hb46 hmk2 hcv2
  have HL4 := Lib.hid (HL4'.out.below hK hb46)
  have hb4 := hb4x.trans (hb46.mono HL4'.out.lo)
  clear hq hval hr5 hr6 hb5' hb6' hw4 hb46
  have hxs : (⟨#[120]⟩ : ByteArray).size = 1 := rfl
  have ht1 : (q ++ (⟨#[120]⟩ : ByteArray)).size = 33 := by rw [ByteArray.size_append, hqs, hxs]
  have ht2 : (val ++ (⟨#[120]⟩ : ByteArray)).size = 4001 := by rw [ByteArray.size_append, hvs, hxs]
  obtain ⟨t1, ht1e⟩ : ∃ t1, q ++ (⟨#[120]⟩ : ByteArray) = t1 := ⟨_, rfl⟩
  obtain ⟨t2, ht2e⟩ : ∃ t2, val ++ (⟨#[120]⟩ : ByteArray) = t2 := ⟨_, rfl⟩
  rw [ht1e] at ht1
  rw [ht2e] at ht2
  have hl := lt_zero hqd
  have P1 : Hid (checkP [] t1 ByteArray.empty = 1) := check_bad (by omega)
  have P2 : Hid (checkP [] ByteArray.empty ByteArray.empty = 1) := check_bad (by decide)
  have P3 : Hid (checkP [] q t2 = 1) := check_bad (by omega)
  have P4 : Hid (strs (keysP []) = []) := rfl
  have P5 : Hid (dropE [] ByteArray.empty = 1) := by show dropE _ _ = 1; rw [dropE, if_pos (by decide)]
  have P6 : Hid (dropE [] bA1 = 3) := by show dropE _ _ = 3; rw [dropE, if_neg (by decide), if_pos (show hasP [] bA1 = false from rfl)]
  have P7 : Hid (checkP [] q val = 0) := (q_put hqs hvs).2
  have P8 : Hid (setP [] q val = [(q, val)]) := (q_put hqs hvs).1
  have P9 : Hid (checkP [(q, val)] bA1 ByteArray.empty = 0) := (q_put2 hqs hvs hl).2
  have PA : Hid (setP [(q, val)] bA1 ByteArray.empty = [(q, val), (bA1, ByteArray.empty)]) := (q_put2 hqs hvs hl).1
  have PB : Hid (getP [(q, val), (bA1, ByteArray.empty)] q = (val, 0)) := get_at (q_rise hl) (j := 0) rfl
  have PC : Hid (getP [(q, val), (bA1, ByteArray.empty)] bA1 = (ByteArray.empty, 0)) := get_at (q_rise hl) (j := 1) rfl
  have PD2 : Hid (strs (keysP [(q, val), (bA1, ByteArray.empty)]) = strs [q, bA1]) := rfl
  have PE : Hid (dropE [(q, val), (bA1, ByteArray.empty)] q = 0) := (q_drop hqs hl).1
  have PF2 : Hid (delP [(q, val), (bA1, ByteArray.empty)] q = [(bA1, ByteArray.empty)]) := (q_drop hqs hl).2
  have PG : Hid (strs (keysP [(bA1, ByteArray.empty)]) = strs [bA1]) := rfl
  have HT2 := Lib.hid ht2
  have HVS := Lib.hid hvs
  have j1 : (ByteArray.empty.toList == []) = true := by rw [Lib.toList_data]; rfl
  have j2 : ByteArray.empty.toList = [] := by rw [Lib.toList_data]; rfl
  clear hl hqd ht1 ht2
  go_wp2_with fail
  refine (live_put hK hE t1 ByteArray.empty HL4.out (by omega) (by decide)).mono ?_
  rintro e w5 ⟨he, hl5, hb5'⟩
  rw [P1.out] at he hl5
  rw [if_neg (by decide)] at hl5
  subst he
  have HL5 := Lib.hid hl5
  have hb5 := hb4.trans hb5'
  clear hl5 hb5'
  go_wp2_with fail
  refine (num11_any _ _).mono ?_
  rintro e w' ⟨rfl, rfl⟩
  go_wp2_with fail
  refine (live_put hK hE ByteArray.empty ByteArray.empty HL5.out (by omega) (by decide)).mono ?_
  rintro e w6 ⟨he, hl6, hb6'⟩
  rw [P2.out] at he hl6
  rw [if_neg (by decide)] at hl6
  subst he
  have HL6 := Lib.hid hl6
  have hb6 := hb5.trans hb6'
  clear hl6 hb6'
  go_wp2_with fail
  refine (num11_any _ _).mono ?_
  rintro e w' ⟨rfl, rfl⟩
  go_wp2_with fail
  refine (live_put hK hE q t2 HL6.out (by omega) (by rw [HT2.out]; omega)).mono ?_
  rintro e w7 ⟨he, hl7, hb7'⟩
  rw [P3.out] at he hl7
  rw [if_neg (by decide)] at hl7
  subst he
  have HL7 := Lib.hid hl7
  have hb7 := hb6.trans hb7'
  clear hl7 hb7'
  go_wp2_with fail
  refine (num11_any _ _).mono ?_
  rintro e w' ⟨rfl, rfl⟩
  go_wp2_with fail
  refine (live_keys hK HL7.out).mono ?_
  rintro e w8 ⟨v8, rfl, ho8, hb8'⟩
  rw [P4.out] at ho8
  obtain ⟨A8, c8, rfl, _, _, hr8, _, _⟩ := own_val (own_cast ho8 (show _ = 0 from rfl))
  have HL8 := Lib.hid (HL7.out.below hK hb8')
  have hb8 := hb7.trans (hb8'.mono HL7.out.lo)
  clear ho8 hb8'
  go_wp2_with fail
  refine (live_drop hK hE ByteArray.empty HL8.out (by omega)).mono ?_
  rintro e w9 ⟨he, hl9, hb9'⟩
  rw [P5.out] at he hl9
  rw [if_neg (by decide)] at hl9
  subst he
  have HL9 := Lib.hid hl9
  have hb9 := hb8.trans hb9'
  clear hl9 hb9'
  go_wp2_with fail
  refine (num11_any _ _).mono ?_
  rintro e w' ⟨rfl, rfl⟩
  go_wp2_with fail
  refine (live_drop hK hE bA1 HL9.out (by omega)).mono ?_
  rintro e w10 ⟨he, hl10, hb10'⟩
  rw [P6.out] at he hl10
  rw [if_neg (by decide)] at hl10
  subst he
  have HL10 := Lib.hid hl10
  have hb10 := hb9.trans hb10'
  clear hl10 hb10'
  go_wp2_with fail
  refine (num11_any _ _).mono ?_
  rintro e w' ⟨rfl, rfl⟩
  go_wp2_with fail
  refine (live_put hK hE q val HL10.out (by omega) (by rw [HVS.out]; omega)).mono ?_
  rintro e w11 ⟨he, hl11, hb11'⟩
  rw [P7.out] at he hl11
  rw [if_pos rfl, P8.out] at hl11
  subst he
  have HL11 := Lib.hid hl11
  have hb11 := hb10.trans hb11'
  clear hl11 hb11'
  go_wp2_with fail
  refine (num11_any _ _).mono ?_
  rintro e w' ⟨rfl, rfl⟩
  go_wp2_with fail
  refine (live_put hK hE bA1 ByteArray.empty HL11.out (by omega) (by decide)).mono ?_
  rintro e w12 ⟨he, hl12, hb12'⟩
  rw [P9.out] at he hl12
  rw [if_pos rfl, PA.out] at hl12
  subst he
  have HL12 := Lib.hid hl12
  have hb12 := hb11.trans hb12'
  clear hl12 hb12'
  go_wp2_with fail
  refine (num11_any _ _).mono ?_
  rintro e w' ⟨rfl, rfl⟩
  go_wp2_with fail
  refine (live_get hK q HL12.out).mono ?_
  rintro e w13 ⟨he, hb13'⟩
  rw [PB.out] at he
  subst he
  have HL13 := Lib.hid (HL12.out.below hK hb13')
  have hb13 := hb12.trans (hb13'.mono HL12.out.lo)
  clear hb13'
  go_wp2_with fail
  refine (live_get hK bA1 HL13.out).mono ?_
  rintro e w14 ⟨he, hb14'⟩
  rw [PC.out] at he
  subst he
  have HL14 := Lib.hid (HL13.out.below hK hb14')
  have hb14 := hb13.trans (hb14'.mono HL13.out.lo)
  clear hb14'
  go_wp2_with fail
  refine (num11_any _ _).mono ?_
  rintro e w' ⟨rfl, rfl⟩
  go_wp2_with fail
  refine (num11_any _ _).mono ?_
  rintro e w' ⟨rfl, rfl⟩
  go_wp2_with fail
  refine (live_keys hK HL14.out).mono ?_
  rintro e w15 ⟨v15, rfl, ho15, hb15'⟩
  rw [PD2.out] at ho15
  obtain ⟨A15, c15, rfl, _, _, hr15, _, _⟩ := own_val (own_cast ho15 (show _ = 2 from rfl))
  have HL15 := Lib.hid (HL14.out.below hK hb15')
  have hb15 := hb14.trans (hb15'.mono HL14.out.lo)
  clear ho15 hb15'
  go_wp2_with fail
  obtain ⟨w16, hw16⟩ : ∃ w16, w16 = w15.alloc (.cells #[.string q, .string ⟨#[97]⟩] 9) := ⟨_, rfl⟩
  have hb16' : Below w15.heap.size w15 w16 := by rw [hw16]; exact (Below.refl _ _).alloc (Nat.le_refl _) _
  have hr16 : Rd w16 (some ⟨w15.heap.size, 0, none⟩) (strs [q, bA1]) := by rw [hw16]; exact rd_new w15 (strs [q, bA1]) _
  rw [← hw16]
  clear hw16
  refine (eqStrings_same A15 (some ⟨w15.heap.size, 0, none⟩) c15 2 2 [q, bA1] _ rfl (hr15.below hb16') hr16 (by omega)).mono ?_
  rintro e w17 ⟨rfl, d17, hw17⟩
  have hb17' : Below w15.heap.size w15 w17 := by rw [hw17]; exact below_n hb16' d17
  have HL17 := Lib.hid (HL15.out.below hK hb17')
  have hb17 := hb15.trans (hb17'.mono HL15.out.lo)
  clear hr15 hr16 hb16' hb17' hw17
  go_wp2_with fail
  refine (live_drop hK hE q HL17.out (by omega)).mono ?_
  rintro e w18 ⟨he, hl18, hb18'⟩
  rw [PE.out] at he hl18
  rw [if_pos rfl, PF2.out] at hl18
  subst he
  have HL18 := Lib.hid hl18
  have hb18 := hb17.trans hb18'
  clear hl18 hb18'
  go_wp2_with fail
  refine (num11_any _ _).mono ?_
  rintro e w' ⟨rfl, rfl⟩
  go_wp2_with fail
  refine (live_keys hK HL18.out).mono ?_
  rintro e w19 ⟨v19, rfl, ho19, hb19'⟩
  rw [PG.out] at ho19
  obtain ⟨A19, c19, rfl, _, _, hr19, _, _⟩ := own_val (own_cast ho19 (show _ = 1 from rfl))
  have HL19 := Lib.hid (HL18.out.below hK hb19')
  have hb19 := hb18.trans (hb19'.mono HL18.out.lo)
  clear ho19 hb19'
  go_wp2_with fail
  obtain ⟨w20, hw20⟩ : ∃ w20, w20 = w19.alloc (.cells #[.string ⟨#[97]⟩] 9) := ⟨_, rfl⟩
  have hb20' : Below w19.heap.size w19 w20 := by rw [hw20]; exact (Below.refl _ _).alloc (Nat.le_refl _) _
  have hr20 : Rd w20 (some ⟨w19.heap.size, 0, none⟩) (strs [bA1]) := by rw [hw20]; exact rd_new w19 (strs [bA1]) _
  rw [← hw20]
  clear hw20
  refine (eqStrings_same A19 (some ⟨w19.heap.size, 0, none⟩) c19 1 1 [bA1] _ rfl (hr19.below hb20') hr20 (by omega)).mono ?_
  rintro e w21 ⟨rfl, d21, hw21⟩
  have hb21' : Below w19.heap.size w19 w21 := by rw [hw21]; exact below_n hb20' d21
  have HL21 := Lib.hid (HL19.out.below hK hb21')
  have hb21 := hb19.trans (hb21'.mono HL19.out.lo)
  clear hr19 hr20 hb20' hb21' hw21
  have c0 := HC0.out _ hb21
  have i9 : (0 : Int) ≤ (nL : Int) := by omega
  go_wp2_with fail
  refine (HFIN.out _ hb21).mono ?_
  rintro e w99 ⟨rfl, hb99⟩
  go_wp2_with fail
  go_ret
  exact ⟨rfl, hb99⟩

end Go.Proofs.Ytaccmjgnggepjaa
