/-
  A file that is renamed is there by its new name alone; removed it is gone; all at once: the walk.
-/
import Derived.Test.YtejfilphnebckaaDEq
import Derived.Test.YtejfilphnebckaaDNames
namespace Go.Proofs.Ytejfilphnebckaa
open Go.RowKit

def bB : ByteArray := ⟨#[98]⟩
def oldL : List Int := [111, 108, 100]
theorem old_byts : Byts oldL := fun x hx => by
  simp [oldL] at hx
  rcases hx with rfl | rfl | rfl <;> exact ⟨by decide, by decide⟩
theorem may_two (zs : List Int) (h : zs.length ≤ 1048576) : mayB [(bA, zs), (bB, oldL)] = true := by
  have h1 : okName bA = true := by decide +kernel
  have h2 : okName bB = true := by decide +kernel
  have h3 : ltN bA bB = true := by decide +kernel
  refine mayB_yes (by simp) fun i hi => ?_
  have hi2 : i < 2 := hi
  rcases (show i = 0 ∨ i = 1 by omega) with rfl | rfl
  · simp [okAt, h1, h]
  · simp [okAt, h2, h3, oldL]
theorem mv_one (zs : List Int) : dRename (dNew [(bA, zs), (bB, oldL)]) bA bB = (⟨[⟨bB, zs, zs⟩], 1, 0, false⟩, 0) := by kernel_rfl
theorem mv_two (zs : List Int) : dRename ⟨[⟨bB, zs, zs⟩], 1, 0, false⟩ bA bB = (⟨[⟨bB, zs, zs⟩], 2, 0, false⟩, 3) := by kernel_rfl
theorem mv_three (zs : List Int) : dRename ⟨[⟨bB, zs, zs⟩], 2, 0, false⟩ bB bB = (⟨[⟨bB, zs, zs⟩], 3, 0, false⟩, 0) := by kernel_rfl
theorem mv_four (zs : List Int) : dRemove ⟨[⟨bB, zs, zs⟩], 3, 0, false⟩ bA = (⟨[⟨bB, zs, zs⟩], 4, 0, false⟩, 3) := by kernel_rfl
theorem mv_five (zs : List Int) : dRemove ⟨[⟨bB, zs, zs⟩], 4, 0, false⟩ bB = (⟨[], 5, 0, false⟩, 0) := by kernel_rfl
theorem mv_read : dRead ⟨[], 5, 0, false⟩ bB = ([], 3) := by decide +kernel
theorem mv_crash (zs ps : List Int) (c : Nat) : dCrash ⟨[⟨bB, zs, zs⟩], c, 0, false⟩ ps = [(bB, zs)] := by
  show crashL [⟨bB, zs, zs⟩] ps = _
  simp [crashL]

set_option maxRecDepth 100000 in
set_option maxHeartbeats 16000000 in
theorem diskMoves_is (s : Scr9) (w : World) (h : ScrIn w s) : Calls Try.prog 7 #[scrV s] w (Tells w.heap.size w (.bool true)) := by
  obtain ⟨w1, hw1⟩ : ∃ w1, w1 = w.alloc (.cells #[.slice s.AF s.nF s.cF, .slice s.AL s.nL s.cL] 25) := ⟨_, rfl⟩
  have hb1 : Below w.heap.size w w1 := by rw [hw1]; exact (Below.refl _ _).alloc (Nat.le_refl _) _
  have bx1 : Box w1 w.heap.size (scrC s) := by rw [hw1]; exact box_new w (scrC s) 25
  have HW := Lib.hid hw1
  have HX := Lib.hid bx1
  have HI : Hid (∀ wX, Below w1.heap.size w1 wX → ScrIn wX s) := fun wX hX => h.below (hb1.trans (hX.mono hb1.size))
  have HI1 := Lib.hid (h.below hb1)
  obtain ⟨nL, hnL⟩ : ∃ nL, s.nL = nL := ⟨_, rfl⟩
  have HNL := Lib.hid hnL
  have HC1 : Hid (∀ wX, Below w1.heap.size w1 wX → wX.cell? ⟨w.heap.size, 1, none⟩ = some (.slice s.AL nL s.cL)) := fun wX h => by rw [← hnL]; exact (bx1.below h bx1.1).2 1 _ rfl
  have hcv := conv_const
  clear hw1 bx1 h hnL
  unfold scrV
  go_enter Try.func7, Try.ntmps7
  go_upto_region 1 with fail
  rw [← HW.out]
  go_wp2_with (refine wpList_load_box rfl 25 _ rfl w.heap.size rfl (scrC s) HX.out _ Try.underlying25 rfl size_scr ?_)
  refine (heavy9_any s _ HI1.out).mono ?_
  rintro e w2 ⟨b, rfl, hb2, hlight⟩
  cases b with
  | true =>
    go_wp2_with fail
    go_ret
    exact ⟨rfl, hb1.trans (hb2.mono hb1.size)⟩
  | false =>
    have HLI := Lib.hid (hlight rfl)
    clear hlight
    go_wp2_with fail
    go_loopw [3] (fun i wr => ∃ k : Nat, i = .int .i64 k ∧ k ≤ 10 ∧ Below w1.heap.size w1 wr) (fun i _ => 10 - (intOf i).toNat)
    case atStart => exact ⟨0, rfl, by omega, hb2⟩
    case round =>
      obtain ⟨k, rfl, hk10, hb⟩ := hrel
      clear hb2
      have c1 := HC1.out _ hb
      have i0 : (0 : Int) ≤ (k : Int) := by omega
      have fin : ∀ wX, Below w1.heap.size w1 wX → Calls Try.prog 14 #[] wX (Tells w.heap.size w (.bool true)) := fun wX hX => (wakes9_any wX).mono fun e w' hh => ⟨hh.1, hb1.trans ((hX.trans (hh.2.mono hX.size)).mono hb1.size)⟩
      by_cases hlt : k < nL
      · have i1 : (k : Int) < (nL : Int) := by omega
        by_cases h40 : k < 10
        · have i2 : (k : Int) < 10 := by omega
          obtain ⟨bl, off, a, hAL, hbl, hx, hmem, hrg⟩ := (HI.out _ hb).at_ (k := k) (by rw [HNL.out]; exact hlt)
          rw [hAL] at c1
          obtain ⟨hfB, hfK⟩ := HLI.out.2.2 k a (by omega) hx
          have HA : Hid (∀ wX, Below w1.heap.size w1 wX → ActIn wX a) := fun wX hX => (HI.out _ hX).act a hmem
          have d0 : wr.cell? ⟨bl, off + k * 6, none⟩ = some (.int .i64 a.Do) := hrg 0 _ rfl
          have d1 : wr.cell? ⟨bl, off + k * 6 + 1, none⟩ = some (.string a.A) := hrg 1 _ rfl
          have d2 : wr.cell? ⟨bl, off + k * 6 + 2, none⟩ = some (.string a.B) := hrg 2 _ rfl
          have d3 : wr.cell? ⟨bl, off + k * 6 + 3, none⟩ = some (.int .i64 a.N) := hrg 3 _ rfl
          have d4 : wr.cell? ⟨bl, off + k * 6 + 4, none⟩ = some (.slice a.AB a.nB a.cB) := hrg 4 _ rfl
          have d5 : wr.cell? ⟨bl, off + k * 6 + 5, none⟩ = some (.slice a.AK a.nK a.cK) := hrg 5 _ rfl
          clear hAL hmem hrg hx
          obtain ⟨nB, hnB⟩ : ∃ nB, a.nB = nB := ⟨_, rfl⟩
          obtain ⟨nK, hnK⟩ : ∃ nK, a.nK = nK := ⟨_, rfl⟩
          rw [hnB] at d4 hfB
          rw [hnK] at d5 hfK
          have HNB := Lib.hid hnB
          have HNK := Lib.hid hnK
          clear hnB hnK
          obtain ⟨ga, hga⟩ : ∃ ga, ga = wr.heap.size := ⟨_, rfl⟩
          obtain ⟨w3, hw3⟩ : ∃ w3, w3 = wr.alloc (.cells #[.int .i64 a.Do, .string a.A, .string a.B, .int .i64 a.N, .slice a.AB nB a.cB, .slice a.AK nK a.cK] 42) := ⟨_, rfl⟩
          have hb3 : Below wr.heap.size wr w3 := by rw [hw3]; exact (Below.refl _ _).alloc (Nat.le_refl _) _
          have bx3 : Box w3 ga [.int .i64 a.Do, .string a.A, .string a.B, .int .i64 a.N, .slice a.AB nB a.cB, .slice a.AK nK a.cK] := by rw [hw3, hga]; exact box_new wr _ _
          go_upto_region 7 with fail
          rw [← hw3, ← hga]
          have hz3 : w3.heap.size = ga + 1 := by rw [hw3, hga]; simp
          clear hw3 hga d0 d1 d2 d3 d4 d5 c1
          have hb13 : Below w1.heap.size w1 w3 := hb.trans (hb3.mono hb.size)
          have HB13 := Lib.hid hb13
          have HBX := Lib.hid bx3
          have HF4 : Hid (∀ wX, Below w3.heap.size w3 wX → wX.cell? ⟨ga, 4, none⟩ = some (.slice a.AB nB a.cB)) := fun wX hX => (HBX.out.below hX (by omega)).2 4 _ rfl
          have HF5 : Hid (∀ wX, Below w3.heap.size w3 wX → wX.cell? ⟨ga, 5, none⟩ = some (.slice a.AK nK a.cK)) := fun wX hX => (HBX.out.below hX (by omega)).2 5 _ rfl
          have HA3 : Hid (∀ wX, Below w3.heap.size w3 wX → ActIn wX a) := fun wX hX => HA.out wX (HB13.out.trans (hX.mono HB13.out.size))
          clear bx3 hb13 hb3 HA
          have f4 := HF4.out _ (Below.refl _ _)
          have hi3 := HA3.out _ (Below.refl _ _)
          go_wp2_with fail
          refine (copyBytes_any a.AB a.cB nB a.bs _ (hi3.zB.trans HNB.out) hi3.rB (by have := hi3.kB; have := HNB.out; omega) (by omega)).mono ?_
          rintro e w4 ⟨v4, rfl, ho4, hb4⟩
          have ho4b := own_cast ho4 ((u8s_length _).trans (hi3.zB.trans HNB.out))
          obtain ⟨A4, c4, rfl, hc4, hm4, hr4, _, _⟩ := own_val ho4b
          have hz4 := hb4.size
          have HZB := Lib.hid (hi3.zB.trans HNB.out)
          have hyB := hi3.yB
          clear ho4 ho4b f4 hi3
          go_wp2_with fail
          obtain ⟨w5, hw5⟩ : ∃ w5, w5 = (w4.alloc (.cells #[.int .u8 111, .int .u8 108, .int .u8 100] 5 (3, 4))).alloc (.cells #[.string ⟨#[97]⟩, .slice A4 nB c4, .string ⟨#[98]⟩, .slice (some ⟨w4.heap.size, 0, none⟩) 3 3] 59) := ⟨_, rfl⟩
          have hb45 : Below w4.heap.size w4 (w4.alloc (.cells #[.int .u8 111, .int .u8 108, .int .u8 100] 5 (3, 4))) := (Below.refl _ _).alloc (Nat.le_refl _) _
          have hb5 : Below w4.heap.size w4 w5 := by rw [hw5]; exact hb45.alloc (by simp) _
          have hro : Rd w5 (some ⟨w4.heap.size, 0, none⟩) (u8s oldL) := by rw [hw5]; exact (rd_mark w4 (u8s oldL) _ _).below ((Below.refl _ _).alloc (Nat.le_refl _) _)
          have hzc : (w4.alloc (.cells #[.int .u8 111, .int .u8 108, .int .u8 100] 5 (3, 4))).heap.size = w4.heap.size + 1 := by simp
          have hrf : Rd w5 (some ⟨w4.heap.size + 1, 0, none⟩) (cellsF [⟨bA, a.bs, .slice A4 nB c4⟩, ⟨bB, oldL, .slice (some ⟨w4.heap.size, 0, none⟩) 3 3⟩]) := by rw [hw5, ← hzc]; exact rd_new _ (cellsF [⟨bA, a.bs, .slice A4 nB c4⟩, ⟨bB, oldL, .slice (some ⟨w4.heap.size, 0, none⟩) 3 3⟩]) _
          rw [← hw5]
          clear hw5 hb45
          have hz5 := hb5.size
          refine (new_is (some ⟨w4.heap.size + 1, 0, none⟩) 2 2 [⟨bA, a.bs, .slice A4 nB c4⟩, ⟨bB, oldL, .slice (some ⟨w4.heap.size, 0, none⟩) 3 3⟩] [(bA, a.bs), (bB, oldL)] _ rfl rfl hrf (fun f hf => by
            simp only [List.mem_cons, List.not_mem_nil, or_false] at hf
            rcases hf with rfl | rfl
            · exact ⟨⟨A4, c4, by rw [HZB.out], by rw [HZB.out]; exact hc4, hm4, hr4.below hb5⟩, hyB⟩
            · exact ⟨⟨_, 3, rfl, (by show 3 ≤ 3; omega), by decide, hro⟩, old_byts⟩) (fun f hf => by
            simp only [List.mem_cons, List.not_mem_nil, or_false] at hf
            rcases hf with rfl | rfl
            · show bA.size ≤ maxLen; decide
            · show bB.size ≤ maxLen; decide) (by omega) (by omega)).mono ?_
          rintro e w6 ⟨hb6, hif⟩
          rw [if_pos (may_two a.bs (by have := HZB.out; omega))] at hif
          obtain ⟨g, F, rfl, hd6, hF⟩ := hif
          have hd6' := (newTo_hd hd6 hF hb6).less (G' := fun k => k < w3.heap.size) (fun k hk => by show k < _; have : k < w3.heap.size := hk; omega)
          have HD6 := Lib.hid hd6'
          have hz6 := hb6.size
          have HB36 := Lib.hid ((hb4.trans (hb5.mono hz4)).trans (hb6.mono (by omega)))
          clear hd6 hd6' hF hb4 hb5 hb6 hr4 hro hrf hzc
          go_wp2_with fail
          refine (num9_any _ _).mono ?_
          rintro e w' ⟨rfl, rfl⟩
          go_wp2_with fail
          refine (hd_rename HD6.out bA bB (by decide) (by decide) (by show 0 ≤ 1000000; omega)).mono ?_
          rintro e w7 ⟨he, hd7, ht7⟩
          rw [mv_one a.bs] at he hd7
          subst he
          have hb7 : Below w3.heap.size w6 w7 := touch_below ht7 HD6.out.size
          have hz7 := hb7.size
          have HD7 := Lib.hid hd7
          have HB37 := Lib.hid (HB36.out.trans hb7)
          clear hd7 ht7 hb7
          go_wp2_with fail
          refine (num9_any _ _).mono ?_
          rintro e w' ⟨rfl, rfl⟩
          have f5 := HF5.out _ HB37.out
          have hi7 := HA3.out _ HB37.out
          go_wp2_with fail
          refine (hd_crash HD7.out a.AK nK a.cK a.ps (hi7.zK.trans HNK.out) hi7.rK (by have := hi7.kK; have := HNK.out; omega) hi7.xK hi7.yK).mono ?_
          rintro e w8 ⟨v8, l8, rfl, hm8, ho8, hb8⟩
          rw [mv_crash] at hm8
          have hz8 := hb8.size
          obtain ⟨f8, rfl, hn8, hd8⟩ := one_file hm8
          have HFI := Lib.hid (ho8.fin (f := f8) (List.mem_singleton.2 rfl))
          obtain ⟨AR, cR, rfl, hcR, hmR, hrR, _⟩ := ownS_slice ho8.row
          have HD8 := Lib.hid (HD7.out.kept hb8)
          have HB38 := Lib.hid (HB37.out.trans (hb8.mono (by omega)))
          have f4 := HF4.out _ HB38.out
          have hi8 := HA3.out _ HB38.out
          have HM8 := Lib.hid hm8
          have HRR := Lib.hid hrR
          clear f5 hi7 ho8 hb8 hm8 hrR
          go_wp2_with fail
          obtain ⟨w9, hw9⟩ : ∃ w9, w9 = w8.alloc (.cells #[.string ⟨#[98]⟩, .slice a.AB nB a.cB] 59) := ⟨_, rfl⟩
          have hb9 : Below w8.heap.size w8 w9 := by rw [hw9]; exact (Below.refl _ _).alloc (Nat.le_refl _) _
          have hr9 : Rd w9 (some ⟨w8.heap.size, 0, none⟩) (cellsF [⟨bB, a.bs, .slice a.AB nB a.cB⟩]) := by rw [hw9]; exact rd_new w8 (cellsF [⟨bB, a.bs, .slice a.AB nB a.cB⟩]) _
          rw [← hw9]
          clear hw9
          have hz9 := hb9.size
          refine (eqFiles_any AR (some ⟨w8.heap.size, 0, none⟩) cR 1 1 1 [f8] [⟨bB, a.bs, .slice a.AB nB a.cB⟩] _ rfl rfl (HRR.out.below hb9) hr9 (fun f hf => by
            rw [List.mem_singleton] at hf
            subst hf
            exact ⟨HFI.out.below hb9, by rw [hd8, HZB.out]; omega⟩) (fun f hf => by
            rw [List.mem_singleton] at hf
            subst hf
            exact ⟨⟨⟨a.AB, a.cB, by rw [HZB.out], by have := hi8.kB; have := hi8.zB; show a.bs.length ≤ _; omega, hi8.xB, hi8.rB.below hb9⟩, hi8.yB⟩, by show a.bs.length ≤ _; rw [HZB.out]; omega⟩) (by omega) (by omega)).mono ?_
          rintro e w10 ⟨rfl, hb10⟩
          rw [show decide ([f8].map FL.pl = [(⟨bB, a.bs, .slice a.AB nB a.cB⟩ : FL)].map FL.pl) = true by rw [HM8.out]; simp [FL.pl]]
          have hz10 := hb10.size
          have HD10 := Lib.hid ((HD8.out.kept hb9).kept hb10)
          have HB310 := Lib.hid ((HB38.out.trans (hb9.mono (by omega))).trans (hb10.mono (by omega)))
          clear hb9 hb10 hr9 f4 hi8 hn8 hd8 HD8
          go_wp2_with fail
          refine (hd_rename HD10.out bA bB (by decide) (by decide) (by show 1 ≤ 1000000; omega)).mono ?_
          rintro e w11 ⟨he, hd11, ht11⟩
          rw [mv_two a.bs] at he hd11
          subst he
          have hb11 : Below w3.heap.size w10 w11 := touch_below ht11 HD10.out.size
          have hz11 := hb11.size
          have HD11 := Lib.hid hd11
          have HB311 := Lib.hid (HB310.out.trans hb11)
          clear hd11 ht11 hb11
          go_wp2_with fail
          refine (num9_any _ _).mono ?_
          rintro e w' ⟨rfl, rfl⟩
          go_wp2_with fail
          refine (hd_rename HD11.out bB bB (by decide) (by decide) (by show 2 ≤ 1000000; omega)).mono ?_
          rintro e w12 ⟨he, hd12, ht12⟩
          rw [mv_three a.bs] at he hd12
          subst he
          have hb12 : Below w3.heap.size w11 w12 := touch_below ht12 HD11.out.size
          have hz12 := hb12.size
          have HD12 := Lib.hid hd12
          have HB312 := Lib.hid (HB311.out.trans hb12)
          clear hd12 ht12 hb12
          go_wp2_with fail
          refine (num9_any _ _).mono ?_
          rintro e w' ⟨rfl, rfl⟩
          go_wp2_with fail
          refine (hd_remove HD12.out bA (by decide) (by show 3 ≤ 1000000; omega)).mono ?_
          rintro e w13 ⟨he, hd13, ht13⟩
          rw [mv_four a.bs] at he hd13
          subst he
          have hb13 : Below w3.heap.size w12 w13 := touch_below ht13 HD12.out.size
          have hz13 := hb13.size
          have HD13 := Lib.hid hd13
          have HB313 := Lib.hid (HB312.out.trans hb13)
          clear hd13 ht13 hb13
          go_wp2_with fail
          refine (num9_any _ _).mono ?_
          rintro e w' ⟨rfl, rfl⟩
          go_wp2_with fail
          refine (hd_remove HD13.out bB (by decide) (by show 4 ≤ 1000000; omega)).mono ?_
          rintro e w14 ⟨he, hd14, ht14⟩
          rw [mv_five a.bs] at he hd14
          subst he
          have hb14 : Below w3.heap.size w13 w14 := touch_below ht14 HD13.out.size
          have hz14 := hb14.size
          have HD14 := Lib.hid hd14
          have HB314 := Lib.hid (HB313.out.trans hb14)
          clear hd14 ht14 hb14
          go_wp2_with fail
          refine (num9_any _ _).mono ?_
          rintro e w' ⟨rfl, rfl⟩
          go_wp2_with fail
          refine (hd_list HD14.out).mono ?_
          rintro e w15 ⟨v15, rfl, ho15, hb15⟩
          have ho15b : w15.ownsRow w14.heap.size 9 1 v15 0 [] := ho15
          obtain ⟨A15, c15, rfl, _, _, _, _, _⟩ := own_val ho15b
          rw [show (dList ⟨[], 5, 0, false⟩).2 = 0 by rfl]
          have hz15 := hb15.size
          have HD15 := Lib.hid (HD14.out.kept hb15)
          have HB315 := Lib.hid (HB314.out.trans (hb15.mono (by omega)))
          clear ho15 ho15b hb15
          go_wp2_with fail
          refine (hd_read HD15.out bB (by decide)).mono ?_
          rintro e w16 ⟨v16, rfl, ho16, hb16⟩
          rw [mv_read] at ho16 ⊢
          obtain ⟨A16, c16, rfl, _, _, _, _, _⟩ := own_val ho16
          have hz16 := hb16.size
          have HD16 := Lib.hid (HD15.out.kept hb16)
          have HB316 := Lib.hid (HB315.out.trans (hb16.mono (by omega)))
          clear ho16 hb16
          go_wp2_with fail
          refine (num9_any _ _).mono ?_
          rintro e w' ⟨rfl, rfl⟩
          have f5 := HF5.out _ HB316.out
          have hi16 := HA3.out _ HB316.out
          go_wp2_with fail
          refine (hd_crash HD16.out a.AK nK a.cK a.ps (hi16.zK.trans HNK.out) hi16.rK (by have := hi16.kK; have := HNK.out; omega) hi16.xK hi16.yK).mono ?_
          rintro e w17 ⟨v17, l17, rfl, hm17, ho17, hb17⟩
          have hl17 : l17 = [] := List.map_eq_nil_iff.1 hm17
          subst hl17
          obtain ⟨A17, c17, rfl, _⟩ := ownS_slice ho17.row
          have HB317 := Lib.hid (HB316.out.trans (hb17.mono (by omega)))
          clear ho17 hb17 f5 hi16 hm17
          go_wp2_with fail
          refine (num9_any _ _).mono ?_
          rintro e w' ⟨rfl, rfl⟩
          go_wp2_with fail
          go_roundw
          case rel => exact ⟨k + 1, by go_num, by omega, HB13.out.trans (HB317.out.mono HB13.out.size)⟩
          case measure => simp [intOf]; omega
        · have i2 : ¬ ((k : Int) < 10) := by omega
          go_wp2_with fail
          refine (fin _ hb).mono ?_
          rintro e w3 ⟨rfl, hb3⟩
          go_wp2_with fail
          go_ret
          exact ⟨rfl, hb3⟩
      · have i1 : ¬ ((k : Int) < (nL : Int)) := by omega
        go_wp2_with fail
        refine (fin _ hb).mono ?_
        rintro e w3 ⟨rfl, hb3⟩
        go_wp2_with fail
        go_ret
        exact ⟨rfl, hb3⟩

end Go.Proofs.Ytejfilphnebckaa
