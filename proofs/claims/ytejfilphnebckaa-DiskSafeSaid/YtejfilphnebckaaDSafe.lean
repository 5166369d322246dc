/-
  What was synced and left alone is in every crash; with the power off nothing is answered: the walk.
-/
import Derived.Test.YtejfilphnebckaaDSafeP
namespace Go.Proofs.Ytejfilphnebckaa
open Go.RowKit

/-- the disk, the bytes that are kept, and what was there ahead of both -/
def KeepW (B kb : Nat) (w0 : World) (g : Nat) (D : PD) (w : World) : Prop := HDG (fun k => k < B ∨ k = kb) w g D ∧ Rd w (some ⟨kb, 0, none⟩) (u8s keepL) ∧ Below B w0 w
section
variable {B kb g : Nat} {w0 w w' : World} {D D' : PD}
theorem keep_below (h : KeepW B kb w0 g D w) (hb : Below w.heap.size w w') : KeepW B kb w0 g D w' := by
  refine ⟨h.1.kept hb, h.2.1.below hb, h.2.2.trans (hb.mono ?_)⟩
  rcases Nat.eq_zero_or_pos B with h0 | h0
  · omega
  · have := h.1.1 (B - 1) (.inl (by omega)); omega
theorem keep_touch (h : KeepW B kb w0 g D w) (hd : HDG (fun k => k < B ∨ k = kb) w' g D') (ht : Touch (fun k => ¬ (k < B ∨ k = kb)) w w') : KeepW B kb w0 g D' w' := by
  have hB : B ≤ w.heap.size := by
    rcases Nat.eq_zero_or_pos B with h0 | h0
    · omega
    · have := h.1.1 (B - 1) (.inl (by omega)); omega
  refine ⟨hd, h.2.1.kept ht.size fun a ha hl => ht.block _ hl fun hn => hn ?_, h.2.2.trans (ht.below (fun k hk => by omega) hB)⟩
  cases ha
  exact .inr rfl
theorem keep_giv (h : KeepW B kb w0 g D w) : GivG w (fun k => k < B ∨ k = kb) (some ⟨kb, 0, none⟩) 86 86 keepL :=
  ⟨keep_len, h.2.1, keep_byts, by omega, by decide, by omega, fun a ha _ => by cases ha; exact .inr rfl⟩
theorem keep_app {w'' : World} (h : KeepW B kb w0 g D w) (hb : Below w.heap.size w w') (hd : HDG (fun k => (k < B ∨ k = kb) ∨ (w.heap.size ≤ k ∧ k < w'.heap.size)) w'' g D') (ht : Touch (fun k => ¬ ((k < B ∨ k = kb) ∨ (w.heap.size ≤ k ∧ k < w'.heap.size))) w' w'') : KeepW B kb w0 g D' w'' :=
  keep_touch (keep_below h hb) (hd.less fun _ hk => .inl hk) (ht.mono fun _ hk h' => hk (.inl h'))
end

set_option maxRecDepth 100000 in
set_option maxHeartbeats 64000000 in
theorem diskSafe_is (s : Scr9) (w : World) (h : ScrIn w s) : Calls Try.prog 4 #[scrV s] w (Tells w.heap.size w (.bool true)) := by
  obtain ⟨w1, hw1⟩ : ∃ w1, w1 = w.alloc (.cells #[.slice s.AF s.nF s.cF, .slice s.AL s.nL s.cL] 25) := ⟨_, rfl⟩
  have hb1 : Below w.heap.size w w1 := by rw [hw1]; exact (Below.refl _ _).alloc (Nat.le_refl _) _
  have bx1 : Box w1 w.heap.size (scrC s) := by rw [hw1]; exact box_new w (scrC s) 25
  have HW := Lib.hid hw1
  have HX := Lib.hid bx1
  have HI : Hid (∀ wX, Below w1.heap.size w1 wX → ScrIn wX s) := fun wX hX => h.below (hb1.trans (hX.mono hb1.size))
  have HI1 := Lib.hid (h.below hb1)
  obtain ⟨nL, hnL⟩ : ∃ nL, s.nL = nL := ⟨_, rfl⟩
  have HNL := Lib.hid hnL
  have HC1 : Hid (∀ wX, Below w1.heap.size w1 wX → wX.cell? ⟨w.heap.size, 1, none⟩ = some (.slice s.AL nL s.cL)) := fun wX h => by rw [← hnL]; exact (bx1.below h bx1.1).2 1 _ rfl
  have hcv := conv_const
  clear hw1 bx1 h hnL
  unfold scrV
  go_enter Try.func4, Try.ntmps4
  go_upto_region 1 with fail
  rw [← HW.out]
  go_wp2_with (refine wpList_load_box rfl 25 _ rfl w.heap.size rfl (scrC s) HX.out _ Try.underlying25 rfl size_scr ?_)
  refine (heavy9_any s _ HI1.out).mono ?_
  rintro e w2 ⟨b, rfl, hb2, hlight⟩
  cases b with
  | true =>
    go_wp2_with fail
    go_ret
    exact ⟨rfl, hb1.trans (hb2.mono hb1.size)⟩
  | false =>
    have HLI := Lib.hid (hlight rfl)
    clear hlight
    have hb12 : Below w.heap.size w w2 := hb1.trans (hb2.mono hb1.size)
    have HB12 := Lib.hid hb2
    go_wp2_with fail
    refine (new_nil _).mono ?_
    rintro e w3 ⟨hb3, g, rfl, hd3⟩
    have HD3 := Lib.hid hd3
    have hz3 := hb3.size
    clear hd3
    go_wp2_with fail
    refine (num9_any _ _).mono ?_
    rintro e w' ⟨rfl, rfl⟩
    go_wp2_with fail
    obtain ⟨kb, hkb⟩ : ∃ kb, kb = w3.heap.size := ⟨_, rfl⟩
    obtain ⟨w4, hw4⟩ : ∃ w4, w4 = w3.alloc (.cells #[.int .u8 107, .int .u8 101, .int .u8 112, .int .u8 116, .int .u8 32, .int .u8 102, .int .u8 111, .int .u8 114, .int .u8 32, .int .u8 101, .int .u8 118, .int .u8 101, .int .u8 114, .int .u8 44, .int .u8 32, .int .u8 119, .int .u8 104, .int .u8 97, .int .u8 116, .int .u8 101, .int .u8 118, .int .u8 101, .int .u8 114, .int .u8 32, .int .u8 101, .int .u8 108, .int .u8 115, .int .u8 101, .int .u8 32, .int .u8 116, .int .u8 104, .int .u8 101, .int .u8 114, .int .u8 101, .int .u8 32, .int .u8 105, .int .u8 115, .int .u8 44, .int .u8 32, .int .u8 97, .int .u8 110, .int .u8 100, .int .u8 32, .int .u8 109, .int .u8 111, .int .u8 114, .int .u8 101, .int .u8 32, .int .u8 116, .int .u8 104, .int .u8 97, .int .u8 110, .int .u8 32, .int .u8 111, .int .u8 110, .int .u8 101, .int .u8 32, .int .u8 115, .int .u8 101, .int .u8 99, .int .u8 116, .int .u8 111, .int .u8 114, .int .u8 32, .int .u8 108, .int .u8 111, .int .u8 110, .int .u8 103, .int .u8 44, .int .u8 32, .int .u8 97, .int .u8 115, .int .u8 32, .int .u8 105, .int .u8 116, .int .u8 32, .int .u8 119, .int .u8 97, .int .u8 115, .int .u8 32, .int .u8 115, .int .u8 121, .int .u8 110, .int .u8 99, .int .u8 101, .int .u8 100] 5 (86, 87)) := ⟨_, rfl⟩
    have hb4 : Below w3.heap.size w3 w4 := by rw [hw4]; exact (Below.refl _ _).alloc (Nat.le_refl _) _
    have hr4 : Rd w4 (some ⟨kb, 0, none⟩) (u8s keepL) := by rw [hw4, hkb]; exact rd_mark w3 (u8s keepL) _ _
    have hz4 : w4.heap.size = w3.heap.size + 1 := by rw [hw4]; simp
    have hk4 : KeepW w2.heap.size kb w2 g (dNew []) w4 := ⟨(HD3.out.wide hb4).less (fun k hk => by
      rcases hk with hk | hk
      · exact .inl hk
      · exact .inr ⟨by omega, by omega⟩), hr4, hb3.trans (hb4.mono hz3)⟩
    have HK4 := Lib.hid hk4
    rw [← hw4, ← hkb]
    clear hw4 hkb hb3 hb4 hr4 hz4 hk4 HD3
    refine (hd_append HK4.out.1 kN (some ⟨kb, 0, none⟩) 86 86 keepL (by decide) (by decide) (keep_giv HK4.out)).mono ?_
    rintro e w5 ⟨he, hd5, ht5⟩
    rw [app_new kN_ok keepL (by decide)] at he hd5
    subst he
    have HK5 := Lib.hid (keep_touch HK4.out hd5 ht5)
    clear hd5 ht5 HK4
    go_wp2_with fail
    refine (num9_any _ _).mono ?_
    rintro e w' ⟨rfl, rfl⟩
    go_wp2_with fail
    refine (hd_sync HK5.out.1 kN (by decide) (by show 1 ≤ 1000000; omega)).mono ?_
    rintro e w6 ⟨he, hd6, ht6⟩
    rw [sync_one (f := ⟨kN, keepL, []⟩) kN_ok] at he hd6
    subst he
    have HK6 := Lib.hid (keep_touch HK5.out hd6 ht6)
    clear hd6 ht6 HK5
    go_wp2_with fail
    refine (num9_any _ _).mono ?_
    rintro e w' ⟨rfl, rfl⟩
    go_wp2_with fail
    go_loopw [6] (fun i wr => ∃ (k : Nat) (D : PD), i = .int .i64 k ∧ k ≤ 40 ∧ Hid (SafeD D (k + 2)) ∧ Hid (KeepW w2.heap.size kb w2 g D wr)) (fun i _ => 40 - (intOf i).toNat)
    case atStart => exact ⟨0, _, rfl, by omega, ⟨List.mem_singleton.2 rfl, rfl, rfl, by show 2 ≤ 2; omega⟩, HK6.out⟩
    case round =>
      obtain ⟨k, D, rfl, hk40, HSD, HKW⟩ := hrel
      have hb : Below w1.heap.size w1 wr := HB12.out.trans (HKW.out.2.2.mono HB12.out.size)
      have c1 := HC1.out _ hb
      have i0 : (0 : Int) ≤ (k : Int) := by omega
      by_cases hlt : k < nL
      · have i1 : (k : Int) < (nL : Int) := by omega
        by_cases h40 : k < 40
        · have i2 : (k : Int) < 40 := by omega
          obtain ⟨bl, off, a, hAL, hbl, hx, hmem, hrg⟩ := (HI.out _ hb).at_ (k := k) (by rw [HNL.out]; exact hlt)
          rw [hAL] at c1
          obtain ⟨hfB, hfK⟩ := HLI.out.2.2 k a h40 hx
          have ha := (HI.out _ hb).act a hmem
          have d0 : wr.cell? ⟨bl, off + k * 6, none⟩ = some (.int .i64 a.Do) := hrg 0 _ rfl
          have d1 : wr.cell? ⟨bl, off + k * 6 + 1, none⟩ = some (.string a.A) := hrg 1 _ rfl
          have d2 : wr.cell? ⟨bl, off + k * 6 + 2, none⟩ = some (.string a.B) := hrg 2 _ rfl
          have d3 : wr.cell? ⟨bl, off + k * 6 + 3, none⟩ = some (.int .i64 a.N) := hrg 3 _ rfl
          have d4 : wr.cell? ⟨bl, off + k * 6 + 4, none⟩ = some (.slice a.AB a.nB a.cB) := hrg 4 _ rfl
          have d5 : wr.cell? ⟨bl, off + k * 6 + 5, none⟩ = some (.slice a.AK a.nK a.cK) := hrg 5 _ rfl
          clear hAL hmem hrg hx
          obtain ⟨nB, hnB⟩ : ∃ nB, a.nB = nB := ⟨_, rfl⟩
          obtain ⟨nK, hnK⟩ : ∃ nK, a.nK = nK := ⟨_, rfl⟩
          rw [hnB] at d4 hfB
          rw [hnK] at d5 hfK
          have HNB2 := Lib.hid hnB
          have HNK := Lib.hid hnK
          clear hnB hnK
          obtain ⟨ga, hga⟩ : ∃ ga, ga = wr.heap.size := ⟨_, rfl⟩
          obtain ⟨w4, hw4⟩ : ∃ w4, w4 = wr.alloc (.cells #[.int .i64 a.Do, .string a.A, .string a.B, .int .i64 a.N, .slice a.AB nB a.cB, .slice a.AK nK a.cK] 42) := ⟨_, rfl⟩
          have hb4 : Below wr.heap.size wr w4 := by rw [hw4]; exact (Below.refl _ _).alloc (Nat.le_refl _) _
          have bx4 : Box w4 ga [.int .i64 a.Do, .string a.A, .string a.B, .int .i64 a.N, .slice a.AB nB a.cB, .slice a.AK nK a.cK] := by rw [hw4, hga]; exact box_new wr _ _
          go_upto_region 13 with fail
          rw [← hw4, ← hga]
          clear hw4 hga d0 d1 d2 d3 d4 d5 c1
          have HK4 := Lib.hid (keep_below HKW.out hb4)
          have HAI := Lib.hid (ha.below hb4)
          have HMA := Lib.hid (name_max ha.sA)
          have HMB := Lib.hid (name_max ha.sB)
          have f0 := bx4.2 0 _ rfl
          have f1 := bx4.2 1 _ rfl
          have f2 := bx4.2 2 _ rfl
          have f3 := bx4.2 3 _ rfl
          have f4 := bx4.2 4 _ rfl
          have f5 := bx4.2 5 _ rfl
          have HBX := Lib.hid bx4
          clear hb4 bx4 ha HKW hb
          by_cases hA : a.A = kN
          · replace f1 : w4.cell? ⟨ga, 1, none⟩ = some (.string ⟨#[107, 101, 112, 116]⟩) := by rw [hA] at f1; exact f1
            clear hA
            go_wp2_with fail
            go_roundw
            case rel => exact ⟨k + 1, _, by go_num, by omega, HSD.out.more, HK4.out⟩
            case measure => simp [intOf]; omega
          have t1 : ¬ a.A.toList = [107, 101, 112, 116] := ne_list hA
          have t1' : (a.A.toList == [107, 101, 112, 116]) = false := by simp only [beq_eq_false_iff_ne, ne_eq]; exact t1
          have HNA : Hid (a.A ≠ kN) := hA
          clear hA
          by_cases hB : a.B = kN
          · replace f2 : w4.cell? ⟨ga, 2, none⟩ = some (.string ⟨#[107, 101, 112, 116]⟩) := by rw [hB] at f2; exact f2
            clear hB
            go_wp2_with fail
            go_roundw
            case rel => exact ⟨k + 1, _, by go_num, by omega, HSD.out.more, HK4.out⟩
            case measure => simp [intOf]; omega
          have t2 : ¬ a.B.toList = [107, 101, 112, 116] := ne_list hB
          have t2' : (a.B.toList == [107, 101, 112, 116]) = false := by simp only [beq_eq_false_iff_ne, ne_eq]; exact t2
          have HNB : Hid (a.B ≠ kN) := hB
          clear hB
          go_wp2_with fail
          refine (within_any a.Do 11 _ (by omega) (by omega)).mono ?_
          rintro e w' ⟨⟨r, hr, rfl⟩, rfl⟩
          clear t1 t2 t1' t2'
          rcases (show r = 0 ∨ r = 1 ∨ r = 2 ∨ r = 3 ∨ r = 4 ∨ r = 5 ∨ r = 6 ∨ r = 7 ∨ r = 8 ∨ r = 9 ∨ r = 10 by omega) with hr | hr | hr | hr | hr | hr | hr | hr | hr | hr | hr
          · have hv : (r : Int) = 0 := by omega
            rw [hv]
            clear hv hr
            go_wp2_with fail
            have hgl : ga < w4.heap.size := HBX.out.1
            first
              | (go_region_with (first
                  | (go_at_call 29; refine (copyBytes_any a.AB a.cB nB a.bs _ (HAI.out.zB.trans HNB2.out) (HAI.out.rB.below (by first | exact Below.refl _ _ | exact (Below.refl _ _).drew | exact below_n (Below.refl _ _) _)) (by have := HAI.out.kB; have := HNB2.out; omega) (by omega)).mono ?_; rintro e w5 ⟨v5, rfl, ho5, hb5⟩; have hb45 : Below w4.heap.size w4 w5 := (by first | exact hb5 | exact ((Below.refl _ _).drew).trans hb5 | exact (below_n (Below.refl _ _) _).trans hb5); have ho5b := own_cast ho5 ((u8s_length _).trans (HAI.out.zB.trans HNB2.out)); obtain ⟨A5, c5, rfl, hc5, hm5, hr5, _, _⟩ := own_val ho5b; have k1 : w5.cell? ⟨ga, 1, none⟩ = some (.string a.A) := (hb45.cell (p := ⟨ga, 1, none⟩) hgl).trans f1; have HO5 := Lib.hid ho5b; have HR5 := Lib.hid hr5; clear ho5 ho5b hb5 hr5; try go_simp)
                  | (go_at_call 19; refine (hd_append (HK4.out.1.wide (by first | exact hb45 | exact hb45.drew | exact below_n hb45 _)) a.A A5 nB c5 a.bs HMA.out (by have := HSD.out.calls; omega) ⟨HAI.out.zB.trans HNB2.out, (by first | exact HR5.out | exact HR5.out.drew | exact HR5.out.drewN _), HAI.out.yB, hc5, hm5, by omega, fun ad had _ => by subst had; exact .inr ⟨(own_lt HO5.out rfl).2, (own_lt HO5.out rfl).1⟩⟩).mono ?_; rintro e w6 ⟨rfl, hd6, ht6⟩; have hk6 := keep_app HK4.out (by first | exact hb45 | exact hb45.drew | exact below_n hb45 _) hd6 ht6)))
              | fail
            all_goals
              have HK6 := Lib.hid hk6
              clear hk6 hd6 ht6
              go_wp2_with fail
              go_roundw
              case rel => exact ⟨k + 1, _, by go_num, by omega, HSD.out.append HNA.out a.bs, by first | exact HK6.out | exact keep_below HK6.out (Below.refl _ _).drew | exact keep_below HK6.out (below_n (Below.refl _ _) _)⟩
              case measure => simp [intOf]; omega

          · have hv : (r : Int) = 1 := by omega
            rw [hv]
            clear hv hr
            go_wp2_with fail
            have hgl : ga < w4.heap.size := HBX.out.1
            first
              | (go_region_with (first
                  | (go_at_call 29; refine (copyBytes_any a.AB a.cB nB a.bs _ (HAI.out.zB.trans HNB2.out) (HAI.out.rB.below (by first | exact Below.refl _ _ | exact (Below.refl _ _).drew | exact below_n (Below.refl _ _) _)) (by have := HAI.out.kB; have := HNB2.out; omega) (by omega)).mono ?_; rintro e w5 ⟨v5, rfl, ho5, hb5⟩; have hb45 : Below w4.heap.size w4 w5 := (by first | exact hb5 | exact ((Below.refl _ _).drew).trans hb5 | exact (below_n (Below.refl _ _) _).trans hb5); have ho5b := own_cast ho5 ((u8s_length _).trans (HAI.out.zB.trans HNB2.out)); obtain ⟨A5, c5, rfl, hc5, hm5, hr5, _, _⟩ := own_val ho5b; have k1 : w5.cell? ⟨ga, 1, none⟩ = some (.string a.A) := (hb45.cell (p := ⟨ga, 1, none⟩) hgl).trans f1; have HO5 := Lib.hid ho5b; have HR5 := Lib.hid hr5; clear ho5 ho5b hb5 hr5; try go_simp)
                  | (go_at_call 19; refine (hd_append (HK4.out.1.wide (by first | exact hb45 | exact hb45.drew | exact below_n hb45 _)) a.A A5 nB c5 a.bs HMA.out (by have := HSD.out.calls; omega) ⟨HAI.out.zB.trans HNB2.out, (by first | exact HR5.out | exact HR5.out.drew | exact HR5.out.drewN _), HAI.out.yB, hc5, hm5, by omega, fun ad had _ => by subst had; exact .inr ⟨(own_lt HO5.out rfl).2, (own_lt HO5.out rfl).1⟩⟩).mono ?_; rintro e w6 ⟨rfl, hd6, ht6⟩; have hk6 := keep_app HK4.out (by first | exact hb45 | exact hb45.drew | exact below_n hb45 _) hd6 ht6)))
              | fail
            all_goals
              have HK6 := Lib.hid hk6
              clear hk6 hd6 ht6
              go_wp2_with fail
              go_roundw
              case rel => exact ⟨k + 1, _, by go_num, by omega, HSD.out.append HNA.out a.bs, by first | exact HK6.out | exact keep_below HK6.out (Below.refl _ _).drew | exact keep_below HK6.out (below_n (Below.refl _ _) _)⟩
              case measure => simp [intOf]; omega

          · have hv : (r : Int) = 2 := by omega
            rw [hv]
            clear hv hr
            go_wp2_with fail
            have hgl : ga < w4.heap.size := HBX.out.1
            first
              | (go_region_with (first
                  | (go_at_call 29; refine (copyBytes_any a.AB a.cB nB a.bs _ (HAI.out.zB.trans HNB2.out) (HAI.out.rB.below (by first | exact Below.refl _ _ | exact (Below.refl _ _).drew | exact below_n (Below.refl _ _) _)) (by have := HAI.out.kB; have := HNB2.out; omega) (by omega)).mono ?_; rintro e w5 ⟨v5, rfl, ho5, hb5⟩; have hb45 : Below w4.heap.size w4 w5 := (by first | exact hb5 | exact ((Below.refl _ _).drew).trans hb5 | exact (below_n (Below.refl _ _) _).trans hb5); have ho5b := own_cast ho5 ((u8s_length _).trans (HAI.out.zB.trans HNB2.out)); obtain ⟨A5, c5, rfl, hc5, hm5, hr5, _, _⟩ := own_val ho5b; have k1 : w5.cell? ⟨ga, 1, none⟩ = some (.string a.A) := (hb45.cell (p := ⟨ga, 1, none⟩) hgl).trans f1; have HO5 := Lib.hid ho5b; have HR5 := Lib.hid hr5; clear ho5 ho5b hb5 hr5; try go_simp)
                  | (go_at_call 19; refine (hd_append (HK4.out.1.wide (by first | exact hb45 | exact hb45.drew | exact below_n hb45 _)) a.A A5 nB c5 a.bs HMA.out (by have := HSD.out.calls; omega) ⟨HAI.out.zB.trans HNB2.out, (by first | exact HR5.out | exact HR5.out.drew | exact HR5.out.drewN _), HAI.out.yB, hc5, hm5, by omega, fun ad had _ => by subst had; exact .inr ⟨(own_lt HO5.out rfl).2, (own_lt HO5.out rfl).1⟩⟩).mono ?_; rintro e w6 ⟨rfl, hd6, ht6⟩; have hk6 := keep_app HK4.out (by first | exact hb45 | exact hb45.drew | exact below_n hb45 _) hd6 ht6)))
              | fail
            all_goals
              have HK6 := Lib.hid hk6
              clear hk6 hd6 ht6
              go_wp2_with fail
              go_roundw
              case rel => exact ⟨k + 1, _, by go_num, by omega, HSD.out.append HNA.out a.bs, by first | exact HK6.out | exact keep_below HK6.out (Below.refl _ _).drew | exact keep_below HK6.out (below_n (Below.refl _ _) _)⟩
              case measure => simp [intOf]; omega

          · have hv : (r : Int) = 3 := by omega
            rw [hv]
            clear hv hr
            go_wp2_with fail
            refine (hd_cut HK4.out.1 a.A a.N HMA.out (by have := HSD.out.calls; omega)).mono ?_
            rintro e w5 ⟨rfl, hd5, ht5⟩
            have HK5 := Lib.hid (keep_touch HK4.out hd5 ht5)
            have HS5 := Lib.hid (HSD.out.cut HNA.out a.N)
            clear hd5 ht5 HK4
            go_wp2_with fail
            go_roundw
            case rel => exact ⟨k + 1, _, by go_num, by omega, HS5.out, HK5.out⟩
            case measure => simp [intOf]; omega

          · have hv : (r : Int) = 4 := by omega
            rw [hv]
            clear hv hr
            go_wp2_with fail
            refine (hd_sync HK4.out.1 a.A HMA.out (by have := HSD.out.calls; omega)).mono ?_
            rintro e w5 ⟨rfl, hd5, ht5⟩
            have HK5 := Lib.hid (keep_touch HK4.out hd5 ht5)
            have HS5 := Lib.hid (HSD.out.sync HNA.out)
            clear hd5 ht5 HK4
            go_wp2_with fail
            go_roundw
            case rel => exact ⟨k + 1, _, by go_num, by omega, HS5.out, HK5.out⟩
            case measure => simp [intOf]; omega

          · have hv : (r : Int) = 5 := by omega
            rw [hv]
            clear hv hr
            go_wp2_with fail
            refine (hd_rename HK4.out.1 a.A a.B HMA.out HMB.out (by have := HSD.out.calls; omega)).mono ?_
            rintro e w5 ⟨rfl, hd5, ht5⟩
            have HK5 := Lib.hid (keep_touch HK4.out hd5 ht5)
            have HS5 := Lib.hid (HSD.out.rename HNA.out HNB.out)
            clear hd5 ht5 HK4
            go_wp2_with fail
            go_roundw
            case rel => exact ⟨k + 1, _, by go_num, by omega, HS5.out, HK5.out⟩
            case measure => simp [intOf]; omega

          · have hv : (r : Int) = 6 := by omega
            rw [hv]
            clear hv hr
            go_wp2_with fail
            refine (hd_remove HK4.out.1 a.A HMA.out (by have := HSD.out.calls; omega)).mono ?_
            rintro e w5 ⟨rfl, hd5, ht5⟩
            have HK5 := Lib.hid (keep_touch HK4.out hd5 ht5)
            have HS5 := Lib.hid (HSD.out.remove HNA.out)
            clear hd5 ht5 HK4
            go_wp2_with fail
            go_roundw
            case rel => exact ⟨k + 1, _, by go_num, by omega, HS5.out, HK5.out⟩
            case measure => simp [intOf]; omega

          · have hv : (r : Int) = 7 := by omega
            rw [hv]
            clear hv hr
            go_wp2_with fail
            refine (hd_crash HK4.out.1 a.AK nK a.cK a.ps (HAI.out.zK.trans HNK.out) HAI.out.rK (by have := HAI.out.kK; have := HNK.out; omega) HAI.out.xK HAI.out.yK).mono ?_
            rintro e w5 ⟨v5, l5, rfl, hm5, ho5, hb5⟩
            obtain ⟨fs, hfs⟩ : ∃ fs, dCrash D a.ps = fs := ⟨_, rfl⟩
            have hmay := crash_may HK4.out.1.good a.ps
            have hrd := crash_read HK4.out.1.good HSD.out a.ps
            have hls := crash_list D a.ps
            rw [hfs] at hm5 hmay hrd hls
            have hfew : fs.length ≤ 16 := by rw [← hfs]; show (crashL D.L a.ps).length ≤ 16; rw [crashL_len]; exact HK4.out.1.good.few
            have hbytes : ∀ x ∈ fs, x.2.length ≤ 1048576 := by rw [← hfs]; exact fun x hx => (crashL_els D.L a.ps HK4.out.1.good.els x hx).2
            have hnames : ∀ x ∈ fs, x.1.size ≤ maxLen := by rw [← hfs]; exact fun x hx => Nat.le_trans (okName_size (crashL_els D.L a.ps HK4.out.1.good.els x hx).1).2 (by decide)
            obtain ⟨nl, hnl⟩ : ∃ nl, l5.length = nl := ⟨_, rfl⟩
            have hnf : fs.length = nl := by rw [← hm5, List.length_map]; exact hnl
            have hrow5 := ho5.row
            rw [hnl] at hrow5
            obtain ⟨A5, c5, rfl, _, _, hr5, _⟩ := ownS_slice hrow5
            have HK5 := Lib.hid (keep_below HK4.out hb5)
            have HMAY := Lib.hid hmay
            have HRD := Lib.hid hrd
            have HLS := Lib.hid hls
            have HNF := Lib.hid hnf
            have HFI5 : Hid (∀ f ∈ l5, FIn w5 f ∧ f.dat.length ≤ 1073741824) := fun f hf => ⟨ho5.fin hf, by have h1 := hbytes f.pl (by rw [← hm5]; exact List.mem_map.2 ⟨f, hf, rfl⟩); have h2 : f.dat.length ≤ 1048576 := h1; omega⟩
            have HNM := Lib.hid hnames
            have HM5 := Lib.hid hm5
            have HR5 := Lib.hid hr5
            have HNL := Lib.hid hnl
            clear hmay hrd hls hfs hb5 ho5 hrow5 hr5 hnames hbytes hm5 HK4
            go_wp2_with fail
            refine (copyFiles_any A5 c5 nl l5 _ HNL.out HR5.out HFI5.out (by omega)).mono ?_
            rintro e w6 ⟨v6, l6, rfl, hm6, ho6, hb6⟩
            rw [HM5.out] at hm6
            have hl6 : l6.length = nl := by have := congrArg List.length hm6; rw [List.length_map] at this; rw [this]; exact HNF.out
            have hrow6 := ho6.row
            rw [hl6] at hrow6
            obtain ⟨A6, c6, rfl, hc6, _, hr6, _⟩ := ownS_slice hrow6
            have HK6 := Lib.hid (keep_below HK5.out hb6)
            have hfin6 : ∀ f ∈ l6, FIn w6 f := fun f hf => ho6.fin hf
            have hnm6 : ∀ f ∈ l6, f.nm.size ≤ maxLen := fun f hf => HNM.out f.pl (by rw [← hm6]; exact List.mem_map.2 ⟨f, hf, rfl⟩)
            clear ho6 hb6 hrow6
            go_wp2_with fail
            refine (new_is A6 nl c6 l6 fs _ hl6 hm6 hr6 hfin6 hnm6 hc6 (by omega)).mono ?_
            rintro e w7 ⟨hb7, hif⟩
            rw [if_pos HMAY.out] at hif
            obtain ⟨g2, F2, rfl, hd7, hF7⟩ := hif
            have HD7 := Lib.hid (newTo_hd hd7 hF7 hb7)
            have HK7 := Lib.hid (keep_below HK6.out hb7)
            clear hb7 hd7 hF7 hr6 hfin6 hnm6 hc6 hl6 hm6 HK6 HK5
            go_wp2_with fail
            refine (num9_any _ _).mono ?_
            rintro e w' ⟨rfl, rfl⟩
            go_wp2_with fail
            refine (hd_read HD7.out kN (by decide)).mono ?_
            rintro e w8 ⟨v8, rfl, ho8, hb8⟩
            rw [HRD.out] at ho8 ⊢
            have ho8b := own_cast ho8 ((u8s_length _).trans keep_len)
            obtain ⟨A8, c8, rfl, _, _, hr8, _, _⟩ := own_val ho8b
            have HD8 := Lib.hid (HD7.out.kept hb8)
            have HK8 := Lib.hid (keep_below HK7.out hb8)
            have HR8 := Lib.hid hr8
            clear ho8 ho8b hb8 hr8 HK7 HD7
            go_wp2_with fail
            refine (hd_list HD8.out).mono ?_
            rintro e w9 ⟨v9, rfl, ho9, hb9⟩
            have ho9b := own_cast ho9 ((strs_length _).trans (HLS.out.2.trans HNF.out))
            obtain ⟨A9, c9, rfl, _, _, _, _, _⟩ := own_val ho9b
            rw [HLS.out.1]
            have HK9 := Lib.hid (keep_below HK8.out hb9)
            have HR9 := Lib.hid (HR8.out.below hb9)
            clear ho9 ho9b hb9 HK8
            go_wp2_with fail
            refine (num9_any _ _).mono ?_
            rintro e w' ⟨rfl, rfl⟩
            go_wp2_with fail
            refine (eqBytes_any A8 (some ⟨kb, 0, none⟩) c8 86 86 86 keepL keepL _ keep_len keep_len HR9.out HK9.out.2.1 (by omega) (by omega)).mono ?_
            rintro e w10 ⟨rfl, d, rfl⟩
            rw [decide_eq_true (rfl : keepL = keepL)]
            have HK10 := Lib.hid (keep_below HK9.out (below_n (Below.refl _ _) d))
            clear HK9 HR9
            go_wp2_with fail
            refine (num9_any _ _).mono ?_
            rintro e w' ⟨rfl, rfl⟩
            go_wp2_with fail
            go_roundw
            case rel => exact ⟨k + 1, _, by go_num, by omega, HSD.out.more, HK10.out⟩
            case measure => simp [intOf]; omega

          · have hv : (r : Int) = 8 := by omega
            rw [hv]
            clear hv hr
            go_wp2_with fail
            refine (hd_crash HK4.out.1 a.AK nK a.cK a.ps (HAI.out.zK.trans HNK.out) HAI.out.rK (by have := HAI.out.kK; have := HNK.out; omega) HAI.out.xK HAI.out.yK).mono ?_
            rintro e w5 ⟨v5, l5, rfl, hm5, ho5, hb5⟩
            obtain ⟨fs, hfs⟩ : ∃ fs, dCrash D a.ps = fs := ⟨_, rfl⟩
            have hmay := crash_may HK4.out.1.good a.ps
            have hrd := crash_read HK4.out.1.good HSD.out a.ps
            have hls := crash_list D a.ps
            rw [hfs] at hm5 hmay hrd hls
            have hfew : fs.length ≤ 16 := by rw [← hfs]; show (crashL D.L a.ps).length ≤ 16; rw [crashL_len]; exact HK4.out.1.good.few
            have hbytes : ∀ x ∈ fs, x.2.length ≤ 1048576 := by rw [← hfs]; exact fun x hx => (crashL_els D.L a.ps HK4.out.1.good.els x hx).2
            have hnames : ∀ x ∈ fs, x.1.size ≤ maxLen := by rw [← hfs]; exact fun x hx => Nat.le_trans (okName_size (crashL_els D.L a.ps HK4.out.1.good.els x hx).1).2 (by decide)
            obtain ⟨nl, hnl⟩ : ∃ nl, l5.length = nl := ⟨_, rfl⟩
            have hnf : fs.length = nl := by rw [← hm5, List.length_map]; exact hnl
            have hrow5 := ho5.row
            rw [hnl] at hrow5
            obtain ⟨A5, c5, rfl, _, _, hr5, _⟩ := ownS_slice hrow5
            have HK5 := Lib.hid (keep_below HK4.out hb5)
            have HMAY := Lib.hid hmay
            have HRD := Lib.hid hrd
            have HLS := Lib.hid hls
            have HNF := Lib.hid hnf
            have HFI5 : Hid (∀ f ∈ l5, FIn w5 f ∧ f.dat.length ≤ 1073741824) := fun f hf => ⟨ho5.fin hf, by have h1 := hbytes f.pl (by rw [← hm5]; exact List.mem_map.2 ⟨f, hf, rfl⟩); have h2 : f.dat.length ≤ 1048576 := h1; omega⟩
            have HNM := Lib.hid hnames
            have HM5 := Lib.hid hm5
            have HR5 := Lib.hid hr5
            have HNL := Lib.hid hnl
            clear hmay hrd hls hfs hb5 ho5 hrow5 hr5 hnames hbytes hm5 HK4
            go_wp2_with fail
            refine (copyFiles_any A5 c5 nl l5 _ HNL.out HR5.out HFI5.out (by omega)).mono ?_
            rintro e w6 ⟨v6, l6, rfl, hm6, ho6, hb6⟩
            rw [HM5.out] at hm6
            have hl6 : l6.length = nl := by have := congrArg List.length hm6; rw [List.length_map] at this; rw [this]; exact HNF.out
            have hrow6 := ho6.row
            rw [hl6] at hrow6
            obtain ⟨A6, c6, rfl, hc6, _, hr6, _⟩ := ownS_slice hrow6
            have HK6 := Lib.hid (keep_below HK5.out hb6)
            have hfin6 : ∀ f ∈ l6, FIn w6 f := fun f hf => ho6.fin hf
            have hnm6 : ∀ f ∈ l6, f.nm.size ≤ maxLen := fun f hf => HNM.out f.pl (by rw [← hm6]; exact List.mem_map.2 ⟨f, hf, rfl⟩)
            clear ho6 hb6 hrow6
            go_wp2_with fail
            refine (new_is A6 nl c6 l6 fs _ hl6 hm6 hr6 hfin6 hnm6 hc6 (by omega)).mono ?_
            rintro e w7 ⟨hb7, hif⟩
            rw [if_pos HMAY.out] at hif
            obtain ⟨g2, F2, rfl, hd7, hF7⟩ := hif
            have HD7 := Lib.hid (newTo_hd hd7 hF7 hb7)
            have HK7 := Lib.hid (keep_below HK6.out hb7)
            clear hb7 hd7 hF7 hr6 hfin6 hnm6 hc6 hl6 hm6 HK6 HK5
            go_wp2_with fail
            refine (num9_any _ _).mono ?_
            rintro e w' ⟨rfl, rfl⟩
            go_wp2_with fail
            refine (hd_read HD7.out kN (by decide)).mono ?_
            rintro e w8 ⟨v8, rfl, ho8, hb8⟩
            rw [HRD.out] at ho8 ⊢
            have ho8b := own_cast ho8 ((u8s_length _).trans keep_len)
            obtain ⟨A8, c8, rfl, _, _, hr8, _, _⟩ := own_val ho8b
            have HD8 := Lib.hid (HD7.out.kept hb8)
            have HK8 := Lib.hid (keep_below HK7.out hb8)
            have HR8 := Lib.hid hr8
            clear ho8 ho8b hb8 hr8 HK7 HD7
            go_wp2_with fail
            refine (hd_list HD8.out).mono ?_
            rintro e w9 ⟨v9, rfl, ho9, hb9⟩
            have ho9b := own_cast ho9 ((strs_length _).trans (HLS.out.2.trans HNF.out))
            obtain ⟨A9, c9, rfl, _, _, _, _, _⟩ := own_val ho9b
            rw [HLS.out.1]
            have HK9 := Lib.hid (keep_below HK8.out hb9)
            have HR9 := Lib.hid (HR8.out.below hb9)
            clear ho9 ho9b hb9 HK8
            go_wp2_with fail
            refine (num9_any _ _).mono ?_
            rintro e w' ⟨rfl, rfl⟩
            go_wp2_with fail
            refine (eqBytes_any A8 (some ⟨kb, 0, none⟩) c8 86 86 86 keepL keepL _ keep_len keep_len HR9.out HK9.out.2.1 (by omega) (by omega)).mono ?_
            rintro e w10 ⟨rfl, d, rfl⟩
            rw [decide_eq_true (rfl : keepL = keepL)]
            have HK10 := Lib.hid (keep_below HK9.out (below_n (Below.refl _ _) d))
            clear HK9 HR9
            go_wp2_with fail
            refine (num9_any _ _).mono ?_
            rintro e w' ⟨rfl, rfl⟩
            go_wp2_with fail
            go_roundw
            case rel => exact ⟨k + 1, _, by go_num, by omega, HSD.out.more, HK10.out⟩
            case measure => simp [intOf]; omega

          · have hv : (r : Int) = 9 := by omega
            rw [hv]
            clear hv hr
            go_wp2_with fail
            refine (hd_crash HK4.out.1 a.AK nK a.cK a.ps (HAI.out.zK.trans HNK.out) HAI.out.rK (by have := HAI.out.kK; have := HNK.out; omega) HAI.out.xK HAI.out.yK).mono ?_
            rintro e w5 ⟨v5, l5, rfl, hm5, ho5, hb5⟩
            obtain ⟨fs, hfs⟩ : ∃ fs, dCrash D a.ps = fs := ⟨_, rfl⟩
            have hmay := crash_may HK4.out.1.good a.ps
            have hrd := crash_read HK4.out.1.good HSD.out a.ps
            have hls := crash_list D a.ps
            rw [hfs] at hm5 hmay hrd hls
            have hfew : fs.length ≤ 16 := by rw [← hfs]; show (crashL D.L a.ps).length ≤ 16; rw [crashL_len]; exact HK4.out.1.good.few
            have hbytes : ∀ x ∈ fs, x.2.length ≤ 1048576 := by rw [← hfs]; exact fun x hx => (crashL_els D.L a.ps HK4.out.1.good.els x hx).2
            have hnames : ∀ x ∈ fs, x.1.size ≤ maxLen := by rw [← hfs]; exact fun x hx => Nat.le_trans (okName_size (crashL_els D.L a.ps HK4.out.1.good.els x hx).1).2 (by decide)
            obtain ⟨nl, hnl⟩ : ∃ nl, l5.length = nl := ⟨_, rfl⟩
            have hnf : fs.length = nl := by rw [← hm5, List.length_map]; exact hnl
            have hrow5 := ho5.row
            rw [hnl] at hrow5
            obtain ⟨A5, c5, rfl, _, _, hr5, _⟩ := ownS_slice hrow5
            have HK5 := Lib.hid (keep_below HK4.out hb5)
            have HMAY := Lib.hid hmay
            have HRD := Lib.hid hrd
            have HLS := Lib.hid hls
            have HNF := Lib.hid hnf
            have HFI5 : Hid (∀ f ∈ l5, FIn w5 f ∧ f.dat.length ≤ 1073741824) := fun f hf => ⟨ho5.fin hf, by have h1 := hbytes f.pl (by rw [← hm5]; exact List.mem_map.2 ⟨f, hf, rfl⟩); have h2 : f.dat.length ≤ 1048576 := h1; omega⟩
            have HNM := Lib.hid hnames
            have HM5 := Lib.hid hm5
            have HR5 := Lib.hid hr5
            have HNL := Lib.hid hnl
            clear hmay hrd hls hfs hb5 ho5 hrow5 hr5 hnames hbytes hm5 HK4
            go_wp2_with fail
            refine (copyFiles_any A5 c5 nl l5 _ HNL.out HR5.out HFI5.out (by omega)).mono ?_
            rintro e w6 ⟨v6, l6, rfl, hm6, ho6, hb6⟩
            rw [HM5.out] at hm6
            have hl6 : l6.length = nl := by have := congrArg List.length hm6; rw [List.length_map] at this; rw [this]; exact HNF.out
            have hrow6 := ho6.row
            rw [hl6] at hrow6
            obtain ⟨A6, c6, rfl, hc6, _, hr6, _⟩ := ownS_slice hrow6
            have HK6 := Lib.hid (keep_below HK5.out hb6)
            have hfin6 : ∀ f ∈ l6, FIn w6 f := fun f hf => ho6.fin hf
            have hnm6 : ∀ f ∈ l6, f.nm.size ≤ maxLen := fun f hf => HNM.out f.pl (by rw [← hm6]; exact List.mem_map.2 ⟨f, hf, rfl⟩)
            clear ho6 hb6 hrow6
            go_wp2_with fail
            refine (new_is A6 nl c6 l6 fs _ hl6 hm6 hr6 hfin6 hnm6 hc6 (by omega)).mono ?_
            rintro e w7 ⟨hb7, hif⟩
            rw [if_pos HMAY.out] at hif
            obtain ⟨g2, F2, rfl, hd7, hF7⟩ := hif
            have HD7 := Lib.hid (newTo_hd hd7 hF7 hb7)
            have HK7 := Lib.hid (keep_below HK6.out hb7)
            clear hb7 hd7 hF7 hr6 hfin6 hnm6 hc6 hl6 hm6 HK6 HK5
            go_wp2_with fail
            refine (num9_any _ _).mono ?_
            rintro e w' ⟨rfl, rfl⟩
            go_wp2_with fail
            refine (hd_read HD7.out kN (by decide)).mono ?_
            rintro e w8 ⟨v8, rfl, ho8, hb8⟩
            rw [HRD.out] at ho8 ⊢
            have ho8b := own_cast ho8 ((u8s_length _).trans keep_len)
            obtain ⟨A8, c8, rfl, _, _, hr8, _, _⟩ := own_val ho8b
            have HD8 := Lib.hid (HD7.out.kept hb8)
            have HK8 := Lib.hid (keep_below HK7.out hb8)
            have HR8 := Lib.hid hr8
            clear ho8 ho8b hb8 hr8 HK7 HD7
            go_wp2_with fail
            refine (hd_list HD8.out).mono ?_
            rintro e w9 ⟨v9, rfl, ho9, hb9⟩
            have ho9b := own_cast ho9 ((strs_length _).trans (HLS.out.2.trans HNF.out))
            obtain ⟨A9, c9, rfl, _, _, _, _, _⟩ := own_val ho9b
            rw [HLS.out.1]
            have HK9 := Lib.hid (keep_below HK8.out hb9)
            have HR9 := Lib.hid (HR8.out.below hb9)
            clear ho9 ho9b hb9 HK8
            go_wp2_with fail
            refine (num9_any _ _).mono ?_
            rintro e w' ⟨rfl, rfl⟩
            go_wp2_with fail
            refine (eqBytes_any A8 (some ⟨kb, 0, none⟩) c8 86 86 86 keepL keepL _ keep_len keep_len HR9.out HK9.out.2.1 (by omega) (by omega)).mono ?_
            rintro e w10 ⟨rfl, d, rfl⟩
            rw [decide_eq_true (rfl : keepL = keepL)]
            have HK10 := Lib.hid (keep_below HK9.out (below_n (Below.refl _ _) d))
            clear HK9 HR9
            go_wp2_with fail
            refine (num9_any _ _).mono ?_
            rintro e w' ⟨rfl, rfl⟩
            go_wp2_with fail
            go_roundw
            case rel => exact ⟨k + 1, _, by go_num, by omega, HSD.out.more, HK10.out⟩
            case measure => simp [intOf]; omega

          · have hv : (r : Int) = 10 := by omega
            rw [hv]
            clear hv hr
            go_wp2_with fail
            go_roundw
            case rel => exact ⟨k + 1, _, by go_num, by omega, HSD.out.more, HK4.out⟩
            case measure => simp [intOf]; omega


        · have i2 : ¬ ((k : Int) < 40) := by omega
          go_wp2_with fail
          have hk := HKW.out
          have hsd := HSD.out
          refine (hd_off hk.1 0 (by omega)).mono ?_
          rintro e w20 ⟨rfl, hd20, ht20⟩
          have hk20 := keep_touch hk hd20 ht20
          obtain ⟨D1, hD1⟩ : ∃ D1, dOff D 0 = D1 := ⟨_, rfl⟩
          rw [hD1] at hk20
          have hof : D1.off = true := by rw [← hD1]; rfl
          have hca : D1.calls ≤ 42 := by
            rw [← hD1]
            have := hsd.calls
            show D.calls ≤ 42
            omega
          have HOF := Lib.hid hof
          have HK := Lib.hid hk20
          clear hd20 ht20 hD1 hk hof
          go_wp2_with fail
          refine (hd_read HK.out.1 kN (by decide)).mono ?_
          rintro e w21 ⟨v21, rfl, ho21, hb21⟩
          rw [off_read HOF.out] at ho21 ⊢
          obtain ⟨A21, c21, rfl, _, _, _, _, _⟩ := own_val ho21
          have HK21 := Lib.hid (keep_below HK.out hb21)
          clear ho21 hb21 HK
          go_wp2_with fail
          refine (hd_list HK21.out.1).mono ?_
          rintro e w22 ⟨v22, rfl, ho22, hb22⟩
          rw [off_list HOF.out] at ho22 ⊢
          obtain ⟨A22, c22, rfl, _, _, _, _, _⟩ := own_val ho22
          have HK22 := Lib.hid (keep_below HK21.out hb22)
          clear ho22 hb22 HK21
          go_wp2_with fail
          refine (num9_any _ _).mono ?_
          rintro e w' ⟨rfl, rfl⟩
          go_wp2_with fail
          refine (num9_any _ _).mono ?_
          rintro e w' ⟨rfl, rfl⟩
          go_wp2_with fail
          refine (hd_sync HK22.out.1 kN (by decide) (by first | omega | (simp only [tick_calls]; omega))).mono ?_
          rintro e w23 ⟨he, hd23, ht23⟩
          rw [off_sync HOF.out] at he hd23
          subst he
          have HK23 := Lib.hid (keep_touch HK22.out hd23 ht23)
          have HOF23 := Lib.hid (off_tick HOF.out).1
          clear hd23 ht23 HK22
          go_wp2_with fail
          refine (num9_any _ _).mono ?_
          rintro e w' ⟨rfl, rfl⟩
          go_wp2_with fail
          refine (hd_append HK23.out.1 kN (some ⟨kb, 0, none⟩) 86 86 keepL (by decide) (by first | omega | (simp only [tick_calls]; omega)) (keep_giv HK23.out)).mono ?_
          rintro e w24 ⟨he, hd24, ht24⟩
          rw [off_append HOF23.out keepL] at he hd24
          subst he
          have HK24 := Lib.hid (keep_touch HK23.out hd24 ht24)
          have HOF24 := Lib.hid (off_tick HOF23.out).1
          clear hd24 ht24 HK23
          go_wp2_with fail
          refine (num9_any _ _).mono ?_
          rintro e w' ⟨rfl, rfl⟩
          go_wp2_with fail
          refine (hd_cut HK24.out.1 kN 0 (by decide) (by first | omega | (simp only [tick_calls]; omega))).mono ?_
          rintro e w25 ⟨he, hd25, ht25⟩
          rw [off_cut HOF24.out] at he hd25
          subst he
          have HK25 := Lib.hid (keep_touch HK24.out hd25 ht25)
          have HOF25 := Lib.hid (off_tick HOF24.out).1
          clear hd25 ht25 HK24
          go_wp2_with fail
          refine (num9_any _ _).mono ?_
          rintro e w' ⟨rfl, rfl⟩
          go_wp2_with fail
          refine (hd_remove HK25.out.1 kN (by decide) (by first | omega | (simp only [tick_calls]; omega))).mono ?_
          rintro e w26 ⟨he, hd26, ht26⟩
          rw [off_remove HOF25.out] at he hd26
          subst he
          have HK26 := Lib.hid (keep_touch HK25.out hd26 ht26)
          have HOF26 := Lib.hid (off_tick HOF25.out).1
          clear hd26 ht26 HK25
          go_wp2_with fail
          refine (num9_any _ _).mono ?_
          rintro e w' ⟨rfl, rfl⟩
          go_wp2_with fail
          refine (hd_rename HK26.out.1 kN bA (by decide) (by decide) (by first | omega | (simp only [tick_calls]; omega))).mono ?_
          rintro e w27 ⟨he, hd27, ht27⟩
          rw [off_rename HOF26.out] at he hd27
          subst he
          have HK27 := Lib.hid (keep_touch HK26.out hd27 ht27)
          have HOF27 := Lib.hid (off_tick HOF26.out).1
          clear hd27 ht27 HK26
          go_wp2_with fail
          refine (num9_any _ _).mono ?_
          rintro e w' ⟨rfl, rfl⟩
          go_wp2_with fail
          refine (wakes9_any _).mono ?_
          rintro e w28 ⟨rfl, hb28⟩
          go_wp2_with fail
          go_ret
          exact ⟨rfl, hb12.trans ((HK27.out.2.2.trans (hb28.mono HK27.out.2.2.size)).mono hb12.size)⟩

      · have i1 : ¬ ((k : Int) < (nL : Int)) := by omega
        go_wp2_with fail
        have hk := HKW.out
        have hsd := HSD.out
        refine (hd_off hk.1 0 (by omega)).mono ?_
        rintro e w20 ⟨rfl, hd20, ht20⟩
        have hk20 := keep_touch hk hd20 ht20
        obtain ⟨D1, hD1⟩ : ∃ D1, dOff D 0 = D1 := ⟨_, rfl⟩
        rw [hD1] at hk20
        have hof : D1.off = true := by rw [← hD1]; rfl
        have hca : D1.calls ≤ 42 := by
          rw [← hD1]
          have := hsd.calls
          show D.calls ≤ 42
          omega
        have HOF := Lib.hid hof
        have HK := Lib.hid hk20
        clear hd20 ht20 hD1 hk hof
        go_wp2_with fail
        refine (hd_read HK.out.1 kN (by decide)).mono ?_
        rintro e w21 ⟨v21, rfl, ho21, hb21⟩
        rw [off_read HOF.out] at ho21 ⊢
        obtain ⟨A21, c21, rfl, _, _, _, _, _⟩ := own_val ho21
        have HK21 := Lib.hid (keep_below HK.out hb21)
        clear ho21 hb21 HK
        go_wp2_with fail
        refine (hd_list HK21.out.1).mono ?_
        rintro e w22 ⟨v22, rfl, ho22, hb22⟩
        rw [off_list HOF.out] at ho22 ⊢
        obtain ⟨A22, c22, rfl, _, _, _, _, _⟩ := own_val ho22
        have HK22 := Lib.hid (keep_below HK21.out hb22)
        clear ho22 hb22 HK21
        go_wp2_with fail
        refine (num9_any _ _).mono ?_
        rintro e w' ⟨rfl, rfl⟩
        go_wp2_with fail
        refine (num9_any _ _).mono ?_
        rintro e w' ⟨rfl, rfl⟩
        go_wp2_with fail
        refine (hd_sync HK22.out.1 kN (by decide) (by first | omega | (simp only [tick_calls]; omega))).mono ?_
        rintro e w23 ⟨he, hd23, ht23⟩
        rw [off_sync HOF.out] at he hd23
        subst he
        have HK23 := Lib.hid (keep_touch HK22.out hd23 ht23)
        have HOF23 := Lib.hid (off_tick HOF.out).1
        clear hd23 ht23 HK22
        go_wp2_with fail
        refine (num9_any _ _).mono ?_
        rintro e w' ⟨rfl, rfl⟩
        go_wp2_with fail
        refine (hd_append HK23.out.1 kN (some ⟨kb, 0, none⟩) 86 86 keepL (by decide) (by first | omega | (simp only [tick_calls]; omega)) (keep_giv HK23.out)).mono ?_
        rintro e w24 ⟨he, hd24, ht24⟩
        rw [off_append HOF23.out keepL] at he hd24
        subst he
        have HK24 := Lib.hid (keep_touch HK23.out hd24 ht24)
        have HOF24 := Lib.hid (off_tick HOF23.out).1
        clear hd24 ht24 HK23
        go_wp2_with fail
        refine (num9_any _ _).mono ?_
        rintro e w' ⟨rfl, rfl⟩
        go_wp2_with fail
        refine (hd_cut HK24.out.1 kN 0 (by decide) (by first | omega | (simp only [tick_calls]; omega))).mono ?_
        rintro e w25 ⟨he, hd25, ht25⟩
        rw [off_cut HOF24.out] at he hd25
        subst he
        have HK25 := Lib.hid (keep_touch HK24.out hd25 ht25)
        have HOF25 := Lib.hid (off_tick HOF24.out).1
        clear hd25 ht25 HK24
        go_wp2_with fail
        refine (num9_any _ _).mono ?_
        rintro e w' ⟨rfl, rfl⟩
        go_wp2_with fail
        refine (hd_remove HK25.out.1 kN (by decide) (by first | omega | (simp only [tick_calls]; omega))).mono ?_
        rintro e w26 ⟨he, hd26, ht26⟩
        rw [off_remove HOF25.out] at he hd26
        subst he
        have HK26 := Lib.hid (keep_touch HK25.out hd26 ht26)
        have HOF26 := Lib.hid (off_tick HOF25.out).1
        clear hd26 ht26 HK25
        go_wp2_with fail
        refine (num9_any _ _).mono ?_
        rintro e w' ⟨rfl, rfl⟩
        go_wp2_with fail
        refine (hd_rename HK26.out.1 kN bA (by decide) (by decide) (by first | omega | (simp only [tick_calls]; omega))).mono ?_
        rintro e w27 ⟨he, hd27, ht27⟩
        rw [off_rename HOF26.out] at he hd27
        subst he
        have HK27 := Lib.hid (keep_touch HK26.out hd27 ht27)
        have HOF27 := Lib.hid (off_tick HOF26.out).1
        clear hd27 ht27 HK26
        go_wp2_with fail
        refine (num9_any _ _).mono ?_
        rintro e w' ⟨rfl, rfl⟩
        go_wp2_with fail
        refine (wakes9_any _).mono ?_
        rintro e w28 ⟨rfl, hb28⟩
        go_wp2_with fail
        go_ret
        exact ⟨rfl, hb12.trans ((HK27.out.2.2.trans (hb28.mono HK27.out.2.2.size)).mono hb12.size)⟩

end Go.Proofs.Ytejfilphnebckaa
