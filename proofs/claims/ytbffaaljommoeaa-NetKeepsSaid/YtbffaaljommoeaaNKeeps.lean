/-
  What is put in comes, each once, what is doubled once more: the walk of 'NetKeeps'.
-/
import Derived.Test.YtbffaaljommoeaaNKeepsD
import Derived.Deep.DeepCutAuto
import Derived.Deep.CutRange
namespace Go.Proofs.Ytbffaaljommoeaa
open Go.RowKit

set_option maxRecDepth 100000 in
set_option maxHeartbeats 8000000 in
theorem netKeeps_is (A : Option Addr) (n c : Nat) (L : List ActN) (w : World) (h : ScrN w A n c L) : Calls Try.prog 4 #[.slice A n c] w (Tells w.heap.size w (.bool true)) := by
  have HI : Hid (∀ wX, Below w.heap.size w wX → ScrN wX A n c L) := fun wX hX => h.below hX
  have HH := Lib.hid (heavy12_any A n c L w h)
  clear h
  go_enter Try.func4, Try.ntmps4
  go_wp2_with fail
  refine HH.out.mono ?_
  rintro e w' ⟨b, rfl, rfl, hlight⟩
  cases b with
  | true =>
    go_wp2_with fail
    go_ret
    exact ⟨rfl, Below.refl _ _⟩
  | false =>
    have HLI := Lib.hid (hlight rfl)
    clear hlight HH
    go_wp2_with fail
    refine (netg_new _).mono ?_
    rintro e w1 ⟨g, rfl, hg, hb1⟩
    have HG := Lib.hid hg
    clear hg
    go_upto_region 6 with fail
    go_cut [4] from 22 to 24 (fun v4 wx => w1 = wx ∧ ∃ m : Nat, v4 = .int .i64 m ∧ m ≤ n ∧ m ≤ 30)
    case first =>
      go_wp2_with fail
      · go_meet
        exact ⟨rfl, 30, rfl, by omega, by omega⟩
      · go_meet
        exact ⟨rfl, n, rfl, by omega, by omega⟩
    case rest =>
      obtain ⟨rfl, m, rfl, hmn, hm30⟩ := hcut
      go_wp2_with fail
      go_loopw [5] (fun i wr => ∃ k : Nat, i = .int .i64 k ∧ k ≤ m ∧ Hid (NetG (fun k => k < w.heap.size) wr g (net2 L (List.range k) (snN k))) ∧ Below w.heap.size w wr) (fun i _ => m - (intOf i).toNat)
      case atStart => exact ⟨0, rfl, by omega, by
        show NetG _ _ _ (net2 L [] [])
        rw [net2_none]
        exact HG.out, hb1⟩
      case round =>
        obtain ⟨k, rfl, hk, HN, hb⟩ := hrel
        have i0 : (0 : Int) ≤ (k : Int) := by omega
        by_cases hlt : k < m
        · have i1 : (k : Int) < (m : Int) := by omega
          have i2 : (k : Int) < (n : Int) := by omega
          have e1 : IntKind.u8.wrap (k : Int) = (k : Int) := by rw [IntKind.wrap_u8]; omega
          obtain ⟨b, off, a, hA, hbl, hx, hmem, hrg⟩ := (HI.out _ hb).at_ (k := k) (by omega)
          have hin := (HI.out _ hb).act a hmem
          have hfB := HLI.out k a (by omega) hx
          have c4 : wr.cell? ⟨b, off + k * 5 + 4, none⟩ = some (.slice a.A a.n a.c) := hrg 4 _ rfl
          obtain ⟨nB, hnB⟩ : ∃ nB, a.n = nB := ⟨_, rfl⟩
          rw [hnB] at c4 hfB
          obtain ⟨w2, hw2⟩ : ∃ w2, w2 = wr.alloc (.cells #[.int .u8 k] 5) := ⟨_, rfl⟩
          have hb2 : Below wr.heap.size wr w2 := by rw [hw2]; exact (Below.refl _ _).alloc (Nat.le_refl _) _
          have ho2 : w2.ownsRow wr.heap.size 5 1 (.slice (some ⟨wr.heap.size, 0, none⟩) 1 1) 1 (u8s [(k : Int)]) := by
            rw [hw2]
            exact ownS_new wr wr.heap.size 5 1 1 (u8s [(k : Int)]) rfl (by unfold maxLen; omega) (Nat.le_refl _)
          have c42 : w2.cell? ⟨b, off + k * 5 + 4, none⟩ = some (.slice a.A nB a.c) := (hb2.cell (p := ⟨b, off + k * 5 + 4, none⟩) hbl).trans c4
          have hzB : nB = (u8s a.bs).length := by rw [u8s_length, hin.z, hnB]
          have hr2 : Rd w2 a.A (u8s a.bs) := hin.r.below hb2
          have hmk : mN L k = (k : Int) :: a.bs := by rw [mN, bsN_at hx]
          have hz2 := hb2.size
          have hput : ∀ (w3 : World) (A3 : Option Addr) (c3 : Nat), w3.ownsRow wr.heap.size 5 1 (.slice A3 (1 + nB) c3) (1 + nB) (u8s [(k : Int)] ++ u8s a.bs) → Below wr.heap.size w2 w3 → Calls Try.prog 20 #[.pointer (some ⟨g, 0, none⟩), .int .i64 1, .int .i64 2, .slice A3 (1 + nB) c3] w3 fun e w' => e = .returned (.int .i64 0) ∧ NetG (fun k => k < w.heap.size) w' g (net2 L (List.range (k + 1)) (snN k)) ∧ Touch (fun j => ¬ j < w.heap.size) w3 w' := by
            intro w3 A3 c3 ho3 hb3
            obtain ⟨A', c', e', _, _, hr3, _, _⟩ := own_val ho3
            cases e'
            rw [← u8s_append, show [(k : Int)] ++ a.bs = mN L k by rw [hmk]; rfl] at hr3
            have hst := net2_puts (L := L) (P := List.range k) (Q := snN k) k (by simp; omega)
            rw [← List.range_succ] at hst
            refine netg_put (HN.out.kept (hb2.trans hb3)) 1 2 A3 (1 + nB) c3 (mN L k) (by omega) (by omega) ?_ hr3 ?_ (by omega) hst
            · rw [hmk, List.length_cons, hin.z, hnB]; omega
            · rw [hmk]; exact Byts.cons ⟨by omega, by omega⟩ hin.y
          have HPUT := Lib.hid hput
          have HO2 := Lib.hid ho2
          have HR2 := Lib.hid hr2
          have HW2 := Lib.hid hw2
          have HZB := Lib.hid hzB
          have HA := Lib.hid hA
          subst hA
          clear hput ho2 hr2 hw2 hzB hmk hin hx hmem hrg hnB HA
          go_wp2_with (at_builtin; rw [← HW2.out]; refine wpList_app_list _ rfl _ _ 30 rfl wr.heap.size 5 (.int .u8 0) 1 Try.underlying30 info_u8 rfl (by decide) _ 1 (u8s [(k : Int)]) rfl HO2.out a.A nB a.c (u8s a.bs) rfl HZB.out HR2.out (u8s_one _) (by omega) hz2 ?_; intro v3 w3 ho3 hb3)
          obtain ⟨A3, c3, rfl, _, _, _, _, _⟩ := own_val ho3
          have hbw2 := hb.trans (hb2.mono hb.size)
          have hbw3 : Below w.heap.size w w3 := hbw2.trans (hb3.mono hb.size)
          have HP3 := Lib.hid (HPUT.out w3 A3 c3 ho3 hb3)
          clear ho3 hb3 hb2 hbw2 HPUT HO2 HR2 HW2 HZB c4 c42
          refine HP3.out.mono ?_
          rintro e w4 ⟨rfl, hn4, ht4⟩
          have hb4 := hbw3.trans (touch_low ht4 (fun _ hk => hk) hbw3.size)
          have HN4 := Lib.hid hn4
          clear hn4 ht4 HP3 hbw3
          go_wp2_with fail
          refine (num12_any _ _).mono ?_
          rintro e w' ⟨rfl, rfl⟩
          obtain ⟨w5, hw5⟩ : ∃ w5, w5 = w4.alloc (.cells #[.int .u8 k] 5) := ⟨_, rfl⟩
          have hb5 : Below w4.heap.size w4 w5 := by rw [hw5]; exact (Below.refl _ _).alloc (Nat.le_refl _) _
          have hr5 : Rd w5 (some ⟨w4.heap.size, 0, none⟩) (u8s (oneN k)) := by rw [hw5]; exact rd_new w4 (u8s (oneN k)) _
          have hst := net2_puts2 (L := L) (P := List.range (k + 1)) (Q := snN k) (oneN k) (by rw [snN_length]; omega)
          rw [← snN_next] at hst
          have HP5 := Lib.hid (netg_put (HN4.out.kept hb5) 2 1 (some ⟨w4.heap.size, 0, none⟩) 1 1 (oneN k) (by omega) (by omega) rfl hr5 (Byts.cons ⟨by omega, by omega⟩ Byts.nil) (by omega) hst)
          have hb05 := hb4.trans (hb5.mono hb4.size)
          have HW5 := Lib.hid hw5
          clear hst hr5 hw5 hb5 HN4
          go_wp2_with fail
          rw [← HW5.out]
          refine HP5.out.mono ?_
          rintro e w6 ⟨rfl, hn6, ht6⟩
          have hb6 := hb05.trans (touch_low ht6 (fun _ hk => hk) hb05.size)
          have HN6 := Lib.hid hn6
          clear hn6 ht6 HP5 hb05 HW5
          go_wp2_with fail
          refine (num12_any _ _).mono ?_
          rintro e w' ⟨rfl, rfl⟩
          go_wp2_with fail
          go_roundw
          case rel => exact ⟨k + 1, by go_num, by omega, HN6.out, hb6⟩
          case measure => simp [intOf]; omega
        · obtain rfl : k = m := by omega
          have i1 : ¬ ((k : Int) < (k : Int)) := by omega
          clear hlt hk hb1 HG
          obtain ⟨T, hT⟩ : ∃ T : Nat, T = if k = 0 then 0 else k + 1 := ⟨_, rfl⟩
          go_upto_region 12 with fail
          go_cut [59] from 52 to 59 (fun tv wx => tv = .bool false ∧ ∃ P : List Nat, Hid (SeenOk k (fun _ => 0) P) ∧ P.length = T ∧ Hid (NetG (fun j => j < w.heap.size) wx g (net2 L P (snN k))) ∧ Below w.heap.size w wx)
          case first =>
            by_cases h0 : k = 0
            · have HK := Lib.hid h0
              have i3 : ¬ ((0 : Int) < (k : Int)) := by omega
              clear h0
              go_wp2_with fail
              go_meet
              have h0 := HK.out
              refine ⟨rfl, [], ⟨fun i hi => by omega, fun p hp => by simp at hp⟩, by rw [hT, if_pos h0]; rfl, ?_, hb⟩
              have := HN.out
              rwa [show List.range k = [] by rw [h0]; rfl] at this
            · have i3 : (0 : Int) < (k : Int) := by omega
              have HD := Lib.hid (netg_double HN.out 1 2 0 (by omega) (by omega) (net2_double (range_zero (by omega)) (by simp; omega)))
              have HK := Lib.hid h0
              clear h0
              go_wp2_with fail
              refine HD.out.mono ?_
              rintro e w2 ⟨rfl, hn2, ht2⟩
              have hb2 := hb.trans (touch_low ht2 (fun _ hk => hk) hb.size)
              have HN2 := Lib.hid hn2
              clear hn2 ht2 HD
              go_wp2_with fail
              refine (num12_any _ _).mono ?_
              rintro e w' ⟨rfl, rfl⟩
              go_wp2_with fail
              go_meet
              have h0 := HK.out
              exact ⟨rfl, _, seen_start (by omega), by rw [hT, if_neg h0]; simp, HN2.out, hb2⟩
          case rest =>
            obtain ⟨rfl, P0, HS0, hP0, HN0, hb0⟩ := hcut
            have hT2 : T ≤ 2 * k + 1 := by rw [hT]; split <;> omega
            have hz := fun w => seen_zero w
            clear hT HN hb
            clear i1
            obtain ⟨gs, hgs⟩ : ∃ gs, gs = wc.heap.size := ⟨_, rfl⟩
            obtain ⟨w6, hw6⟩ : ∃ w6, w6 = wc.alloc (.cells seenZ 49) := ⟨_, rfl⟩
            have hb6 : Below wc.heap.size wc w6 := by rw [hw6]; exact (Below.refl _ _).alloc (Nat.le_refl _) _
            have hs6 : SeenIn w6 gs (fun _ => 0) := by rw [hw6, hgs]; exact seen_new wc _
            have hz6 : w6.heap.size = gs + 1 := by rw [hw6, hgs]; simp
            have hn6 : NetG (fun j => j < w.heap.size ∨ j = gs) w6 g (net2 L P0 (snN k)) := (HN0.out.wide hb6).less fun j hj => by
              rcases hj with hj | hj
              · exact .inl hj
              · exact .inr ⟨by omega, by omega⟩
            have hb06 := hb0.trans (hb6.mono hb0.size)
            have hgs0 : w.heap.size ≤ gs := by rw [hgs]; exact hb0.size
            have HW6 := Lib.hid hw6
            have HS6 := Lib.hid hs6
            have HN6 := Lib.hid hn6
            have HGS := Lib.hid hgs
            clear hw6 hs6 hn6 hb6 hz6 hb0 HN0 hgs
            go_upto_region 15 with fail
            rw [← HW6.out, ← HGS.out]
            clear HW6 HGS
            go_wp2_with fail
            go_loopw [7] (fun i wr => ∃ (q : Nat) (P : List Nat) (s : Nat → Nat), i = .int .i64 q ∧ q + P.length = T ∧ Hid (SeenOk k s P) ∧ Hid (SeenIn wr gs s) ∧ Hid (NetG (fun j => j < w.heap.size ∨ j = gs) wr g (net2 L P (snN k))) ∧ Below w.heap.size w wr) (fun i _ => T - (intOf i).toNat)
            case atStart => exact ⟨0, P0, _, rfl, by omega, HS0.out, HS6.out, HN6.out, hb06⟩
            case round =>
              obtain ⟨q, P, s, rfl, hq, HSO, HSI, HN, hb⟩ := hrel
              clear HS0 hP0 HS6 HN6 hb06
              have HC := Lib.hid (fun d => netg_count (HN.out.kept (below_n (Below.refl _ _) d)) 1 2 (by omega) (by omega) (n := P.length) (by rw [net2_at12, List.length_map]))
              have hcnt : Calls Try.prog 22 #[.pointer (some ⟨g, 0, none⟩), .int .i64 1, .int .i64 2] wr fun e w' => e = .returned (.int .i64 (P.length : Nat)) ∧ wr = w' := netg_count HN.out 1 2 (by omega) (by omega) (n := P.length) (by rw [net2_at12, List.length_map])
              obtain ⟨nP, hnP⟩ : ∃ nP, P.length = nP := ⟨_, rfl⟩
              rw [hnP] at hq hcnt HC
              have HNP := Lib.hid hnP
              have HCN := Lib.hid hcnt
              clear hcnt hnP
              go_wp2_with fail
              refine HCN.out.mono ?_
              rintro e w' ⟨rfl, rfl⟩
              by_cases hp0 : nP = 0
              · subst hp0
                have hPn : P = [] := List.eq_nil_of_length_eq_zero HNP.out
                subst hPn
                have HWA : Hid (∀ i, i < k → s i = wantN i) := fun i hi => by have := HSO.out.1 i hi; simpa using this
                clear HNP HSO HC HCN hq
                go_wp2_with fail
                go_loopw [11] (fun i wz => ∃ j : Nat, i = .int .i64 j ∧ j ≤ k ∧ Hid (SeenIn wz gs s) ∧ Hid (NetG (fun j => j < w.heap.size ∨ j = gs) wz g (net2 L [] ((snN k).drop j))) ∧ Below w.heap.size w wz) (fun i _ => k - (intOf i).toNat)
                case atStart => exact ⟨0, rfl, by omega, HSI.out, HN.out, hb⟩
                case round =>
                  obtain ⟨j, rfl, hj, HS3, HN3, hb3⟩ := hrel
                  clear hb HSI HN
                  by_cases hjk : j < k
                  · have i3 : (j : Int) < (k : Int) := by omega
                    have i4 : (0 : Int) ≤ (j : Int) := by omega
                    have i5 : (j : Int) < 40 := by omega
                    have i6 : j < 40 := by omega
                    have hdr : (snN k).drop j = oneN j :: (snN k).drop (j + 1) := by
                      rw [List.drop_eq_getElem_cons (by rw [snN_length]; exact hjk)]
                      simp [snN]
                    have hn3 := HN3.out
                    rw [hdr] at hn3
                    have HTK := Lib.hid (netg_take hn3 0 1 (oneN j) 2 1 (by omega) (by omega) both21 net2_msg2 rfl net2_del2)
                    have hwj := HWA.out j hjk
                    have e1 : IntKind.u8.wrap (j : Int) = (j : Int) := by rw [IntKind.wrap_u8]; omega
                    have fin : ∀ (w4 : World) (g4 c4 : Nat), Wr w4 g4 c4 1 (oneN j) → NetG (fun x => (x < w.heap.size ∨ x = gs) ∨ x = g4) w4 g (net2 L [] ((snN k).drop (j + 1))) → Touch (fun x => ¬ (x < w.heap.size ∨ x = gs)) wr w4 →
                        SeenIn w4 gs s ∧ Below w.heap.size w w4 ∧ NetG (fun x => x < w.heap.size ∨ x = gs) w4 g (net2 L [] ((snN k).drop (j + 1))) ∧
                        Calls Try.prog 12 #[.slice (some ⟨g4, 0, none⟩) 1 c4, .slice (some ⟨w4.heap.size, 0, none⟩) 1 1] (w4.alloc (.cells #[.int .u8 j] 5)) fun e w' => e = .returned (.bool true) ∧ Below w4.heap.size w4 w' := by
                      intro w4 g4 c4 hwr hn ht
                      refine ⟨HS3.out.touch ht fun h => h (.inr rfl), hb3.trans (touch_low ht (fun _ hk => .inl hk) hb3.size), hn.less fun x hx => .inl hx, ?_⟩
                      have hbA : Below w4.heap.size w4 (w4.alloc (.cells #[.int .u8 j] 5)) := (Below.refl _ _).alloc (Nat.le_refl _) _
                      refine (eqBytes_any (some ⟨g4, 0, none⟩) (some ⟨w4.heap.size, 0, none⟩) c4 1 1 1 (oneN j) (oneN j) _ rfl rfl (hwr.rd.below hbA) (rd_new w4 (u8s (oneN j)) _) (by omega) (by omega)).mono ?_
                      rintro e w' ⟨rfl, d, rfl⟩
                      exact ⟨by simp, below_n hbA d⟩
                    have HF := Lib.hid fin
                    clear fin hn3 hdr hb3
                    by_cases hj0 : j = 0
                    · rw [wantN, if_pos hj0] at hwj
                      have j5 : ((j : Int) == 0) = true := by simp; omega
                      have HWJ := Lib.hid hwj
                      have HJ0 := Lib.hid hj0
                      clear hwj hj0
                      go_wp2_with fail
                      refine HTK.out.mono ?_
                      rintro e w4 ⟨g4, c4, rfl, hwr4, _, hn4, ht4⟩
                      obtain ⟨hs4, hb4, hn4', heq⟩ := HF.out w4 g4 c4 hwr4 hn4 ht4
                      have k4 := hs4.cell j i6
                      rw [HWJ.out] at k4
                      have HS4 := Lib.hid hs4
                      have HN4 := Lib.hid hn4'
                      have HEQ := Lib.hid heq
                      clear hwr4 hn4 ht4 hs4 hn4' heq HTK HF HS3 HN3
                      go_wp2_with fail
                      refine (num12_any _ _).mono ?_
                      rintro e w' ⟨rfl, rfl⟩
                      go_wp2_with fail
                      refine HEQ.out.mono ?_
                      rintro e w5 ⟨rfl, hb5⟩
                      go_wp2_with fail
                      go_roundw
                      case rel => exact ⟨j + 1, by go_num, by omega, HS4.out.below hb5, HN4.out.kept hb5, hb4.trans (hb5.mono hb4.size)⟩
                      case measure => simp [intOf]; omega
                    · rw [wantN, if_neg hj0] at hwj
                      have j5 : ((j : Int) == 0) = false := by simp; omega
                      have HWJ := Lib.hid hwj
                      have HJ0 := Lib.hid hj0
                      clear hwj hj0
                      go_wp2_with fail
                      refine HTK.out.mono ?_
                      rintro e w4 ⟨g4, c4, rfl, hwr4, _, hn4, ht4⟩
                      obtain ⟨hs4, hb4, hn4', heq⟩ := HF.out w4 g4 c4 hwr4 hn4 ht4
                      have k4 := hs4.cell j i6
                      rw [HWJ.out] at k4
                      have HS4 := Lib.hid hs4
                      have HN4 := Lib.hid hn4'
                      have HEQ := Lib.hid heq
                      clear hwr4 hn4 ht4 hs4 hn4' heq HTK HF HS3 HN3
                      go_wp2_with fail
                      refine (num12_any _ _).mono ?_
                      rintro e w' ⟨rfl, rfl⟩
                      go_wp2_with fail
                      refine HEQ.out.mono ?_
                      rintro e w5 ⟨rfl, hb5⟩
                      go_wp2_with fail
                      go_roundw
                      case rel => exact ⟨j + 1, by go_num, by omega, HS4.out.below hb5, HN4.out.kept hb5, hb4.trans (hb5.mono hb4.size)⟩
                      case measure => simp [intOf]; omega
                  · have i3 : ¬ ((j : Int) < (k : Int)) := by omega
                    have hz : (snN k).drop j = [] := List.drop_of_length_le (by rw [snN_length]; omega)
                    have hn3 := HN3.out
                    rw [hz] at hn3
                    have HTK := Lib.hid (netg_none hn3 1 2 0 (by omega) (by omega) net2_no)
                    have HCT := Lib.hid (netg_count hn3 2 1 (by omega) (by omega) (n := 0) (by rw [net2_at21]; rfl))
                    clear hn3 hz
                    go_wp2_with fail
                    refine HTK.out.mono ?_
                    rintro e w' ⟨rfl, rfl⟩
                    go_wp2_with fail
                    refine (num12_any _ _).mono ?_
                    rintro e w' ⟨rfl, rfl⟩
                    go_wp2_with fail
                    refine HCT.out.mono ?_
                    rintro e w' ⟨rfl, rfl⟩
                    go_wp2_with fail
                    refine (wakes12_any _).mono ?_
                    rintro e w4 ⟨rfl, hb4⟩
                    have hb04 := hb3.trans (hb4.mono hb3.size)
                    go_wp2_with fail
                    go_ret
                    exact ⟨rfl, hb04⟩
              · have i2 : (0 : Int) < (nP : Int) := by omega
                have hk0 : 0 < k := by
                  obtain ⟨p, hp⟩ : ∃ p, p ∈ P := List.exists_mem_of_length_pos (by rw [HNP.out]; omega)
                  have := HSO.out.2 p hp
                  omega
                obtain ⟨d, hd⟩ : ∃ d, q % k = d := ⟨_, rfl⟩
                have hdk : d < k := by rw [← hd]; exact Nat.mod_lt _ hk0
                have hq6 : q ≤ 1000000 := by omega
                obtain ⟨b, off, a, hA, hbl, hx, hmem, hrg⟩ := (HI.out _ hb).at_ (k := d) (by omega)
                have c3 : wr.cell? ⟨b, off + d * 5 + 3, none⟩ = some (.int .i64 a.k) := hrg 3 _ rfl
                obtain ⟨r, hr, hrv⟩ := within_val a.k nP (by omega) (by omega)
                have hwi : ∀ m, Calls Try.prog 8 #[.int .i64 a.k, .int .i64 nP] (wr.drewN m) fun e w' => e = .returned (.int .i64 r) ∧ wr.drewN m = w' := fun m => within_is a.k nP r _ hrv (by omega) (by omega)
                have HWI := Lib.hid hwi
                have j1 : ((k : Int) == 0) = false := by simp; omega
                have j2 : ¬ ((k : Int) = 0) := by omega
                have j3 : (0 : Int) ≤ (d : Int) := by omega
                have j4 : (d : Int) < (n : Int) := by omega
                subst hA
                obtain ⟨hd1, hd2, hd3⟩ := remN hd hq6
                clear hwi hrv hx hmem hrg hd HCN hq6
                go_wp2_with fail
                go_quiet ((first | (go_at_call 22; exact quiet_leftK (HC.out _)) | (go_at_call 8; exact quiet_leftK (HWI.out _))))
                clear c3 hd1 hd2 hd3 HC HWI j3 j4
                generalize hw7 : World.drewN wr _ = w7
                have hb7 : Below wr.heap.size wr w7 := by rw [← hw7]; exact below_n (Below.refl _ _) _
                have hb07 := hb.trans (hb7.mono hb.size)
                obtain ⟨p, hp⟩ : ∃ p, P[r]? = some p := ⟨P[r]'(by rw [HNP.out]; exact hr), by simp [HNP.out, hr]⟩
                have hpk := HSO.out.2 p (List.mem_of_getElem? hp)
                obtain ⟨b2, off2, a2, hA2, hbl2, hx2, hmem2, hrg2⟩ := (HI.out _ hb07).at_ (k := p) (by omega)
                cases hA2
                have hin2 := (HI.out _ hb07).act a2 hmem2
                have hf2 := HLI.out p a2 (by omega) hx2
                obtain ⟨nB, hnB⟩ : ∃ nB, a2.n = nB := ⟨_, rfl⟩
                rw [hnB] at hf2
                have hmp : mN L p = (p : Int) :: a2.bs := by rw [mN, bsN_at hx2]
                obtain ⟨nb, hnb⟩ : ∃ nb, 1 + nB = nb := ⟨_, rfl⟩
                have hlen2 : ((p : Int) :: a2.bs).length = nb := by rw [List.length_cons, hin2.z, hnB]; omega
                have hnp : ((List.take r P) ++ (List.drop (r + 1) P)).length + 1 = nP := by
                  have := HNP.out
                  simp; omega
                have HTK := Lib.hid (netg_take (HN.out.kept hb7) r nb (mN L p) 1 2 (by omega) (by omega) both12 (net2_msg hp) (by rw [hmp]; exact hlen2) (net2_del r))
                have HSN := Lib.hid (seen_next HSO.out hp)
                obtain ⟨P', hP'⟩ : ∃ P', List.take r P ++ List.drop (r + 1) P = P' := ⟨_, rfl⟩
                rw [hP'] at HTK HSN hnp
                rw [hmp] at HTK
                have HIN := Lib.hid hin2
                have HX2 := Lib.hid hx2
                have HMEM := Lib.hid hmem2
                have hsp : s p ≤ 2 := by
                  have h1 := HSO.out.1 p hpk
                  have h2 : wantN p ≤ 2 := by unfold wantN; split <;> omega
                  omega
                have HNB := Lib.hid hnB
                have HSI7 := Lib.hid (HSI.out.below hb7)
                clear hw7 hb7 hmp hlen2 hin2 hrg2 hnB hx2 hmem2 hp hP' HNP HSO HN HSI hbl2
                go_wp2_with fail
                refine HTK.out.mono ?_
                rintro e w8 ⟨g8, c8, rfl, hwr8, hg8, hn8, ht8⟩
                have hb08 := hb07.trans (touch_low ht8 (fun _ hk => .inl hk) hb07.size)
                have HSI8 := Lib.hid (HSI7.out.touch ht8 fun hn => hn (.inr rfl))
                have k0 : w8.cell? ⟨g8, 0, none⟩ = some (.int .u8 p) := hwr8.cells 0 _ rfl
                have hc8 := hwr8.hc
                have hm8 := hwr8.hm
                have hdr : Rd w8 (if c8 = 1 then some ⟨g8, 0, none⟩ else some ⟨g8, 1, none⟩) (u8s a2.bs) := by
                  have := hwr8.rd.cut (k := 1) (c := c8) (by rw [u8s_length, hwr8.hz]; exact hc8)
                  exact this
                have hin8 := (HI.out _ hb08).act a2 HMEM.out
                obtain ⟨b3, off3, a3, hA3, hbl3, hx3, _, hrg3⟩ := (HI.out _ hb08).at_ (k := p) (by omega)
                cases hA3
                rw [HX2.out] at hx3
                cases hx3
                have k4 : w8.cell? ⟨b, off + p * 5 + 4, none⟩ = some (.slice a2.A nB a2.c) := by
                  have := hrg3 4 _ rfl
                  rwa [HNB.out] at this
                have HR8 := Lib.hid hin8.r
                have HEQ : Hid (∀ (A' : Option Addr) (cc m : Nat), Rd w8 A' (u8s a2.bs) → Calls Try.prog 12 #[.slice A' (nb - 1) cc, .slice a2.A nB a2.c] (w8.drewN m) fun e w' => e = .returned (.bool true) ∧ ∃ d, w' = (w8.drewN m).drewN d) := fun A' cc m hA' => by
                  have := eqBytes_any A' a2.A cc a2.c (nb - 1) nB a2.bs a2.bs (w8.drewN m) (by rw [HIN.out.z, HNB.out]; omega) (by rw [HIN.out.z, HNB.out]) (hA'.drewN m) (HR8.out.drewN m) (by omega) (by omega)
                  rwa [decide_eq_true rfl] at this
                have q1 : ((nb : Int) == 0) = false := by simp; omega
                have q2 : (0 : Int) < (nb : Int) := by omega
                have q2' : 0 < nb := by omega
                have q2d : decide (0 < nb) = true := by simp; omega
                have q3 : (1 : Int) ≤ (nb : Int) := by omega
                have q3' : 1 ≤ nb := by omega
                have q4 : (nb : Int) ≤ (c8 : Int) := by omega
                have q5 : IntKind.i64.wrap (p : Int) = (p : Int) := IntWalk.i64_in _ (by omega)
                have q6 : ¬ ((k : Int) ≤ (p : Int)) := by omega
                have q7 : decide ((k : Int) ≤ (p : Int)) = false := by simp; omega
                have q8 : IntKind.i64.wrap (2 * (k : Int)) = 2 * (k : Int) := IntWalk.i64_in _ (by omega)
                have q9 : ¬ (2 * (k : Int) < (q : Int)) := by omega
                have q10 : decide (2 * (k : Int) < (q : Int)) = false := by simp; omega
                have q6' : ¬ (k ≤ p) := by omega
                have q7' : decide (k ≤ p) = false := by simp; omega
                have q11 : (0 : Int) ≤ (p : Int) := by omega
                have q12 : (p : Int) < (n : Int) := by omega
                have HN8 := Lib.hid hn8
                have hg8n : g8 ≠ gs := by have := HSI7.out.lt; omega
                clear hm8 ht8 hwr8 hn8 HTK hin8 hrg3 HX2 HMEM HR8 HIN HNB HI HLI
                go_upto_region 20 with fail
                go_cut [115] from 81 to 115 (fun tv wx => tv = .bool false ∧ ∃ nq, w8.drewN nq = wx)
                case first =>
                  by_cases h1 : c8 = 1
                  · rw [if_pos h1] at hdr
                    have HDR := Lib.hid hdr
                    subst h1
                    obtain rfl : nb = 1 := by omega
                    have HEQ1 : Hid (∀ (cc m : Nat), Calls Try.prog 12 #[.slice (some ⟨g8, 0, none⟩) 0 cc, .slice a2.A nB a2.c] (w8.drewN m) fun e w' => e = .returned (.bool true) ∧ ∃ d, w' = (w8.drewN m).drewN d) := fun cc m => HEQ.out _ cc m HDR.out
                    clear hdr HEQ HDR
                    go_quiet ((first | (go_at_call 11; exact quiet_leftK (num12_any _ _)) | (go_at_call 12; exact quiet_more (HEQ1.out _ _))))
                    go_wp2_with fail
                    go_meet
                    exact ⟨rfl, _, rfl⟩
                  · rw [if_neg h1] at hdr
                    have HDR := Lib.hid hdr
                    clear hdr
                    go_quiet ((first | (go_at_call 11; exact quiet_leftK (num12_any _ _)) | (go_at_call 12; exact quiet_more (HEQ.out _ _ _ HDR.out))))
                    go_wp2_with fail
                    go_meet
                    exact ⟨rfl, _, rfl⟩
                case rest =>
                  obtain ⟨rfl, nq, hw9⟩ := hcut
                  have hb9 : Below w8.heap.size w8 wc := by rw [← hw9]; exact below_n (Below.refl _ _) _
                  have hb09 := hb08.trans (hb9.mono hb08.size)
                  have hs9 := HSI8.out.below hb9
                  have hg8l : g8 < w8.heap.size := by
                    have := lt_of_cell k0
                    exact this
                  have k9 : wc.cell? ⟨g8, 0, none⟩ = some (.int .u8 p) := (hb9.cell (p := ⟨g8, 0, none⟩) hg8l).trans k0
                  have c9 := hs9.cell p (by omega)
                  have f9 := hs9.thaw p
                  obtain ⟨x, hx⟩ : ∃ x, s p = x := ⟨_, rfl⟩
                  rw [hx] at c9 hsp
                  have q13 : IntKind.i64.wrap ((x : Int) + 1) = (x : Int) + 1 := IntWalk.i64_in _ (by omega)
                  have q14 : (p : Int) < 40 := by omega
                  have q15 : p < 40 := by omega
                  have hup := hs9.up q15
                  rw [hx] at hup
                  have HUP := Lib.hid hup
                  have hnn := (HN8.out.less (G' := fun j => j < w.heap.size ∨ j = gs) (fun j hj => .inl hj)).kept hb9
                  have hnn2 := hnn.keptT (S := fun j => j = gs) ((Touch.refl (fun j => j = gs) wc).set (b := gs) (o := p) (.inl rfl) (.int .i64 ((x + 1 : Nat) : Int))) (fun j hj => .inr hj)
                  have HNN := Lib.hid hnn2
                  have hbz := hb09.setCell (p := ⟨gs, p, none⟩) hgs0 (.int .i64 ((x + 1 : Nat) : Int))
                  have HBZ := Lib.hid hbz
                  clear hup hnn hnn2 hbz hs9 hb9 hw9 k0 k4 hdr HEQ hx HSI8 HN8 hb07 hb08 hg8l HSI7
                  go_wp2_with fail
                  go_roundw
                  case rel =>
                    exact ⟨q + 1, P', upS s p, by go_num, by omega, HSN.out, by show SeenIn _ _ _; have := HUP.out; simpa using this, by show NetG _ _ _ _; have := HNN.out; simpa using this, by have := HBZ.out; simpa using this⟩
                  case measure => simp [intOf]; omega

end Go.Proofs.Ytbffaaljommoeaa
