/-
  The walk of 'PathReaches'.
-/
import Derived.Test.YtfldfillcmamcaaQLaw
import Derived.Test.YtfldfillcmamcaaQRef
import Derived.Test.YtfldfillcmamcaaYRMay
namespace Go.Proofs.Ytfldfillcmamcaa
open Go.RowKit

set_option maxRecDepth 100000 in
set_option maxHeartbeats 8000000 in
theorem pathReaches_walk (q : AskQ) (w : World) (h : AskQIn w q) : Calls Try.prog 9 #[askQV q] w fun e w' => e = .returned (.bool true) ∧ Below w.heap.size w w' := by
  obtain ⟨g, hg⟩ : ∃ g, g = w.heap.size := ⟨_, rfl⟩
  obtain ⟨w1, hw1⟩ : ∃ w1, w1 = w.alloc (.cells (askQC q).toArray 71) := ⟨_, rfl⟩
  obtain ⟨hb1, hsz, hx0⟩ := boxes1 w _ _ hw1
  rw [← hg] at hb1 hsz hx0
  have HG : Hid (w.heap.size = g) := hg.symm
  have HW : Hid (w.alloc (.cells #[.int .i64 q.N, .int .i64 q.L, .slice q.o.A q.o.n q.o.c, .slice q.oi.A q.oi.n q.oi.c, .slice q.oj.A q.oj.n q.oj.c] 71) = w1) := hw1.symm
  have HB := Lib.hid hb1
  have HX := Lib.hid hx0
  have HQ : Hid (∀ wX, Below g w wX → AskQIn wX q) := fun wX hb => h.below (by rw [← hg]; exact hb)
  have HH := Lib.hid (heavyQ_is q w1 (h.below (by rw [← hg]; exact hb1)))
  have HD : Hid (∀ wX, Below w1.heap.size w1 wX → wX.cell? ⟨g, 0, none⟩ = some (.int .i64 q.N) ∧ wX.cell? ⟨g, 1, none⟩ = some (.int .i64 q.L) ∧ wX.cell? ⟨g, 2, none⟩ = some (.slice q.o.A q.o.n q.o.c) ∧ wX.cell? ⟨g, 3, none⟩ = some (.slice q.oi.A q.oi.n q.oi.c) ∧ wX.cell? ⟨g, 4, none⟩ = some (.slice q.oj.A q.oj.n q.oj.c)) := fun wX hb => askQ_cells (HX.out.below hb HX.out.1)
  obtain ⟨a0, a1, a2, a3, a4⟩ := askQ_cells hx0
  have hgs := hx0.1
  clear hg hw1 hb1 hsz hx0 h
  rw [HG.out]
  unfold askQV at HH ⊢
  go_enter Try.func9, Try.ntmps9
  go_upto_region 1 with fail
  rw [HG.out, HW.out]
  go_wp2_with (go_at_call 41; refine HH.out.mono ?_; rintro e w2 ⟨b, rfl, hlight, hb2⟩; obtain ⟨e0, e1, e2, e3, e4⟩ := HD.out w2 hb2; cases b)
  · have hbw2 := HB.out.trans (hb2.mono (Nat.le_of_lt hgs))
    have HGI : Hid (∀ wX, Below w1.heap.size w1 wX → GIn wX q.o q.l) := fun wX hb => (HQ.out wX (HB.out.trans (hb.mono (Nat.le_of_lt hgs)))).d.gin (hlight (by simp)).d (by decide)
    have hn30 : q.oi.n ≤ 30 := by have := (hlight (by simp)).i; have := (HQ.out _ hbw2).i.len; omega
    have hn30j : q.oj.n ≤ 30 := by have := (hlight (by simp)).j; have := (HQ.out _ hbw2).j.len; omega
    have HLI : Hid (q.zs.length = q.oi.n) := (HQ.out _ hbw2).i.len
    have HLJ : Hid (q.ws.length = q.oj.n) := (HQ.out _ hbw2).j.len
    have HB12 := Lib.hid hb2
    clear hlight HH
    have HMY : Hid (∀ wX, Below w1.heap.size w1 wX → Calls Try.prog 20 #[.agg #[.int .i64 q.N, .int .i64 q.L, .slice q.o.A q.o.n q.o.c]] wX (RetMay q.N q.L q.l wX)) := fun wX hb => rMay_is q.N q.L q.o q.l wX (HGI.out wX hb)
    go_upto_region 4 with (go_at_call 20; refine (HMY.out _ hb2).mono ?_; rintro e w3 ⟨bm, rfl, hbm, hb3⟩)
    have HBM := Lib.hid hbm
    have HB13 : Hid (Below w1.heap.size w1 w3) := hb2.trans (hb3.mono hb2.size)
    clear e0 e1 e2 e3 e4 hbm hb3 hb2 HMY
    go_wp2_with fail
    go_loopw [4] (fun i wr => ∃ t : Nat, i = .int .i64 t ∧ t ≤ q.oi.n ∧ Hid (Below w1.heap.size w1 wr)) (fun i _ => q.oi.n - (intOf i).toNat)
    case atStart => exact ⟨0, rfl, Nat.zero_le _, HB13.out⟩
    case round =>
      clear a0 a1 a2 a3 a4
      obtain ⟨t, rfl, ht, HBT⟩ := hrel
      obtain ⟨e0, e1, e2, e3, e4⟩ := HD.out wr HBT.out
      by_cases hlt : t < q.oi.n
      · have i0 : (0 : Int) ≤ (t : Int) := by omega
        have i1 : (t : Int) < (q.oi.n : Int) := by omega
        go_upto_region 8 with fail
        clear e0 e1 e2 e3 e4
        go_loopw [5] (fun i wr => ∃ k : Nat, i = .int .i64 k ∧ k ≤ q.oi.n ∧ Hid (Below w1.heap.size w1 wr)) (fun i _ => q.oi.n - (intOf i).toNat)
        case atStart => exact ⟨0, rfl, Nat.zero_le _, HBT.out⟩
        case round =>
          obtain ⟨k, rfl, hk, HBK⟩ := hrel
          obtain ⟨e0, e1, e2, e3, e4⟩ := HD.out wr HBK.out
          by_cases hkt : k < q.oi.n
          · have j0 : (0 : Int) ≤ (k : Int) := by omega
            have j1 : (k : Int) < (q.oi.n : Int) := by omega
            obtain ⟨za, hza⟩ : ∃ z, q.zs[t]? = some z := ⟨_, List.getElem?_eq_getElem (by rw [HLI.out]; exact hlt)⟩
            obtain ⟨zb, hzb⟩ : ∃ z, q.zs[k]? = some z := ⟨_, List.getElem?_eq_getElem (by rw [HLI.out]; exact hkt)⟩
            have HSI := Lib.hid (HQ.out wr (HB.out.trans (HBK.out.mono (Nat.le_of_lt hgs)))).i
            obtain ⟨b, off, hA, hbl, hcell⟩ := HSI.out.rd.open_ (by rw [i64s_length, HLI.out]; omega)
            have HCA : Hid (wr.cell? ⟨b, off + t, none⟩ = some (.int .i64 za)) := hcell t _ (by simp [i64s, hza])
            have HCB : Hid (wr.cell? ⟨b, off + k, none⟩ = some (.int .i64 zb)) := hcell k _ (by simp [i64s, hzb])
            have HA := Lib.hid hA
            clear hza hzb hcell hA HSI
            go_upto_region 10 with fail
            have p0 : ∀ z : Calm wr, z.val.cell? ⟨g, 3, none⟩ = some (.slice (some ⟨b, off, none⟩) q.oi.n q.oi.c) := fun z => by rw [← HA.out]; exact (HD.out z.val (HBK.out.trans (z.ok.mono HBK.out.size))).2.2.2.1
            have p1 : ∀ z : Calm wr, z.val.cell? ⟨b, off + t, none⟩ = some (.int .i64 za) := fun z => (z.ok.cell (p := ⟨b, off + t, none⟩) hbl).trans HCA.out
            have p2 : ∀ z : Calm wr, z.val.cell? ⟨b, off + k, none⟩ = some (.int .i64 zb) := fun z => (z.ok.cell (p := ⟨b, off + k, none⟩) hbl).trans HCB.out
            refine wp_region_calm (by kernel_rfl) (by kernel_rfl) ?_
            repeat (go_big_quiet_step (fail))
            refine wpQuiet_nil ?_
            rintro _ ⟨z, rfl⟩
            obtain ⟨w5, hwz⟩ : ∃ wz, wz = z.val := ⟨_, rfl⟩
            have hb5 : Below w1.heap.size w1 w5 := by rw [hwz]; exact HBK.out.trans (z.ok.mono HBK.out.size)
            rw [← hwz]
            clear hwz z p0 p1 p2 e0 e1 e2 e3 e4
            obtain ⟨e0, e1, e2, e3, e4⟩ := HD.out w5 hb5
            have HFI : Hid (∀ p wX, Below w1.heap.size w1 wX → Calls Try.prog 27 #[.agg #[.int .i64 q.N, .int .i64 q.L, .slice q.o.A q.o.n q.o.c], .int .i64 p] wX fun e w' => e = .returned (.int .i64 (idxD q.l p)) ∧ Below wX.heap.size wX w') := fun p wX hb => rFind_is q.N q.L p q.o q.l wX (HGI.out wX hb)
            obtain ⟨ia, hia⟩ : ∃ ia, idxD q.l za = ia := ⟨_, rfl⟩
            obtain ⟨ib, hib⟩ : ∃ ib, idxD q.l zb = ib := ⟨_, rfl⟩
            have HF1 : Hid (∀ wX, Below w1.heap.size w1 wX → Calls Try.prog 27 #[.agg #[.int .i64 q.N, .int .i64 q.L, .slice q.o.A q.o.n q.o.c], .int .i64 za] wX fun e w' => e = .returned (.int .i64 ia) ∧ Below wX.heap.size wX w') := fun wX hb => by have := HFI.out za wX hb; rwa [hia] at this
            have HF2 : Hid (∀ wX, Below w1.heap.size w1 wX → Calls Try.prog 27 #[.agg #[.int .i64 q.N, .int .i64 q.L, .slice q.o.A q.o.n q.o.c], .int .i64 zb] wX fun e w' => e = .returned (.int .i64 ib) ∧ Below wX.heap.size wX w') := fun wX hb => by have := HFI.out zb wX hb; rwa [hib] at this
            have HIA := Lib.hid hia
            have HIB := Lib.hid hib
            clear hia hib HFI
            cases bm
            · have hno : ¬ MayG q.N q.L q.l := fun hm => by have := HBM.out.2 hm; cases this
              have HRC := Lib.hid (reach_bad q.N q.L za zb q.o q.l w5 (HGI.out w5 hb5) hno)
              unfold dagV at HRC
              clear hno
              go_wp2_with (first
                | (go_at_call 43; refine HRC.out.mono ?_; rintro e w8 ⟨rfl, hb8⟩)
                | (go_at_call 44; refine (numQ_any _ _).mono ?_; rintro e w9 ⟨rfl, rfl⟩))
              have HB8 : Hid (Below w1.heap.size w1 w8) := hb5.trans (hb8.mono hb5.size)
              go_roundw
              case rel => exact ⟨k + 1, by go_num, hkt, HB8.out⟩
              case measure => simp [intOf]; omega
            · have HM : Hid (MayG q.N q.L q.l) := HBM.out.1 rfl
              by_cases hia0 : ia < 0
              · have HRC : Hid (∀ wX, Below w1.heap.size w1 wX → _) := fun wX hb => reach_none q.N q.L za zb q.o q.l wX (HGI.out wX hb) HM.out (.inl (by rw [HIA.out]; exact hia0))
                unfold dagV at HRC
                have j2 : ¬ ((0 : Int) ≤ ia) := by omega
                go_wp2_with (first
                  | (go_at_call 27; refine (HF1.out _ hb5).mono ?_; rintro e w6 ⟨rfl, hb6⟩; have hb16 := hb5.trans (hb6.mono hb5.size); obtain ⟨f0, f1, f2, f3, f4⟩ := HD.out w6 hb16)
                  | (go_at_call 43; refine (HRC.out _ hb16).mono ?_; rintro e w8 ⟨rfl, hb8⟩)
                  | (go_at_call 44; refine (numQ_any _ _).mono ?_; rintro e w9 ⟨rfl, rfl⟩))
                have HB8 : Hid (Below w1.heap.size w1 w8) := hb16.trans (hb8.mono hb16.size)
                go_roundw
                case rel => exact ⟨k + 1, by go_num, hkt, HB8.out⟩
                case measure => simp [intOf]; omega
              · have j2 : (0 : Int) ≤ ia := by omega
                by_cases hib0 : ib < 0
                · have HRC : Hid (∀ wX, Below w1.heap.size w1 wX → _) := fun wX hb => reach_none q.N q.L za zb q.o q.l wX (HGI.out wX hb) HM.out (.inr (by rw [HIB.out]; exact hib0))
                  unfold dagV at HRC
                  have j3 : ¬ ((0 : Int) ≤ ib) := by omega
                  go_upto_region 14 with fail
                  go_wp2_with (first
                    | (go_at_call 27; with_reducible refine (HF1.out _ hb5).mono ?_; rintro e w6 ⟨rfl, hb6⟩; have hb16 := hb5.trans (hb6.mono hb5.size); obtain ⟨f0, f1, f2, f3, f4⟩ := HD.out w6 hb16)
                    | (go_at_call 27; with_reducible refine (HF2.out _ hb16).mono ?_; rintro e w7 ⟨rfl, hb7⟩; have hb17 := hb16.trans (hb7.mono hb16.size); obtain ⟨q0, q1, q2, q3, q4⟩ := HD.out w7 hb17)
                    | (go_at_call 43; refine (HRC.out _ hb17).mono ?_; rintro e w8 ⟨rfl, hb8⟩)
                    | (go_at_call 44; refine (numQ_any _ _).mono ?_; rintro e w9 ⟨rfl, rfl⟩))
                  have HB8 : Hid (Below w1.heap.size w1 w8) := hb17.trans (hb8.mono hb17.size)
                  go_roundw
                  case rel => exact ⟨k + 1, by go_num, hkt, HB8.out⟩
                  case measure => simp [intOf]; omega
                · have j3 : (0 : Int) ≤ ib := by omega
                  obtain ⟨x, hx⟩ : ∃ x, q.l[cutF (neD za) q.l]? = some x := by
                    cases hx : q.l[cutF (neD za) q.l]? with
                    | none => exact absurd (by rw [← HIA.out]; exact idxF_neg.2 hx) hia0
                    | some x => exact ⟨x, rfl⟩
                  obtain ⟨y, hy⟩ : ∃ y, q.l[cutF (neD zb) q.l]? = some y := by
                    cases hy : q.l[cutF (neD zb) q.l]? with
                    | none => exact absurd (by rw [← HIB.out]; exact idxF_neg.2 hy) hib0
                    | some y => exact ⟨y, rfl⟩
                  obtain ⟨v, hv⟩ : ∃ v, v = rchB q.L q.l x y := ⟨_, rfl⟩
                  have HRC : Hid (∀ wX, Below w1.heap.size w1 wX → _) := fun wX hb => reach_ok q.N q.L za zb q.o q.l x y wX (HGI.out wX hb) HM.out hx hy
                  have HRR : Hid (∀ wX, Below w1.heap.size w1 wX → _) := fun wX hb => rReach_is q.N q.L za zb q.o q.l x y wX (HGI.out wX hb) HM.out hx hy
                  rw [← hv] at HRC HRR
                  unfold dagV at HRC HRR
                  clear hx hy hv
                  go_upto_region 14 with fail
                  go_wp2_with (first
                    | (go_at_call 27; with_reducible refine (HF1.out _ hb5).mono ?_; rintro e w6 ⟨rfl, hb6⟩; have hb16 := hb5.trans (hb6.mono hb5.size); obtain ⟨f0, f1, f2, f3, f4⟩ := HD.out w6 hb16)
                    | (go_at_call 27; with_reducible refine (HF2.out _ hb16).mono ?_; rintro e w7 ⟨rfl, hb7⟩; have hb17 := hb16.trans (hb7.mono hb16.size); obtain ⟨q0, q1, q2, q3, q4⟩ := HD.out w7 hb17)
                    | (go_at_call 42; refine (HRR.out _ hb17).mono ?_; rintro e w4 ⟨rfl, hb4⟩; have hb14 := hb17.trans (hb4.mono hb17.size); obtain ⟨s0, s1, s2, s3, s4⟩ := HD.out w4 hb14)
                    | (go_at_call 43; refine (HRC.out _ hb14).mono ?_; rintro e w8 ⟨rfl, hb8⟩; cases v)
                    | (go_at_call 44; refine (numQ_any _ _).mono ?_; rintro e w9 ⟨rfl, rfl⟩))
                  all_goals have HB8 : Hid (Below w1.heap.size w1 w8) := hb14.trans (hb8.mono hb14.size)
                  all_goals go_wp2_with (go_at_call 44; refine (numQ_any _ _).mono ?_; rintro e w9 ⟨rfl, rfl⟩)
                  all_goals go_roundw
                  all_goals try exact ⟨k + 1, by go_num, hkt, HB8.out⟩
                  all_goals simp [intOf]; omega
          · obtain rfl : k = q.oi.n := by omega
            have j1 : ¬ ((q.oi.n : Int) < (q.oi.n : Int)) := by omega
            clear hkt
            go_wp2_with fail
            go_roundw
            case rel => exact ⟨t + 1, by go_num, hlt, HBK.out⟩
            case measure => simp [intOf]; omega
      · obtain rfl : t = q.oi.n := by omega
        have i1 : ¬ ((q.oi.n : Int) < (q.oi.n : Int)) := by omega
        have hbr := HB.out.trans (HBT.out.mono (Nat.le_of_lt hgs))
        have hsr := HBT.out.size
        clear hlt
        go_wp2_with (go_at_call 45; refine (wakesQ_any _).mono ?_; rintro e w5 ⟨rfl, hb5⟩)
        go_ret
        exact ⟨rfl, hbr.trans (hb5.mono (Nat.le_trans (Nat.le_of_lt hgs) hsr))⟩
  · go_wp2_with fail
    go_ret
    exact ⟨rfl, HB.out.trans (hb2.mono (Nat.le_of_lt hgs))⟩

end Go.Proofs.Ytfldfillcmamcaa
