/-
  The walk of 'AnchorRises'.
-/
import Derived.Test.YtejkeccoialogaaALaw
import Derived.Test.YtejkeccoialogaaAChain
import Derived.Test.YtejkeccoialogaaYRMay
namespace Go.Proofs.Ytejkeccoialogaa
open Go.RowKit

set_option maxRecDepth 100000 in
set_option maxHeartbeats 8000000 in
theorem anchorRises_walk (q : AskQ) (w : World) (h : AskQIn w q) : Calls Try.prog 9 #[askQV q] w fun e w' => e = .returned (.bool true) ∧ Below w.heap.size w w' := by
  obtain ⟨g, hg⟩ : ∃ g, g = w.heap.size := ⟨_, rfl⟩
  obtain ⟨w1, hw1⟩ : ∃ w1, w1 = w.alloc (.cells (askQC q).toArray 51) := ⟨_, rfl⟩
  obtain ⟨hb1, hsz, hx0⟩ := boxes1 w _ _ hw1
  rw [← hg] at hb1 hsz hx0
  have HG : Hid (w.heap.size = g) := hg.symm
  have HW : Hid (w.alloc (.cells #[.int .i64 q.N, .int .i64 q.L, .slice q.o.A q.o.n q.o.c, .slice q.oi.A q.oi.n q.oi.c, .slice q.oj.A q.oj.n q.oj.c] 51) = w1) := hw1.symm
  have HB := Lib.hid hb1
  have HX := Lib.hid hx0
  have HQ : Hid (∀ wX, Below g w wX → AskQIn wX q) := fun wX hb => h.below (by rw [← hg]; exact hb)
  have HH := Lib.hid (heavyA_is q w1 (h.below (by rw [← hg]; exact hb1)))
  have HD : Hid (∀ wX, Below w1.heap.size w1 wX → wX.cell? ⟨g, 0, none⟩ = some (.int .i64 q.N) ∧ wX.cell? ⟨g, 1, none⟩ = some (.int .i64 q.L) ∧ wX.cell? ⟨g, 2, none⟩ = some (.slice q.o.A q.o.n q.o.c) ∧ wX.cell? ⟨g, 3, none⟩ = some (.slice q.oi.A q.oi.n q.oi.c) ∧ wX.cell? ⟨g, 4, none⟩ = some (.slice q.oj.A q.oj.n q.oj.c)) := fun wX hb => askQ_cells (HX.out.below hb HX.out.1)
  obtain ⟨a0, a1, a2, a3, a4⟩ := askQ_cells hx0
  have hgs := hx0.1
  clear hg hw1 hb1 hsz hx0 h
  rw [HG.out]
  unfold askQV at HH ⊢
  go_enter Try.func9, Try.ntmps9
  go_upto_region 1 with fail
  rw [HG.out, HW.out]
  go_wp2_with (go_at_call 24; refine HH.out.mono ?_; rintro e w2 ⟨b, rfl, hlight, hb2⟩; obtain ⟨e0, e1, e2, e3, e4⟩ := HD.out w2 hb2; cases b)
  · have hbw2 := HB.out.trans (hb2.mono (Nat.le_of_lt hgs))
    have HGI : Hid (∀ wX, Below w1.heap.size w1 wX → GIn wX q.o q.l) := fun wX hb => (HQ.out wX (HB.out.trans (hb.mono (Nat.le_of_lt hgs)))).d.gin (hlight (by simp)).d (by decide)
    have hn30 : q.oi.n ≤ 30 := by have := (hlight (by simp)).i; have := (HQ.out _ hbw2).i.len; omega
    have hn30j : q.oj.n ≤ 30 := by have := (hlight (by simp)).j; have := (HQ.out _ hbw2).j.len; omega
    have HLI : Hid (q.zs.length = q.oi.n) := (HQ.out _ hbw2).i.len
    have HLJ : Hid (q.ws.length = q.oj.n) := (HQ.out _ hbw2).j.len
    have HWJ : Hid (I64s q.ws) := (HQ.out _ hbw2).wj
    have HB12 := Lib.hid hb2
    have HSML : Hid (q.l.length ≤ 80) := by show _ ≤ _; have := (hlight (by simp)).d.1; rw [AskQ.l, List.length_map]; exact this
    clear hlight HH
    have HMY : Hid (∀ wX, Below w1.heap.size w1 wX → Calls Try.prog 25 #[.agg #[.int .i64 q.N, .int .i64 q.L, .slice q.o.A q.o.n q.o.c]] wX (RetMay q.N q.L q.l wX)) := fun wX hb => rMay_is q.N q.L q.o q.l wX (HGI.out wX hb)
    go_wp2_with (go_at_call 25; refine (HMY.out _ hb2).mono ?_; rintro e w3 ⟨bm, rfl, hbm, hb3⟩; have HBM := Lib.hid hbm; clear hbm; cases bm)
    · go_ret
      exact ⟨rfl, HB.out.trans ((hb2.trans (hb3.mono hb2.size)).mono (Nat.le_of_lt hgs))⟩
    · have HM : Hid (MayG q.N q.L q.l) := HBM.out.1 (by first | rfl | trivial)
      have HB13 : Hid (Below w1.heap.size w1 w3) := hb2.trans (hb3.mono hb2.size)
      have HLEN : Hid (q.l.length = q.o.n) := (HGI.out _ hb2).len
      have hfew := (HGI.out _ hb2).few
      have hL0 := HM.out.l0
      have hL1 := HM.out.l1
      clear e0 e1 e2 e3 e4 hb3 hb2 HMY HBM hbw2
      go_loopw [3] (fun i wr => ∃ t : Nat, i = .int .i64 t ∧ t ≤ q.oj.n ∧ Hid (Below w1.heap.size w1 wr)) (fun i _ => q.oj.n - (intOf i).toNat)
      case atStart => exact ⟨0, rfl, Nat.zero_le _, HB13.out⟩
      case round =>
        clear a0 a1 a2 a3 a4
        obtain ⟨t, rfl, ht, HBT⟩ := hrel
        obtain ⟨e0, e1, e2, e3, e4⟩ := HD.out wr HBT.out
        by_cases hlt : t < q.oj.n
        · have i0 : (0 : Int) ≤ (t : Int) := by omega
          have i1 : (t : Int) < (q.oj.n : Int) := by omega
          go_upto_region 7 with fail
          clear e0 e1 e2 e3 e4
          go_loopw [4] (fun i wr => ∃ k : Nat, i = .int .i64 k ∧ k ≤ q.oj.n ∧ Hid (Below w1.heap.size w1 wr)) (fun i _ => q.oj.n - (intOf i).toNat)
          case atStart => exact ⟨0, rfl, Nat.zero_le _, HBT.out⟩
          case round =>
            obtain ⟨k, rfl, hk, HBK⟩ := hrel
            have hwr := HBK.out
            obtain ⟨e0, e1, e2, e3, e4⟩ := HD.out wr hwr
            by_cases hkt : k < q.oj.n
            · have j0 : (0 : Int) ≤ (k : Int) := by omega
              have j1 : (k : Int) < (q.oj.n : Int) := by omega
              obtain ⟨af, haf⟩ : ∃ z, q.ws[t]? = some z := ⟨_, List.getElem?_eq_getElem (by rw [HLJ.out]; exact hlt)⟩
              obtain ⟨r, hr⟩ : ∃ z, q.ws[k]? = some z := ⟨_, List.getElem?_eq_getElem (by rw [HLJ.out]; exact hkt)⟩
              have HSI := Lib.hid (HQ.out w1 HB.out)
              obtain ⟨b, off, hA, hbl, hcell⟩ := HSI.out.j.rd.open_ (by rw [i64s_length, HLJ.out]; omega)
              have hca := hcell t (.int .i64 af) (by simp [i64s, haf])
              have hcb := hcell k (.int .i64 r) (by simp [i64s, hr])
              have HALL : Hid (∀ wX, Below w1.heap.size w1 wX → wX.cell? ⟨g, 0, none⟩ = some (.int .i64 q.N) ∧ wX.cell? ⟨g, 1, none⟩ = some (.int .i64 q.L) ∧ wX.cell? ⟨g, 2, none⟩ = some (.slice q.o.A q.o.n q.o.c) ∧ wX.cell? ⟨g, 4, none⟩ = some (.slice (some ⟨b, off, none⟩) q.oj.n q.oj.c) ∧ wX.cell? ⟨b, off + t, none⟩ = some (.int .i64 af) ∧ wX.cell? ⟨b, off + k, none⟩ = some (.int .i64 r)) := fun wX hb => by
                obtain ⟨c0, c1, c2, c3, c4⟩ := HD.out wX hb
                rw [hA] at c4
                exact ⟨c0, c1, c2, c4, (hb.cell (p := ⟨b, off + t, none⟩) hbl).trans hca, (hb.cell (p := ⟨b, off + k, none⟩) hbl).trans hcb⟩
              rw [hA] at e4
              clear haf hr hcell hA HSI hca hcb e3 hbl
              obtain ⟨-, -, -, -, e5, e6⟩ := HALL.out wr hwr
              by_cases hok : evn r = true ∧ chnB af r = true
              · cases hac : ancC q.N q.l r with
                | none =>
                  have HRC : Hid (∀ wX, Below w1.heap.size w1 wX → _) := fun wX hb => chain_none q.N q.L af r q.o q.l wX (HGI.out wX hb) HM.out hok.1 hok.2 hac
                  unfold dagV at HRC
                  clear hok hac
                  go_upto_region 9 with fail
                  clear e0 e1 e2 e4 e5 e6
                  have p0 : ∀ z : Calm wr, z.val.cell? ⟨g, 0, none⟩ = some (.int .i64 q.N) := fun z => (HALL.out z.val (hwr.trans (z.ok.mono hwr.size))).1
                  have p1 : ∀ z : Calm wr, z.val.cell? ⟨g, 1, none⟩ = some (.int .i64 q.L) := fun z => (HALL.out z.val (hwr.trans (z.ok.mono hwr.size))).2.1
                  have p2 : ∀ z : Calm wr, z.val.cell? ⟨g, 2, none⟩ = some (.slice q.o.A q.o.n q.o.c) := fun z => (HALL.out z.val (hwr.trans (z.ok.mono hwr.size))).2.2.1
                  have p3 : ∀ z : Calm wr, z.val.cell? ⟨g, 4, none⟩ = some (.slice (some ⟨b, off, none⟩) q.oj.n q.oj.c) := fun z => (HALL.out z.val (hwr.trans (z.ok.mono hwr.size))).2.2.2.1
                  have p4 : ∀ z : Calm wr, z.val.cell? ⟨b, off + t, none⟩ = some (.int .i64 af) := fun z => (HALL.out z.val (hwr.trans (z.ok.mono hwr.size))).2.2.2.2.1
                  have p5 : ∀ z : Calm wr, z.val.cell? ⟨b, off + k, none⟩ = some (.int .i64 r) := fun z => (HALL.out z.val (hwr.trans (z.ok.mono hwr.size))).2.2.2.2.2
                  refine wp_region_calm (by kernel_rfl) (by kernel_rfl) ?_
                  repeat (go_big_quiet_step (first
                    | (go_at_call 36; exact calm_tells (HRC.out _ (hwr.trans ((Calm.ok _).mono hwr.size))))))
                  refine wpQuiet_nil ?_
                  rintro _ ⟨z, rfl⟩
                  obtain ⟨w5, hwz⟩ : ∃ wz, wz = z.val := ⟨_, rfl⟩
                  have hw5 : Below w1.heap.size w1 w5 := by rw [hwz]; exact hwr.trans (z.ok.mono hwr.size)
                  rw [← hwz]
                  clear hwz z p0 p1 p2 p3 p4 p5
                  have HB8 : Hid (Below w1.heap.size w1 w5) := hw5
                  go_wp2_with (first
                    | (go_at_call 29; refine (numA_any _ _).mono ?_; rintro e w9 ⟨rfl, rfl⟩))
                  go_roundw
                  case rel => exact ⟨k + 1, by go_num, hkt, HB8.out⟩
                  case measure => simp [intOf]; omega
                | some x =>
                  have HRC : Hid (∀ wX, Below w1.heap.size w1 wX → _) := fun wX hb => chain_ok q.N q.L af r q.o q.l x wX (HGI.out wX hb) HM.out hok.1 hok.2 hac
                  have HCF := Lib.hid (chain_facts (L := q.L) hok.1 hok.2 hac)
                  have HEV := Lib.hid hok.1
                  have HCH := Lib.hid hok.2
                  have HXR : Hid (x.r = r) := (ancC_some hac).2.1
                  obtain ⟨cs, hcs⟩ : ∃ cs, cs = chainC q.N q.L q.l af r x := ⟨_, rfl⟩
                  rw [← hcs] at HRC HCF
                  unfold dagV at HRC
                  clear hok hac hcs
                  go_upto_region 9 with fail
                  have KEEP : Hid (∀ wX, Below wr.heap.size wr wX → wX.cell? ⟨g, 0, none⟩ = some (.int .i64 q.N) ∧ wX.cell? ⟨g, 1, none⟩ = some (.int .i64 q.L) ∧ wX.cell? ⟨g, 2, none⟩ = some (.slice q.o.A q.o.n q.o.c) ∧ wX.cell? ⟨g, 4, none⟩ = some (.slice (some ⟨b, off, none⟩) q.oj.n q.oj.c) ∧ wX.cell? ⟨b, off + t, none⟩ = some (.int .i64 af) ∧ wX.cell? ⟨b, off + k, none⟩ = some (.int .i64 r)) := fun wX hb => HALL.out wX (hwr.trans (hb.mono hwr.size))
                  go_region_held3 (fun wX => wX.cell? ⟨g, 0, none⟩ = some (.int .i64 q.N) ∧ wX.cell? ⟨g, 1, none⟩ = some (.int .i64 q.L) ∧ wX.cell? ⟨g, 2, none⟩ = some (.slice q.o.A q.o.n q.o.c) ∧ wX.cell? ⟨g, 4, none⟩ = some (.slice (some ⟨b, off, none⟩) q.oj.n q.oj.c) ∧ wX.cell? ⟨b, off + t, none⟩ = some (.int .i64 af) ∧ wX.cell? ⟨b, off + k, none⟩ = some (.int .i64 r))
                    ((refine KEEP.out _ ?_; first
                      | with_reducible exact (Below.refl _ _)
                      | with_reducible exact (Below.refl _ _).drew
                      | with_reducible exact hb67))
                    (first
                      | (go_at_call 36; refine (HRC.out _ ?_).mono ?_
                         · exact hwr.trans ((Below.refl _ _).drew.mono hwr.size)
                         rintro e w7 ⟨⟨A5, n5, q5⟩, rfl, how7, hlw7, hbxw7⟩
                         have hb67 : Below wr.heap.size wr w7 := (Below.refl _ _).drew.trans (hbxw7.mono (by simp))))
                  clear e0 e1 e2 e4 e5 e6 KEEP
                  have hw7 : Below w1.heap.size w1 w7 := hwr.trans (hb67.mono hwr.size)
                  have HW7 := Lib.hid hw7
                  try dsimp only at how7 hlw7
                  have HO7 := Lib.hid how7
                  rw [List.length_map] at hlw7
                  have HL7 : Hid (cs.length = n5) := hlw7
                  have hn5 : n5 ≤ 80 := by rw [← hlw7]; exact Nat.le_trans HCF.out.len HSML.out
                  obtain ⟨e0, e1, e2, e4, e5, e6⟩ := HALL.out w7 hw7
                  clear how7 hlw7 hbxw7 hb67
                  go_upto_region 12 with (first
                    | (go_at_call 29; refine (numA_any _ _).mono ?_; rintro e w9 ⟨rfl, rfl⟩))
                  go_wp2_with fail
                  clear e0 e1 e2 e4 e5 e6
                  go_loopw [7, 8] (fun v i wq => ∃ j : Nat, v = .int .i64 (lastR af cs j) ∧ i = .int .i64 j ∧ j ≤ n5 ∧ Hid (Below w7.heap.size w7 wq)) (fun _ i _ => n5 - (intOf i).toNat)
                  case atStart => exact ⟨0, rfl, rfl, Nat.zero_le _, Below.refl _ _⟩
                  case round =>
                    obtain ⟨j, rfl, rfl, hj, HBJ⟩ := hrel
                    have hwq : Below w1.heap.size w1 wr := hw7.trans (HBJ.out.mono hw7.size)
                    obtain ⟨e0, e1, e2, e4, e5, e6⟩ := HALL.out wr hwq
                    by_cases hjt : j < n5
                    · obtain ⟨y, hy⟩ : ∃ y, cs[j]? = some y := ⟨_, List.getElem?_eq_getElem (by rw [HL7.out]; exact hjt)⟩
                      obtain ⟨hy1, hy2, hy3, hy4, hy5⟩ := HCF.out.all y (List.mem_of_getElem? hy)
                      have hlt' : lastR af cs j < y.r := lastR_lt HCF.out hy
                      have HNXT : Hid (lastR af cs (j + 1) = y.r) := lastR_next hy
                      have hO := own_below HO7.out HBJ.out
                      obtain ⟨b5, off5, hA5, hbl5, hcell5⟩ := (rd_of_own hO).2.2.open_ (by rw [i64s_length, List.length_map, HL7.out]; omega)
                      have hc5 := hcell5 j (.int .i64 y.d) (by simp [i64s, hy])
                      have HC5 : Hid (∀ wX, Below wr.heap.size wr wX → wX.cell? ⟨b5, off5 + j, none⟩ = some (.int .i64 y.d)) := fun wX hb => (hb.cell (p := ⟨b5, off5 + j, none⟩) hbl5).trans hc5
                      have hky := cut_digA HM.out hy1
                      have hk1 := (idxF_pos hky).1
                      have hkl := (List.getElem?_eq_some_iff.1 hky).1
                      obtain ⟨kk, hkk⟩ : ∃ kk, kk = cutF (neD y.d) q.l := ⟨_, rfl⟩
                      rw [← hkk] at hky hkl hk1
                      have HFI : Hid (∀ wX, Below w1.heap.size w1 wX → Calls Try.prog 41 #[.agg #[.int .i64 q.N, .int .i64 q.L, .slice q.o.A q.o.n q.o.c], .int .i64 y.d] wX fun e w' => e = .returned (.int .i64 (kk : Int)) ∧ Below wX.heap.size wX w') := fun wX hb => by
                        have := rFind_is q.N q.L y.d q.o q.l wX (HGI.out wX hb)
                        rwa [hk1] at this
                      have hev2 : evn y.r = true := by
                        obtain ⟨c1, -, -⟩ := chnB_yes HCH.out
                        obtain ⟨-, f2, -⟩ := evn_yes HEV.out
                        unfold evn
                        rw [decide_eq_true_eq]
                        refine ⟨by omega, by omega, hy5⟩
                      have HAN : Hid (∀ wX, Below w1.heap.size w1 wX → Calls Try.prog 28 #[.agg #[.int .i64 q.N, .int .i64 q.L, .slice q.o.A q.o.n q.o.c], .int .i64 y.r] wX fun e w' => e = .returned (.tuple #[.int .i64 y.d, .int .i64 0]) ∧ Below wX.heap.size wX w') := fun wX hb => by
                        have := anchor_is q.N q.L y.r q.o q.l wX (HGI.out wX hb) HM.out hev2
                        rwa [ancN_some hy2, ancE_some hy2] at this
                      obtain ⟨bC, offC, aC, hAC, hblC, -, hceC⟩ := (HGI.out wr hwq).get hky
                      have HAC := Lib.hid hAC
                      clear hAC
                      have HRC2 : Hid (∀ wX, Below wr.heap.size wr wX → wX.cell? ⟨bC, offC + kk * 6 + 1, none⟩ = some (.int .i64 y.r)) := fun wX hb => (hceC wX hb).c1
                      have m1 : (y.r % 2 == 0) = true := by simp [hy5]
                      have m2 : (y.r % 2 != 0) = false := by simp [hy5]
                      have m3 : ¬ y.r ≤ lastR af cs j := by omega
                      have m4 : (0 : Int) ≤ y.r := by
                        obtain ⟨c1, -, -⟩ := chnB_yes HCH.out
                        omega
                      have hkn : kk < q.o.n := by rw [← HLEN.out]; exact hkl
                      have m5 : (0 : Int) ≤ (kk : Int) := by omega
                      have m6 : (kk : Int) < (q.o.n : Int) := by omega
                      have m7 : (0 : Int) ≤ (j : Int) := by omega
                      have m8 : (j : Int) < (n5 : Int) := by omega
                      have m9 : ¬ (kk : Int) < 0 := by omega
                      have HLJ' := Lib.hid hjt
                      clear hy hy1 hy2 hy3 hy4 hy5 hlt' hO hcell5 hc5 hky hk1 hkl hkk hceC hev2 hkn
                      subst hA5
                      go_upto_region 15 with fail
                      clear e4 e5 e6
                      have p0 : ∀ z : Calm wr, z.val.cell? ⟨g, 0, none⟩ = some (.int .i64 q.N) := fun z => (HALL.out z.val (hwq.trans (z.ok.mono hwq.size))).1
                      have p1 : ∀ z : Calm wr, z.val.cell? ⟨g, 1, none⟩ = some (.int .i64 q.L) := fun z => (HALL.out z.val (hwq.trans (z.ok.mono hwq.size))).2.1
                      have p2 : ∀ z : Calm wr, z.val.cell? ⟨g, 2, none⟩ = some (.slice q.o.A q.o.n q.o.c) := fun z => (HALL.out z.val (hwq.trans (z.ok.mono hwq.size))).2.2.1
                      have p3 : ∀ z : Calm wr, z.val.cell? ⟨b5, off5 + j, none⟩ = some (.int .i64 y.d) := fun z => HC5.out z.val z.ok
                      clear e0 e1 e2
                      refine wp_region_calm (by kernel_rfl) (by kernel_rfl) ?_
                      repeat (go_big_quiet_step (first
                        | (go_at_call 41; exact calm_tells (HFI.out _ (hwq.trans ((Calm.ok _).mono hwq.size))))))
                      refine wpQuiet_nil ?_
                      rintro _ ⟨z, rfl⟩
                      obtain ⟨w8, hwz⟩ : ∃ wz, wz = z.val := ⟨_, rfl⟩
                      have hbr8 : Below wr.heap.size wr w8 := by rw [hwz]; exact z.ok
                      rw [← hwz]
                      clear hwz z p0 p1 p2 p3
                      have hw8 : Below w1.heap.size w1 w8 := hwq.trans (hbr8.mono hwq.size)
                      obtain ⟨e0, e1, e2, e4, e5, e6⟩ := HALL.out w8 hw8
                      have c1 := HRC2.out w8 hbr8
                      rw [HAC.out] at e2
                      go_upto_region 20 with (go_at_call 28; rw [← HAC.out]; refine (HAN.out _ hw8).mono ?_; rintro e w9 ⟨rfl, hb9⟩)
                      have hbr9 : Below wr.heap.size wr w9 := hbr8.trans (hb9.mono hbr8.size)
                      have c5 := HC5.out w9 hbr9
                      go_wp2_with (first
                        | (go_at_call 29; refine (numA_any _ _).mono ?_; rintro e w10 ⟨rfl, h10⟩; obtain rfl : w9 = w10 := h10))
                      have HB9 : Hid (Below w7.heap.size w7 w9) := HBJ.out.trans (hbr9.mono HBJ.out.size)
                      go_roundw
                      case rel => exact ⟨j + 1, by rw [HNXT.out], by go_num, HLJ'.out, HB9.out⟩
                      case measure => simp [intOf]; have := HLJ'.out; omega
                    · obtain rfl : j = n5 := by omega
                      have m1 : ¬ ((j : Int) < (j : Int)) := by omega
                      have HE : Hid (lastR af cs j = r) := by show _ = _; rw [← HL7.out]; exact lastR_end HCF.out HXR.out
                      rw [HE.out]
                      have HB8 : Hid (Below w1.heap.size w1 wr) := hwq
                      clear hjt
                      go_wp2_with fail
                      go_roundw
                      case rel => exact ⟨k + 1, by go_num, hkt, HB8.out⟩
                      case measure => simp [intOf]; omega
              · have HRC : Hid (∀ wX, Below w1.heap.size w1 wX → Calls Try.prog 36 #[dagV q.N q.L q.o, .int .i64 af, .int .i64 r] wX (BelowErr 1 wX)) := fun wX hb => by
                  cases hev : evn r with
                  | false => exact chain_odd q.N q.L af r q.o q.l wX (HGI.out wX hb) HM.out hev
                  | true =>
                    cases hch : chnB af r with
                    | false => exact chain_form q.N q.L af r q.o q.l wX (HGI.out wX hb) HM.out hev hch
                    | true => exact absurd ⟨hev, hch⟩ hok
                unfold dagV at HRC
                clear hok
                go_upto_region 9 with fail
                clear e0 e1 e2 e4 e5 e6
                have p0 : ∀ z : Calm wr, z.val.cell? ⟨g, 0, none⟩ = some (.int .i64 q.N) := fun z => (HALL.out z.val (hwr.trans (z.ok.mono hwr.size))).1
                have p1 : ∀ z : Calm wr, z.val.cell? ⟨g, 1, none⟩ = some (.int .i64 q.L) := fun z => (HALL.out z.val (hwr.trans (z.ok.mono hwr.size))).2.1
                have p2 : ∀ z : Calm wr, z.val.cell? ⟨g, 2, none⟩ = some (.slice q.o.A q.o.n q.o.c) := fun z => (HALL.out z.val (hwr.trans (z.ok.mono hwr.size))).2.2.1
                have p3 : ∀ z : Calm wr, z.val.cell? ⟨g, 4, none⟩ = some (.slice (some ⟨b, off, none⟩) q.oj.n q.oj.c) := fun z => (HALL.out z.val (hwr.trans (z.ok.mono hwr.size))).2.2.2.1
                have p4 : ∀ z : Calm wr, z.val.cell? ⟨b, off + t, none⟩ = some (.int .i64 af) := fun z => (HALL.out z.val (hwr.trans (z.ok.mono hwr.size))).2.2.2.2.1
                have p5 : ∀ z : Calm wr, z.val.cell? ⟨b, off + k, none⟩ = some (.int .i64 r) := fun z => (HALL.out z.val (hwr.trans (z.ok.mono hwr.size))).2.2.2.2.2
                refine wp_region_calm (by kernel_rfl) (by kernel_rfl) ?_
                repeat (go_big_quiet_step (first
                  | (go_at_call 36; exact calm_tells (HRC.out _ (hwr.trans ((Calm.ok _).mono hwr.size))))))
                refine wpQuiet_nil ?_
                rintro _ ⟨z, rfl⟩
                obtain ⟨w5, hwz⟩ : ∃ wz, wz = z.val := ⟨_, rfl⟩
                have hw5 : Below w1.heap.size w1 w5 := by rw [hwz]; exact hwr.trans (z.ok.mono hwr.size)
                rw [← hwz]
                clear hwz z p0 p1 p2 p3 p4 p5
                have HB8 : Hid (Below w1.heap.size w1 w5) := hw5
                go_wp2_with (first
                  | (go_at_call 29; refine (numA_any _ _).mono ?_; rintro e w9 ⟨rfl, rfl⟩))
                go_roundw
                case rel => exact ⟨k + 1, by go_num, hkt, HB8.out⟩
                case measure => simp [intOf]; omega
            · obtain rfl : k = q.oj.n := by omega
              have j1 : ¬ ((q.oj.n : Int) < (q.oj.n : Int)) := by omega
              clear hkt
              go_wp2_with fail
              go_roundw
              case rel => exact ⟨t + 1, by go_num, hlt, HBK.out⟩
              case measure => simp [intOf]; omega
        · obtain rfl : t = q.oj.n := by omega
          have i1 : ¬ ((q.oj.n : Int) < (q.oj.n : Int)) := by omega
          have hbr := HB.out.trans (HBT.out.mono (Nat.le_of_lt hgs))
          have hsr := HBT.out.size
          clear hlt
          go_wp2_with (go_at_call 30; refine (wakesA_any _).mono ?_; rintro e w5 ⟨rfl, hb5⟩)
          go_ret
          exact ⟨rfl, hbr.trans (hb5.mono (Nat.le_trans (Nat.le_of_lt hgs) hsr))⟩
  · go_wp2_with fail
    go_ret
    exact ⟨rfl, HB.out.trans (hb2.mono (Nat.le_of_lt hgs))⟩

end Go.Proofs.Ytejkeccoialogaa
