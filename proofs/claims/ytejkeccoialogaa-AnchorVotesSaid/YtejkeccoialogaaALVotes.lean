/-
  The walk of 'AnchorVotes'.
-/
import Derived.Test.YtejkeccoialogaaALaw
import Derived.Test.YtejkeccoialogaaARef
import Derived.Test.YtejkeccoialogaaYRMay
namespace Go.Proofs.Ytejkeccoialogaa
open Go.RowKit

set_option maxRecDepth 100000 in
set_option maxHeartbeats 8000000 in
theorem anchorVotes_walk (q : AskQ) (w : World) (h : AskQIn w q) : Calls Try.prog 6 #[askQV q] w fun e w' => e = .returned (.bool true) ∧ Below w.heap.size w w' := by
  obtain ⟨g, hg⟩ : ∃ g, g = w.heap.size := ⟨_, rfl⟩
  obtain ⟨w1, hw1⟩ : ∃ w1, w1 = w.alloc (.cells (askQC q).toArray 51) := ⟨_, rfl⟩
  obtain ⟨hb1, hsz, hx0⟩ := boxes1 w _ _ hw1
  rw [← hg] at hb1 hsz hx0
  have HG : Hid (w.heap.size = g) := hg.symm
  have HW : Hid (w.alloc (.cells #[.int .i64 q.N, .int .i64 q.L, .slice q.o.A q.o.n q.o.c, .slice q.oi.A q.oi.n q.oi.c, .slice q.oj.A q.oj.n q.oj.c] 51) = w1) := hw1.symm
  have HB := Lib.hid hb1
  have HX := Lib.hid hx0
  have HQ : Hid (∀ wX, Below g w wX → AskQIn wX q) := fun wX hb => h.below (by rw [← hg]; exact hb)
  have HH := Lib.hid (heavyA_is q w1 (h.below (by rw [← hg]; exact hb1)))
  have HD : Hid (∀ wX, Below w1.heap.size w1 wX → wX.cell? ⟨g, 0, none⟩ = some (.int .i64 q.N) ∧ wX.cell? ⟨g, 1, none⟩ = some (.int .i64 q.L) ∧ wX.cell? ⟨g, 2, none⟩ = some (.slice q.o.A q.o.n q.o.c) ∧ wX.cell? ⟨g, 3, none⟩ = some (.slice q.oi.A q.oi.n q.oi.c) ∧ wX.cell? ⟨g, 4, none⟩ = some (.slice q.oj.A q.oj.n q.oj.c)) := fun wX hb => askQ_cells (HX.out.below hb HX.out.1)
  obtain ⟨a0, a1, a2, a3, a4⟩ := askQ_cells hx0
  have hgs := hx0.1
  clear hg hw1 hb1 hsz hx0 h
  rw [HG.out]
  unfold askQV at HH ⊢
  go_enter Try.func6, Try.ntmps6
  go_upto_region 1 with fail
  rw [HG.out, HW.out]
  go_wp2_with (go_at_call 24; refine HH.out.mono ?_; rintro e w2 ⟨b, rfl, hlight, hb2⟩; obtain ⟨e0, e1, e2, e3, e4⟩ := HD.out w2 hb2; cases b)
  · have hbw2 := HB.out.trans (hb2.mono (Nat.le_of_lt hgs))
    have HGI : Hid (∀ wX, Below w1.heap.size w1 wX → GIn wX q.o q.l) := fun wX hb => (HQ.out wX (HB.out.trans (hb.mono (Nat.le_of_lt hgs)))).d.gin (hlight (by simp)).d (by decide)
    have hn30 : q.oi.n ≤ 30 := by have := (hlight (by simp)).i; have := (HQ.out _ hbw2).i.len; omega
    have hn30j : q.oj.n ≤ 30 := by have := (hlight (by simp)).j; have := (HQ.out _ hbw2).j.len; omega
    have HLI : Hid (q.zs.length = q.oi.n) := (HQ.out _ hbw2).i.len
    have HLJ : Hid (q.ws.length = q.oj.n) := (HQ.out _ hbw2).j.len
    have HWJ : Hid (I64s q.ws) := (HQ.out _ hbw2).wj
    have HB12 := Lib.hid hb2
    have HSML : Hid (q.l.length ≤ 80) := by show _ ≤ _; have := (hlight (by simp)).d.1; rw [AskQ.l, List.length_map]; exact this
    clear hlight HH
    have HMY : Hid (∀ wX, Below w1.heap.size w1 wX → Calls Try.prog 25 #[.agg #[.int .i64 q.N, .int .i64 q.L, .slice q.o.A q.o.n q.o.c]] wX (RetMay q.N q.L q.l wX)) := fun wX hb => rMay_is q.N q.L q.o q.l wX (HGI.out wX hb)
    go_upto_region 4 with (go_at_call 25; refine (HMY.out _ hb2).mono ?_; rintro e w3 ⟨bm, rfl, hbm, hb3⟩)
    have HBM := Lib.hid hbm
    have HB13 : Hid (Below w1.heap.size w1 w3) := hb2.trans (hb3.mono hb2.size)
    clear e0 e1 e2 e3 e4 hbm hb3 hb2 HMY
    go_wp2_with fail
    go_loopw [4] (fun i wr => ∃ t : Nat, i = .int .i64 t ∧ t ≤ q.oj.n ∧ Hid (Below w1.heap.size w1 wr)) (fun i _ => q.oj.n - (intOf i).toNat)
    case atStart => exact ⟨0, rfl, Nat.zero_le _, HB13.out⟩
    case round =>
      clear a0 a1 a2 a3 a4
      obtain ⟨t, rfl, ht, HBT⟩ := hrel
      have hwr := HBT.out
      obtain ⟨e0, e1, e2, e3, e4⟩ := HD.out wr HBT.out
      by_cases hlt : t < q.oj.n
      · have i0 : (0 : Int) ≤ (t : Int) := by omega
        have i1 : (t : Int) < (q.oj.n : Int) := by omega
        obtain ⟨r, hr⟩ : ∃ z, q.ws[t]? = some z := ⟨_, List.getElem?_eq_getElem (by rw [HLJ.out]; omega)⟩
        have HSJj := Lib.hid (HQ.out wr (HB.out.trans (HBT.out.mono (Nat.le_of_lt hgs)))).j
        obtain ⟨bj, offj, hAj, hblj, hcellj⟩ := HSJj.out.rd.open_ (by rw [i64s_length, HLJ.out]; omega)
        have Hj : Hid (wr.cell? ⟨bj, offj + t, none⟩ = some (.int .i64 r)) := hcellj t _ (by simp [i64s, hr])
        have HAj := Lib.hid hAj
        have HZj := Lib.hid (HWJ.out r (List.mem_of_getElem? hr))
        have HCJ : Hid (∀ wX, Below w1.heap.size w1 wX → wX.cell? ⟨bj, offj + t, none⟩ = some (.int .i64 r)) := fun wX hb => by
          obtain ⟨b', off', hA', -, hc'⟩ := (HQ.out wX (HB.out.trans (hb.mono (Nat.le_of_lt hgs)))).j.rd.open_ (by rw [i64s_length, HLJ.out]; omega)
          rw [HAj.out] at hA'
          cases hA'
          exact hc' t _ (by simp [i64s, hr])
        clear hr hcellj hAj hblj HSJj
        rw [HAj.out] at e4
        have e5 := HCJ.out wr hwr
        cases bm
        · have HNO : Hid (¬ MayG q.N q.L q.l) := fun hm => by have := HBM.out.2 hm; cases this
          have HRC : Hid (∀ wX, Below w1.heap.size w1 wX → _) := fun wX hb => votes_bad q.N q.L r q.o q.l wX (HGI.out wX hb) HNO.out
          have HRD : Hid (∀ wX, Below w1.heap.size w1 wX → _) := fun wX hb => direct_bad q.N q.L r q.o q.l wX (HGI.out wX hb) HNO.out
          unfold dagV at HRC HRD
          go_upto_region 10 with fail
          clear e0 e1 e2 e3 e4 e5
          have p0 : ∀ z : Calm wr, z.val.cell? ⟨g, 0, none⟩ = some (.int .i64 q.N) := fun z => (HD.out z.val (hwr.trans (z.ok.mono hwr.size))).1
          have p1 : ∀ z : Calm wr, z.val.cell? ⟨g, 1, none⟩ = some (.int .i64 q.L) := fun z => (HD.out z.val (hwr.trans (z.ok.mono hwr.size))).2.1
          have p2 : ∀ z : Calm wr, z.val.cell? ⟨g, 2, none⟩ = some (.slice q.o.A q.o.n q.o.c) := fun z => (HD.out z.val (hwr.trans (z.ok.mono hwr.size))).2.2.1
          have p4 : ∀ z : Calm wr, z.val.cell? ⟨g, 4, none⟩ = some (.slice (some ⟨bj, offj, none⟩) q.oj.n q.oj.c) := fun z => by rw [← HAj.out]; exact (HD.out z.val (hwr.trans (z.ok.mono hwr.size))).2.2.2.2
          have p5 : ∀ z : Calm wr, z.val.cell? ⟨bj, offj + t, none⟩ = some (.int .i64 r) := fun z => HCJ.out z.val (hwr.trans (z.ok.mono hwr.size))
          refine wp_region_calm (by kernel_rfl) (by kernel_rfl) ?_
          repeat (go_big_quiet_step (first
            | (go_at_call 33; exact calm_tells (HRC.out _ (hwr.trans ((Calm.ok _).mono hwr.size))))))
          refine wpQuiet_nil ?_
          rintro _ ⟨z, rfl⟩
          obtain ⟨w5, hwz⟩ : ∃ wz, wz = z.val := ⟨_, rfl⟩
          have hw5 : Below w1.heap.size w1 w5 := by rw [hwz]; exact hwr.trans (z.ok.mono hwr.size)
          rw [← hwz]
          clear hwz z p0 p1 p2 p4 p5
          obtain ⟨e0, e1, e2, e3, e4⟩ := HD.out w5 hw5
          rw [HAj.out] at e4
          have e5 := HCJ.out w5 hw5
          go_upto_region 11 with fail
          clear e0 e1 e2 e3 e4 e5
          have p0 : ∀ z : Calm w5, z.val.cell? ⟨g, 0, none⟩ = some (.int .i64 q.N) := fun z => (HD.out z.val (hw5.trans (z.ok.mono hw5.size))).1
          have p1 : ∀ z : Calm w5, z.val.cell? ⟨g, 1, none⟩ = some (.int .i64 q.L) := fun z => (HD.out z.val (hw5.trans (z.ok.mono hw5.size))).2.1
          have p2 : ∀ z : Calm w5, z.val.cell? ⟨g, 2, none⟩ = some (.slice q.o.A q.o.n q.o.c) := fun z => (HD.out z.val (hw5.trans (z.ok.mono hw5.size))).2.2.1
          have p4 : ∀ z : Calm w5, z.val.cell? ⟨g, 4, none⟩ = some (.slice (some ⟨bj, offj, none⟩) q.oj.n q.oj.c) := fun z => by rw [← HAj.out]; exact (HD.out z.val (hw5.trans (z.ok.mono hw5.size))).2.2.2.2
          have p5 : ∀ z : Calm w5, z.val.cell? ⟨bj, offj + t, none⟩ = some (.int .i64 r) := fun z => HCJ.out z.val (hw5.trans (z.ok.mono hw5.size))
          refine wp_region_calm (by kernel_rfl) (by kernel_rfl) ?_
          repeat (go_big_quiet_step (first
            | (go_at_call 34; exact calm_tells (HRD.out _ (hw5.trans ((Calm.ok _).mono hw5.size))))))
          refine wpQuiet_nil ?_
          rintro _ ⟨z, rfl⟩
          obtain ⟨w6, hwz⟩ : ∃ wz, wz = z.val := ⟨_, rfl⟩
          have hw6 : Below w1.heap.size w1 w6 := by rw [hwz]; exact hw5.trans (z.ok.mono hw5.size)
          rw [← hwz]
          clear hwz z p0 p1 p2 p4 p5
          have HB8 : Hid (Below w1.heap.size w1 w6) := hw6
          go_wp2_with (first
            | (go_at_call 29; refine (numA_any _ _).mono ?_; rintro e w9 ⟨rfl, rfl⟩))
          go_roundw
          case rel => exact ⟨t + 1, by go_num, hlt, HB8.out⟩
          case measure => simp [intOf]; omega
        · have HM : Hid (MayG q.N q.L q.l) := HBM.out.1 rfl
          cases hev : evn r with
          | false =>
            have HEV := Lib.hid (fun wX => reven_no r hev wX)
            have HRC : Hid (∀ wX, Below w1.heap.size w1 wX → _) := fun wX hb => votes_odd q.N q.L r q.o q.l wX (HGI.out wX hb) HM.out hev
            have HRD : Hid (∀ wX, Below w1.heap.size w1 wX → _) := fun wX hb => direct_odd q.N q.L r q.o q.l wX (HGI.out wX hb) HM.out hev
            unfold dagV at HRC HRD
            clear hev
            go_upto_region 10 with (first | (go_at_call 26; refine (HEV.out _).mono ?_; rintro e w4 ⟨rfl, rfl⟩))
            clear e0 e1 e2 e3 e4 e5
            have p0 : ∀ z : Calm wr, z.val.cell? ⟨g, 0, none⟩ = some (.int .i64 q.N) := fun z => (HD.out z.val (hwr.trans (z.ok.mono hwr.size))).1
            have p1 : ∀ z : Calm wr, z.val.cell? ⟨g, 1, none⟩ = some (.int .i64 q.L) := fun z => (HD.out z.val (hwr.trans (z.ok.mono hwr.size))).2.1
            have p2 : ∀ z : Calm wr, z.val.cell? ⟨g, 2, none⟩ = some (.slice q.o.A q.o.n q.o.c) := fun z => (HD.out z.val (hwr.trans (z.ok.mono hwr.size))).2.2.1
            have p4 : ∀ z : Calm wr, z.val.cell? ⟨g, 4, none⟩ = some (.slice (some ⟨bj, offj, none⟩) q.oj.n q.oj.c) := fun z => by rw [← HAj.out]; exact (HD.out z.val (hwr.trans (z.ok.mono hwr.size))).2.2.2.2
            have p5 : ∀ z : Calm wr, z.val.cell? ⟨bj, offj + t, none⟩ = some (.int .i64 r) := fun z => HCJ.out z.val (hwr.trans (z.ok.mono hwr.size))
            refine wp_region_calm (by kernel_rfl) (by kernel_rfl) ?_
            repeat (go_big_quiet_step (first
              | (go_at_call 33; exact calm_tells (HRC.out _ (hwr.trans ((Calm.ok _).mono hwr.size))))))
            refine wpQuiet_nil ?_
            rintro _ ⟨z, rfl⟩
            obtain ⟨w5, hwz⟩ : ∃ wz, wz = z.val := ⟨_, rfl⟩
            have hw5 : Below w1.heap.size w1 w5 := by rw [hwz]; exact hwr.trans (z.ok.mono hwr.size)
            rw [← hwz]
            clear hwz z p0 p1 p2 p4 p5
            obtain ⟨e0, e1, e2, e3, e4⟩ := HD.out w5 hw5
            rw [HAj.out] at e4
            have e5 := HCJ.out w5 hw5
            go_upto_region 11 with fail
            clear e0 e1 e2 e3 e4 e5
            have p0 : ∀ z : Calm w5, z.val.cell? ⟨g, 0, none⟩ = some (.int .i64 q.N) := fun z => (HD.out z.val (hw5.trans (z.ok.mono hw5.size))).1
            have p1 : ∀ z : Calm w5, z.val.cell? ⟨g, 1, none⟩ = some (.int .i64 q.L) := fun z => (HD.out z.val (hw5.trans (z.ok.mono hw5.size))).2.1
            have p2 : ∀ z : Calm w5, z.val.cell? ⟨g, 2, none⟩ = some (.slice q.o.A q.o.n q.o.c) := fun z => (HD.out z.val (hw5.trans (z.ok.mono hw5.size))).2.2.1
            have p4 : ∀ z : Calm w5, z.val.cell? ⟨g, 4, none⟩ = some (.slice (some ⟨bj, offj, none⟩) q.oj.n q.oj.c) := fun z => by rw [← HAj.out]; exact (HD.out z.val (hw5.trans (z.ok.mono hw5.size))).2.2.2.2
            have p5 : ∀ z : Calm w5, z.val.cell? ⟨bj, offj + t, none⟩ = some (.int .i64 r) := fun z => HCJ.out z.val (hw5.trans (z.ok.mono hw5.size))
            refine wp_region_calm (by kernel_rfl) (by kernel_rfl) ?_
            repeat (go_big_quiet_step (first
              | (go_at_call 34; exact calm_tells (HRD.out _ (hw5.trans ((Calm.ok _).mono hw5.size))))))
            refine wpQuiet_nil ?_
            rintro _ ⟨z, rfl⟩
            obtain ⟨w6, hwz⟩ : ∃ wz, wz = z.val := ⟨_, rfl⟩
            have hw6 : Below w1.heap.size w1 w6 := by rw [hwz]; exact hw5.trans (z.ok.mono hw5.size)
            rw [← hwz]
            clear hwz z p0 p1 p2 p4 p5
            have HB8 : Hid (Below w1.heap.size w1 w6) := hw6
            go_wp2_with (first
              | (go_at_call 29; refine (numA_any _ _).mono ?_; rintro e w9 ⟨rfl, rfl⟩))
            go_roundw
            case rel => exact ⟨t + 1, by go_num, hlt, HB8.out⟩
            case measure => simp [intOf]; omega
          | true =>
            have HEV := Lib.hid (fun wX => reven_yes r hev wX)
            have HRC : Hid (∀ wX, Below w1.heap.size w1 wX → _) := fun wX hb => votes_is q.N q.L r q.o q.l wX (HGI.out wX hb) HM.out hev
            have HRD : Hid (∀ wX, Below w1.heap.size w1 wX → _) := fun wX hb => direct_is q.N q.L r q.o q.l wX (HGI.out wX hb) HM.out hev
            have HRR : Hid (∀ wX, Below w1.heap.size w1 wX → _) := fun wX hb => rVotes_is q.N q.L r q.o q.l wX (HGI.out wX hb) HM.out hev
            have HRS : Hid (∀ wX, Below w1.heap.size w1 wX → _) := fun wX hb => rDirect_is q.N q.L r q.o q.l wX (HGI.out wX hb) HM.out hev
            obtain ⟨v, hv⟩ : ∃ v, votC q.N q.l r = v := ⟨_, rfl⟩
            obtain ⟨d, hd⟩ : ∃ d, dirC q.N q.l r = d := ⟨_, rfl⟩
            rw [hv] at HRC HRR
            rw [hd] at HRD HRS
            unfold dagV at HRC HRD HRR HRS
            clear hev hv hd
            go_upto_region 9 with (first | (go_at_call 26; refine (HEV.out _).mono ?_; rintro e w4 ⟨rfl, rfl⟩))
            clear e0 e1 e2 e3 e4 e5
            have p0 : ∀ z : Calm wr, z.val.cell? ⟨g, 0, none⟩ = some (.int .i64 q.N) := fun z => (HD.out z.val (hwr.trans (z.ok.mono hwr.size))).1
            have p1 : ∀ z : Calm wr, z.val.cell? ⟨g, 1, none⟩ = some (.int .i64 q.L) := fun z => (HD.out z.val (hwr.trans (z.ok.mono hwr.size))).2.1
            have p2 : ∀ z : Calm wr, z.val.cell? ⟨g, 2, none⟩ = some (.slice q.o.A q.o.n q.o.c) := fun z => (HD.out z.val (hwr.trans (z.ok.mono hwr.size))).2.2.1
            have p4 : ∀ z : Calm wr, z.val.cell? ⟨g, 4, none⟩ = some (.slice (some ⟨bj, offj, none⟩) q.oj.n q.oj.c) := fun z => by rw [← HAj.out]; exact (HD.out z.val (hwr.trans (z.ok.mono hwr.size))).2.2.2.2
            have p5 : ∀ z : Calm wr, z.val.cell? ⟨bj, offj + t, none⟩ = some (.int .i64 r) := fun z => HCJ.out z.val (hwr.trans (z.ok.mono hwr.size))
            refine wp_region_calm (by kernel_rfl) (by kernel_rfl) ?_
            repeat (go_big_quiet_step (first
              | (go_at_call 31; exact calm_tells (HRR.out _ (hwr.trans ((Calm.ok _).mono hwr.size))))
              | (go_at_call 32; exact calm_tells (HRS.out _ (hwr.trans ((Calm.ok _).mono hwr.size))))))
            refine wpQuiet_nil ?_
            rintro _ ⟨z, rfl⟩
            obtain ⟨w5, hwz⟩ : ∃ wz, wz = z.val := ⟨_, rfl⟩
            have hw5 : Below w1.heap.size w1 w5 := by rw [hwz]; exact hwr.trans (z.ok.mono hwr.size)
            rw [← hwz]
            clear hwz z p0 p1 p2 p4 p5
            obtain ⟨e0, e1, e2, e3, e4⟩ := HD.out w5 hw5
            rw [HAj.out] at e4
            have e5 := HCJ.out w5 hw5
            go_upto_region 10 with fail
            clear e0 e1 e2 e3 e4 e5
            have p0 : ∀ z : Calm w5, z.val.cell? ⟨g, 0, none⟩ = some (.int .i64 q.N) := fun z => (HD.out z.val (hw5.trans (z.ok.mono hw5.size))).1
            have p1 : ∀ z : Calm w5, z.val.cell? ⟨g, 1, none⟩ = some (.int .i64 q.L) := fun z => (HD.out z.val (hw5.trans (z.ok.mono hw5.size))).2.1
            have p2 : ∀ z : Calm w5, z.val.cell? ⟨g, 2, none⟩ = some (.slice q.o.A q.o.n q.o.c) := fun z => (HD.out z.val (hw5.trans (z.ok.mono hw5.size))).2.2.1
            have p4 : ∀ z : Calm w5, z.val.cell? ⟨g, 4, none⟩ = some (.slice (some ⟨bj, offj, none⟩) q.oj.n q.oj.c) := fun z => by rw [← HAj.out]; exact (HD.out z.val (hw5.trans (z.ok.mono hw5.size))).2.2.2.2
            have p5 : ∀ z : Calm w5, z.val.cell? ⟨bj, offj + t, none⟩ = some (.int .i64 r) := fun z => HCJ.out z.val (hw5.trans (z.ok.mono hw5.size))
            refine wp_region_calm (by kernel_rfl) (by kernel_rfl) ?_
            repeat (go_big_quiet_step (first
              | (go_at_call 33; exact calm_tells (HRC.out _ (hw5.trans ((Calm.ok _).mono hw5.size))))))
            refine wpQuiet_nil ?_
            rintro _ ⟨z, rfl⟩
            obtain ⟨w6, hwz⟩ : ∃ wz, wz = z.val := ⟨_, rfl⟩
            have hw6 : Below w1.heap.size w1 w6 := by rw [hwz]; exact hw5.trans (z.ok.mono hw5.size)
            rw [← hwz]
            clear hwz z p0 p1 p2 p4 p5
            obtain ⟨e0, e1, e2, e3, e4⟩ := HD.out w6 hw6
            rw [HAj.out] at e4
            have e5 := HCJ.out w6 hw6
            go_upto_region 11 with fail
            clear e0 e1 e2 e3 e4 e5
            have p0 : ∀ z : Calm w6, z.val.cell? ⟨g, 0, none⟩ = some (.int .i64 q.N) := fun z => (HD.out z.val (hw6.trans (z.ok.mono hw6.size))).1
            have p1 : ∀ z : Calm w6, z.val.cell? ⟨g, 1, none⟩ = some (.int .i64 q.L) := fun z => (HD.out z.val (hw6.trans (z.ok.mono hw6.size))).2.1
            have p2 : ∀ z : Calm w6, z.val.cell? ⟨g, 2, none⟩ = some (.slice q.o.A q.o.n q.o.c) := fun z => (HD.out z.val (hw6.trans (z.ok.mono hw6.size))).2.2.1
            have p4 : ∀ z : Calm w6, z.val.cell? ⟨g, 4, none⟩ = some (.slice (some ⟨bj, offj, none⟩) q.oj.n q.oj.c) := fun z => by rw [← HAj.out]; exact (HD.out z.val (hw6.trans (z.ok.mono hw6.size))).2.2.2.2
            have p5 : ∀ z : Calm w6, z.val.cell? ⟨bj, offj + t, none⟩ = some (.int .i64 r) := fun z => HCJ.out z.val (hw6.trans (z.ok.mono hw6.size))
            refine wp_region_calm (by kernel_rfl) (by kernel_rfl) ?_
            repeat (go_big_quiet_step (first
              | (go_at_call 34; exact calm_tells (HRD.out _ (hw6.trans ((Calm.ok _).mono hw6.size))))))
            refine wpQuiet_nil ?_
            rintro _ ⟨z, rfl⟩
            obtain ⟨w7, hwz⟩ : ∃ wz, wz = z.val := ⟨_, rfl⟩
            have hw7 : Below w1.heap.size w1 w7 := by rw [hwz]; exact hw6.trans (z.ok.mono hw6.size)
            rw [← hwz]
            clear hwz z p0 p1 p2 p4 p5
            have HB8 : Hid (Below w1.heap.size w1 w7) := hw7
            go_wp2_with (first
              | (go_at_call 29; refine (numA_any _ _).mono ?_; rintro e w9 ⟨rfl, rfl⟩))
            go_roundw
            case rel => exact ⟨t + 1, by go_num, hlt, HB8.out⟩
            case measure => simp [intOf]; omega
      · obtain rfl : t = q.oj.n := by omega
        have i1 : ¬ ((q.oj.n : Int) < (q.oj.n : Int)) := by omega
        have hbr := HB.out.trans (HBT.out.mono (Nat.le_of_lt hgs))
        have hsr := HBT.out.size
        clear hlt
        go_wp2_with (go_at_call 30; refine (wakesA_any _).mono ?_; rintro e w5 ⟨rfl, hb5⟩)
        go_ret
        exact ⟨rfl, hbr.trans (hb5.mono (Nat.le_trans (Nat.le_of_lt hgs) hsr))⟩
  · go_wp2_with fail
    go_ret
    exact ⟨rfl, HB.out.trans (hb2.mono (Nat.le_of_lt hgs))⟩

end Go.Proofs.Ytejkeccoialogaa
