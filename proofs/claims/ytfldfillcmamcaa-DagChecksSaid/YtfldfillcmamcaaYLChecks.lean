/-
  The walk of 'DagChecks'.
-/
import Derived.Test.YtfldfillcmamcaaYNew
import Derived.Test.YtfldfillcmamcaaYRMay
import Derived.Test.YtfldfillcmamcaaYCpD
import Derived.Test.YtfldfillcmamcaaCalm
namespace Go.Proofs.Ytfldfillcmamcaa
open Go.RowKit

set_option maxRecDepth 100000 in
set_option maxHeartbeats 8000000 in
theorem dagChecks_walk (q : AskD) (w : World) (h : AskIn w q) : Calls Try.prog 3 #[askV q] w fun e w' => e = .returned (.bool true) ∧ Below w.heap.size w w' := by
  obtain ⟨g, hg⟩ : ∃ g, g = w.heap.size := ⟨_, rfl⟩
  obtain ⟨w1, hw1⟩ : ∃ w1, w1 = w.alloc (.cells (askC q).toArray 28) := ⟨_, rfl⟩
  obtain ⟨hb1, hsz, hx0⟩ := boxes1 w _ _ hw1
  rw [← hg] at hb1 hsz hx0
  have HG : Hid (w.heap.size = g) := hg.symm
  have HW : Hid (w.alloc (.cells #[.int .i64 q.N, .int .i64 q.L, .slice q.o.A q.o.n q.o.c, .slice q.oc.A q.oc.n q.oc.c, .slice q.oi.A q.oi.n q.oi.c, .slice q.op.A q.op.n q.op.c] 28) = w1) := hw1.symm
  have HB := Lib.hid hb1
  have HX := Lib.hid hx0
  have HQ : Hid (∀ wX, Below g w wX → AskIn wX q) := fun wX hb => h.below (by rw [← hg]; exact hb)
  have HH := Lib.hid (heavy_is q w1 (h.below (by rw [← hg]; exact hb1)))
  have HD : Hid (∀ wX, Below w1.heap.size w1 wX → wX.cell? ⟨g, 0, none⟩ = some (.int .i64 q.N) ∧ wX.cell? ⟨g, 1, none⟩ = some (.int .i64 q.L) ∧ wX.cell? ⟨g, 2, none⟩ = some (.slice q.o.A q.o.n q.o.c) ∧ wX.cell? ⟨g, 3, none⟩ = some (.slice q.oc.A q.oc.n q.oc.c) ∧ wX.cell? ⟨g, 4, none⟩ = some (.slice q.oi.A q.oi.n q.oi.c) ∧ wX.cell? ⟨g, 5, none⟩ = some (.slice q.op.A q.op.n q.op.c)) := fun wX hb => ask_cells (HX.out.below hb HX.out.1)
  obtain ⟨a0, a1, a2, a3, a4, a5⟩ := ask_cells hx0
  have hgs := hx0.1
  clear hg hw1 hb1 hsz hx0 h
  rw [HG.out]
  unfold askV at HH ⊢
  go_enter Try.func3, Try.ntmps3
  go_upto_region 1 with fail
  rw [HG.out, HW.out]
  go_wp2_with (go_at_call 13; refine HH.out.mono ?_; rintro e w2 ⟨b, rfl, hlight, hb2⟩; obtain ⟨e0, e1, e2, e3, e4, e5⟩ := HD.out w2 hb2; cases b)
  · have hbw2 := HB.out.trans (hb2.mono (Nat.le_of_lt hgs))
    have HGI : Hid (∀ wX, Below w1.heap.size w1 wX → GIn wX q.o q.l) := fun wX hb => (HQ.out wX (HB.out.trans (hb.mono (Nat.le_of_lt hgs)))).d.gin (hlight (by simp)).d (by decide)
    have HGC : Hid (∀ wX, Below w1.heap.size w1 wX → GIn wX q.oc q.lc) := fun wX hb => (HQ.out wX (HB.out.trans (hb.mono (Nat.le_of_lt hgs)))).c.gin (hlight (by simp)).c (by decide)
    have hn40 : q.oi.n ≤ 40 := by have := (hlight (by simp)).i; have := (HQ.out _ hbw2).i.len; omega
    have hp40 : q.op.n ≤ 40 := by have := (hlight (by simp)).p; have := (HQ.out _ hbw2).p.len; omega
    have hc40 : q.oc.n ≤ 40 := by have := (hlight (by simp)).c.1; have := (HQ.out _ hbw2).c.row.len; omega
    have HLI : Hid (q.zs.length = q.oi.n) := (HQ.out _ hbw2).i.len
    have HLC : Hid (q.lc.length = q.oc.n) := (HGC.out _ hb2).len
    have HLL : Hid (q.l.length ≤ 1000000) := by have := (HGI.out _ hb2).len; have := (HGI.out _ hb2).few; show _ ≤ _; omega
    have HB12 := Lib.hid hb2
    clear hlight HH
    have HCD : Hid (∀ wX, Below w1.heap.size w1 wX → Calls Try.prog 14 #[.agg #[.int .i64 q.N, .int .i64 q.L, .slice q.o.A q.o.n q.o.c]] wX (CopyDagTo q.N q.L q.l wX)) := fun wX hb => copyDag_is q.N q.L q.o q.l wX (HGI.out wX hb)
    go_upto_region 4 with (go_at_call 14; refine (HCD.out _ hb2).mono ?_; rintro e w5 ⟨od, ms5, rfl, ho5, hm5, hb5⟩; dsimp only [dagV])
    obtain ⟨gd, hgd⟩ : ∃ gd, gd = w5.heap.size := ⟨_, rfl⟩
    obtain ⟨w4, hw4⟩ : ∃ w4, w4 = w5.alloc (.cells (dagC q.N q.L od).toArray 24) := ⟨_, rfl⟩
    obtain ⟨hb54, -, hx4⟩ := boxes1 w5 _ _ hw4
    have HGDE : Hid (w5.heap.size = gd) := hgd.symm
    have HW4 : Hid (w5.alloc (.cells #[.int .i64 q.N, .int .i64 q.L, .slice od.A od.n od.c] 24) = w4) := hw4.symm
    rw [HGDE.out, HW4.out]
    have hb15 : Below w1.heap.size w1 w5 := hb2.trans (hb5.mono hb2.size)
    have HB14 : Hid (Below w1.heap.size w1 w4) := hb15.trans (hb54.mono hb15.size)
    have hgd4 : GIn w4 od q.l := by
      have hgl := HGI.out _ hb2
      refine GIn.below ⟨ms5, ho5.in_ (fun x hx => hgl.fit (by rw [← hm5]; exact List.mem_map_of_mem hx)) ?_, hm5⟩ hb54
      have h1 : ms5.length = q.l.length := by rw [← hm5, List.length_map]
      have := HLL.out
      omega
    rw [← hgd] at hx4
    have HXD := Lib.hid hx4
    have HGD : Hid (∀ wX, Below w4.heap.size w4 wX → GIn wX od q.l) := fun wX hb => hgd4.below hb
    have HGI4 : Hid (∀ wX, Below w4.heap.size w4 wX → GIn wX q.o q.l) := fun wX hb => HGI.out wX (HB14.out.trans (hb.mono HB14.out.size))
    have HQ4 : Hid (∀ wX, Below w4.heap.size w4 wX → AskIn wX q) := fun wX hb => HQ.out wX (HB.out.trans ((HB14.out.trans (hb.mono HB14.out.size)).mono (Nat.le_of_lt hgs)))
    have HD4 : Hid (∀ wX, Below w4.heap.size w4 wX → (wX.cell? ⟨g, 0, none⟩ = some (.int .i64 q.N) ∧ wX.cell? ⟨g, 1, none⟩ = some (.int .i64 q.L) ∧ wX.cell? ⟨g, 2, none⟩ = some (.slice q.o.A q.o.n q.o.c) ∧ wX.cell? ⟨g, 3, none⟩ = some (.slice q.oc.A q.oc.n q.oc.c) ∧ wX.cell? ⟨g, 4, none⟩ = some (.slice q.oi.A q.oi.n q.oi.c) ∧ wX.cell? ⟨g, 5, none⟩ = some (.slice q.op.A q.op.n q.op.c)) ∧ wX.cell? ⟨gd, 0, none⟩ = some (.int .i64 q.N) ∧ wX.cell? ⟨gd, 1, none⟩ = some (.int .i64 q.L) ∧ wX.cell? ⟨gd, 2, none⟩ = some (.slice od.A od.n od.c)) := fun wX hb => ⟨HD.out wX (HB14.out.trans (hb.mono HB14.out.size)), dag_cells (HXD.out.below hb HXD.out.1)⟩
    have HED : Hid (∀ wX, Below w4.heap.size w4 wX → Calls Try.prog 18 #[.agg #[.int .i64 q.N, .int .i64 q.L, .slice od.A od.n od.c], .agg #[.int .i64 q.N, .int .i64 q.L, .slice q.o.A q.o.n q.o.c]] wX fun e w' => e = .returned (.bool true) ∧ Below wX.heap.size wX w') := fun wX hb => by
      have := eqDag_is q.N q.L od q.l q.N q.L q.o q.l wX (HGD.out wX hb) (HGI4.out wX hb)
      rwa [decide_eq_true (And.intro rfl (And.intro rfl rfl))] at this
    clear e0 e1 e2 e3 e4 e5 hx4 hw4 hgd hb54 hb5 hb15 ho5 hm5 hgd4 HCD
    clear hb2
    obtain ⟨zc, hzc, HCK, HCY⟩ : ∃ zc : Int, (zc = 0 ∨ zc = 1) ∧ Hid (∀ wX, Below w4.heap.size w4 wX → Calls Try.prog 16 #[.agg #[.int .i64 q.N, .int .i64 q.L, .slice od.A od.n od.c]] wX (Tells wX.heap.size wX (.int .i64 zc))) ∧ Hid (∀ wX, Below w4.heap.size w4 wX → Calls Try.prog 17 #[.agg #[.int .i64 q.N, .int .i64 q.L, .slice q.o.A q.o.n q.o.c]] wX (Tells wX.heap.size wX (.int .i64 zc))) := by
      by_cases hm : MayG q.N q.L q.l
      · refine ⟨0, .inl rfl, fun wX hb => check_ok (HGD.out wX hb) hm, fun wX hb => (chkY_is q.N q.L q.o q.l wX (HGI4.out wX hb)).mono fun e w' ⟨z, he, hz, hb'⟩ => ?_⟩
        rcases hz with ⟨_, rfl⟩ | ⟨h1, _⟩
        · exact ⟨he, hb'⟩
        · exact absurd hm h1
      · refine ⟨1, .inr rfl, fun wX hb => check_bad (HGD.out wX hb) hm, fun wX hb => (chkY_is q.N q.L q.o q.l wX (HGI4.out wX hb)).mono fun e w' ⟨z, he, hz, hb'⟩ => ?_⟩
        rcases hz with ⟨h1, _⟩ | ⟨_, rfl⟩
        · exact absurd h1 hm
        · exact ⟨he, hb'⟩
    have j9 : (zc == zc) = true := by simp
    have p0 : ∀ z : Calm w4, z.val.cell? ⟨g, 0, none⟩ = some (.int .i64 q.N) := fun z => (HD4.out z.val z.ok).1.1
    have p1 : ∀ z : Calm w4, z.val.cell? ⟨g, 1, none⟩ = some (.int .i64 q.L) := fun z => (HD4.out z.val z.ok).1.2.1
    have p2 : ∀ z : Calm w4, z.val.cell? ⟨g, 2, none⟩ = some (.slice q.o.A q.o.n q.o.c) := fun z => (HD4.out z.val z.ok).1.2.2.1
    have p3 : ∀ z : Calm w4, z.val.cell? ⟨gd, 0, none⟩ = some (.int .i64 q.N) := fun z => (HD4.out z.val z.ok).2.1
    have p4 : ∀ z : Calm w4, z.val.cell? ⟨gd, 1, none⟩ = some (.int .i64 q.L) := fun z => (HD4.out z.val z.ok).2.2.1
    have p5 : ∀ z : Calm w4, z.val.cell? ⟨gd, 2, none⟩ = some (.slice od.A od.n od.c) := fun z => (HD4.out z.val z.ok).2.2.2
    have hn := fun z : Calm w4 => numY_any zc z.val
    have HN := Lib.hid hn
    clear hn hzc a0 a1 a2 a3 a4 a5
    refine wp_region_calm (by kernel_rfl) (by kernel_rfl) ?_
    repeat (go_big_quiet_step (first
      | (go_at_call 16; exact calm_tells (HCK.out _ (Calm.ok _)))
      | (go_at_call 15; exact calm_same (HN.out _))
      | (go_at_call 17; exact calm_tells (HCY.out _ (Calm.ok _)))
      | (go_at_call 18; exact calm_tells (HED.out _ (Calm.ok _)))))
    refine wpQuiet_nil ?_
    rintro _ ⟨z, rfl⟩
    obtain ⟨w6, hwz⟩ : ∃ wz, wz = z.val := ⟨_, rfl⟩
    have hb6 : Below w4.heap.size w4 w6 := by rw [hwz]; exact z.ok
    have HB6 := Lib.hid hb6
    rw [← hwz]
    clear hwz z p0 p1 p2 p3 p4 p5 hb6
    go_wp2_with fail
    go_loopw [4] (fun i wr => ∃ t : Nat, i = .int .i64 t ∧ t ≤ q.oi.n ∧ Hid (Below w4.heap.size w4 wr)) (fun i _ => q.oi.n - (intOf i).toNat)
    case atStart => exact ⟨0, rfl, Nat.zero_le _, HB6.out⟩
    case round =>
      obtain ⟨t, rfl, ht, HBT⟩ := hrel
      obtain ⟨⟨e0, e1, e2, e3, e4, e5⟩, e6, e7, e8⟩ := HD4.out wr HBT.out
      by_cases hlt : t < q.oi.n
      · have i0 : (0 : Int) ≤ (t : Int) := by omega
        have i1 : (t : Int) < (q.oi.n : Int) := by omega
        obtain ⟨za, hza⟩ : ∃ z, q.zs[t]? = some z := ⟨_, List.getElem?_eq_getElem (by rw [HLI.out]; exact hlt)⟩
        have HSI := Lib.hid (HQ4.out w4 (Below.refl _ _)).i
        obtain ⟨b, off, hA, hbl, hcell⟩ := HSI.out.rd.open_ (by rw [i64s_length, HLI.out]; omega)
        have hca := hcell t (.int .i64 za) (by simp [i64s, hza])
        have HCA : Hid (∀ wX, Below w4.heap.size w4 wX → wX.cell? ⟨g, 4, none⟩ = some (.slice (some ⟨b, off, none⟩) q.oi.n q.oi.c) ∧ wX.cell? ⟨b, off + t, none⟩ = some (.int .i64 za)) := fun wX hb => by
          rw [← hA]
          exact ⟨(HD4.out wX hb).1.2.2.2.2.1, (hb.cell (p := ⟨b, off + t, none⟩) hbl).trans hca⟩
        rw [hA] at e4
        have ec := (HCA.out wr HBT.out).2
        clear hza hcell hA HSI hca
        have HMY : Hid (∀ wX, Calls Try.prog 20 #[.agg #[.int .i64 za, .int .i64 0, .slice none 0 0]] wX (RetMay za 0 [] wX)) := fun wX => rMay_is za 0 noAd [] wX (gIn_none wX)
        cases hmb : mayB za with
        | true =>
          have HMG : Hid (MayG za 0 []) := mayG_nil hmb
          have HNW : Hid (∀ wX, Calls Try.prog 19 #[.int .i64 za] wX fun e w' => e = .returned (.tuple #[.agg #[.int .i64 za, .int .i64 0, .slice none 0 0], .int .i64 0]) ∧ Below wX.heap.size wX w') := fun wX => new_ok za wX hmb
          clear hmb
          go_upto_region 10 with (go_at_call 19; refine (HNW.out _).mono ?_; rintro e w7 ⟨rfl, hb7⟩)
          obtain ⟨gx, hgx⟩ : ∃ gx, gx = w7.heap.size := ⟨_, rfl⟩
          obtain ⟨w8, hw8⟩ : ∃ w8, w8 = w7.alloc (.cells (dagC za 0 noAd).toArray 24) := ⟨_, rfl⟩
          obtain ⟨hb78, -, hx8⟩ := boxes1 w7 _ _ hw8
          rw [← hgx] at hx8
          have HGX : Hid (w7.heap.size = gx) := hgx.symm
          have HW8 : Hid (w7.alloc (.cells #[.int .i64 za, .int .i64 0, .slice none 0 0] 24) = w8) := hw8.symm
          rw [HGX.out, HW8.out]
          have hb47 : Below w4.heap.size w4 w7 := HBT.out.trans (hb7.mono HBT.out.size)
          have hb48 : Below w4.heap.size w4 w8 := hb47.trans (hb78.mono hb47.size)
          have HX8 := Lib.hid hx8
          clear e0 e1 e2 e3 e4 e5 e6 e7 e8 ec hx8 hw8 hgx hb7 hb78
          obtain ⟨c4, cc⟩ := HCA.out w8 hb48
          go_upto_region 11 with (go_at_call 20; refine (HMY.out _).mono ?_; rintro e w9 ⟨bm, rfl, hbm, hb9⟩; obtain rfl : bm = true := hbm.2 HMG.out)
          have hb49 : Below w4.heap.size w4 w9 := hb48.trans (hb9.mono hb48.size)
          have hb49' := hb49
          have HX9 := Lib.hid (HX8.out.below hb9 HX8.out.1)
          clear c4 cc hbm hb9
          have p0 : ∀ z : Calm w9, z.val.cell? ⟨gx, 0, none⟩ = some (.int .i64 za) := fun z => (dag_cells (HX9.out.below z.ok HX9.out.1)).1
          have p1 : ∀ z : Calm w9, z.val.cell? ⟨gx, 1, none⟩ = some (.int .i64 0) := fun z => (dag_cells (HX9.out.below z.ok HX9.out.1)).2.1
          have p2 : ∀ z : Calm w9, z.val.cell? ⟨gx, 2, none⟩ = some (.slice none 0 0) := fun z => (dag_cells (HX9.out.below z.ok HX9.out.1)).2.2
          have p3 : ∀ z : Calm w9, z.val.cell? ⟨g, 4, none⟩ = some (.slice (some ⟨b, off, none⟩) q.oi.n q.oi.c) := fun z => (HCA.out z.val (hb49.trans (z.ok.mono hb49.size))).1
          have p4 : ∀ z : Calm w9, z.val.cell? ⟨b, off + t, none⟩ = some (.int .i64 za) := fun z => (HCA.out z.val (hb49.trans (z.ok.mono hb49.size))).2
          have hn := fun z : Calm w9 => numY_any 0 z.val
          have HN2 := Lib.hid hn
          have hq := fun z : Calm w9 => eqDag_is za 0 noAd [] za 0 noAd [] z.val (gIn_none _) (gIn_none _)
          rw [decide_eq_true (And.intro rfl (And.intro rfl rfl))] at hq
          have HQ2 := Lib.hid hq
          clear hn hq
          refine wp_region_calm (by kernel_rfl) (by kernel_rfl) ?_
          repeat (go_big_quiet_step (first
            | (go_at_call 15; exact calm_same (HN2.out _))
            | (go_at_call 18; exact calm_tells (HQ2.out _))))
          refine wpQuiet_nil ?_
          rintro _ ⟨z, rfl⟩
          have HBZ : Hid (Below w4.heap.size w4 z.val) := hb49.trans (z.ok.mono hb49.size)
          clear p0 p1 p2 p3 p4 hb49 hb49'
          go_wp2_with fail
          go_roundw
          case rel => exact ⟨t + 1, by go_num, hlt, HBZ.out⟩
          case measure => simp [intOf]; omega
        | false =>
          have HMG : Hid (¬ MayG za 0 []) := fun hm => by have := hm.n; rw [hmb] at this; cases this
          have HNW : Hid (∀ wX, Calls Try.prog 19 #[.int .i64 za] wX fun e w' => e = .returned (.tuple #[.agg #[.int .i64 0, .int .i64 0, .slice none 0 0], .int .i64 1]) ∧ Below wX.heap.size wX w') := fun wX => new_bad za wX hmb
          clear hmb
          go_upto_region 10 with (go_at_call 19; refine (HNW.out _).mono ?_; rintro e w7 ⟨rfl, hb7⟩)
          obtain ⟨gx, hgx⟩ : ∃ gx, gx = w7.heap.size := ⟨_, rfl⟩
          obtain ⟨w8, hw8⟩ : ∃ w8, w8 = w7.alloc (.cells (dagC 0 0 noAd).toArray 24) := ⟨_, rfl⟩
          obtain ⟨hb78, -, hx8⟩ := boxes1 w7 _ _ hw8
          rw [← hgx] at hx8
          have HGX : Hid (w7.heap.size = gx) := hgx.symm
          have HW8 : Hid (w7.alloc (.cells #[.int .i64 0, .int .i64 0, .slice none 0 0] 24) = w8) := hw8.symm
          rw [HGX.out, HW8.out]
          have hb47 : Below w4.heap.size w4 w7 := HBT.out.trans (hb7.mono HBT.out.size)
          have hb48 : Below w4.heap.size w4 w8 := hb47.trans (hb78.mono hb47.size)
          have HX8 := Lib.hid hx8
          clear e0 e1 e2 e3 e4 e5 e6 e7 e8 ec hx8 hw8 hgx hb7 hb78
          obtain ⟨c4, cc⟩ := HCA.out w8 hb48
          go_upto_region 11 with (go_at_call 20; refine (HMY.out _).mono ?_; rintro e w9 ⟨bm, rfl, hbm, hb9⟩; obtain rfl : bm = false := by cases bm with | false => rfl | true => exact absurd (hbm.1 rfl) HMG.out)
          have hb49 : Below w4.heap.size w4 w9 := hb48.trans (hb9.mono hb48.size)
          have hb49' := hb49
          have HX9 := Lib.hid (HX8.out.below hb9 HX8.out.1)
          clear c4 cc hbm hb9
          have p0 : ∀ z : Calm w9, z.val.cell? ⟨gx, 0, none⟩ = some (.int .i64 0) := fun z => (dag_cells (HX9.out.below z.ok HX9.out.1)).1
          have p1 : ∀ z : Calm w9, z.val.cell? ⟨gx, 1, none⟩ = some (.int .i64 0) := fun z => (dag_cells (HX9.out.below z.ok HX9.out.1)).2.1
          have p2 : ∀ z : Calm w9, z.val.cell? ⟨gx, 2, none⟩ = some (.slice none 0 0) := fun z => (dag_cells (HX9.out.below z.ok HX9.out.1)).2.2
          have p3 : ∀ z : Calm w9, z.val.cell? ⟨g, 4, none⟩ = some (.slice (some ⟨b, off, none⟩) q.oi.n q.oi.c) := fun z => (HCA.out z.val (hb49.trans (z.ok.mono hb49.size))).1
          have p4 : ∀ z : Calm w9, z.val.cell? ⟨b, off + t, none⟩ = some (.int .i64 za) := fun z => (HCA.out z.val (hb49.trans (z.ok.mono hb49.size))).2
          have hn := fun z : Calm w9 => numY_any 1 z.val
          have HN2 := Lib.hid hn
          have hq := fun z : Calm w9 => eqDag_is za 0 noAd [] za 0 noAd [] z.val (gIn_none _) (gIn_none _)
          rw [decide_eq_true (And.intro rfl (And.intro rfl rfl))] at hq
          have HQ2 := Lib.hid hq
          clear hn hq
          refine wp_region_calm (by kernel_rfl) (by kernel_rfl) ?_
          repeat (go_big_quiet_step (first
            | (go_at_call 15; exact calm_same (HN2.out _))
            | (go_at_call 18; exact calm_tells (HQ2.out _))))
          refine wpQuiet_nil ?_
          rintro _ ⟨z, rfl⟩
          have HBZ : Hid (Below w4.heap.size w4 z.val) := hb49.trans (z.ok.mono hb49.size)
          clear p0 p1 p2 p3 p4 hb49 hb49'
          go_wp2_with fail
          go_roundw
          case rel => exact ⟨t + 1, by go_num, hlt, HBZ.out⟩
          case measure => simp [intOf]; omega
      · obtain rfl : t = q.oi.n := by omega
        have i1 : ¬ ((q.oi.n : Int) < (q.oi.n : Int)) := by omega
        have hbr := HB.out.trans ((HB14.out.trans (HBT.out.mono HB14.out.size)).mono (Nat.le_of_lt hgs))
        have hsr := HBT.out.size
        have hs4 := HB14.out.size
        clear hlt
        go_wp2_with (go_at_call 21; refine (wakesY_any _).mono ?_; rintro e w5 ⟨rfl, hb5⟩)
        go_ret
        exact ⟨rfl, hbr.trans (hb5.mono (by omega))⟩
  · go_wp2_with fail
    go_ret
    exact ⟨rfl, HB.out.trans (hb2.mono (Nat.le_of_lt hgs))⟩

end Go.Proofs.Ytfldfillcmamcaa
