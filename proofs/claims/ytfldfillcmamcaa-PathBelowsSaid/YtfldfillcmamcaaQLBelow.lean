/-
  The walk of 'PathBelows'.
-/
import Derived.Test.YtfldfillcmamcaaQLaw
import Derived.Test.YtfldfillcmamcaaQRef
import Derived.Test.YtfldfillcmamcaaYRMay
import Derived.Test.YtfldfillcmamcaaYCpD
import Derived.Deep.RegionHeld3
namespace Go.Proofs.Ytfldfillcmamcaa
open Go.RowKit

theorem eqQ_is {B B' : Nat} (o1 o2 : Ad) (z : List Int) (w : World) (h1 : w.ownsRow B 3 1 o1.v o1.n (i64s z)) (l1 : z.length = o1.n) (h2 : w.ownsRow B' 3 1 o2.v o2.n (i64s z)) (l2 : z.length = o2.n) (hn : z.length ≤ 1000000) :
    Calls Try.prog 48 #[.slice o1.A o1.n o1.c, .slice o2.A o2.n o2.c] w fun e w' => e = .returned (.bool true) ∧ Below w.heap.size w w' :=
  (eqNumbers_any o1.A o2.A o1.c o2.c o1.n o2.n z z w l1 l2 (rd_of_own h1).2.2 (rd_of_own h2).2.2 (by omega) (by omega)).mono fun e w' ⟨he, d, hd⟩ => ⟨by rw [he]; simp, by rw [hd]; exact below_n (Below.refl _ _) _⟩
theorem spoilQ_is {B B' : Nat} (o1 : Ad) (z : List Int) (w : World) (h1 : w.ownsRow B 3 1 o1.v o1.n (i64s z)) (hn : o1.n ≤ 1000000) (hB : B' ≤ B) (hw : B' ≤ w.heap.size) :
    Calls Try.prog 49 #[.slice o1.A o1.n o1.c] w fun e w' => e = .returned (.tuple #[]) ∧ Below B' w w' :=
  (spoilNums_far B o1.v o1.n z w h1 (by omega)).mono fun e w' ⟨he, ht⟩ => ⟨he, ht.below (fun k hk => Nat.le_trans hB (own_lt h1 hk).2) hw⟩
theorem bel_len (L : Int) (l : List CrtD) (x : CrtD) (low : Int) : (belC L l x low).length ≤ l.length := by
  unfold belC
  rw [List.length_map]
  exact List.length_filter_le _ _

set_option maxRecDepth 100000 in
set_option maxHeartbeats 8000000 in
theorem pathBelows_walk (q : AskQ) (w : World) (h : AskQIn w q) : Calls Try.prog 10 #[askQV q] w fun e w' => e = .returned (.bool true) ∧ Below w.heap.size w w' := by
  obtain ⟨g, hg⟩ : ∃ g, g = w.heap.size := ⟨_, rfl⟩
  obtain ⟨w1, hw1⟩ : ∃ w1, w1 = w.alloc (.cells (askQC q).toArray 71) := ⟨_, rfl⟩
  obtain ⟨hb1, hsz, hx0⟩ := boxes1 w _ _ hw1
  rw [← hg] at hb1 hsz hx0
  have HG : Hid (w.heap.size = g) := hg.symm
  have HW : Hid (w.alloc (.cells #[.int .i64 q.N, .int .i64 q.L, .slice q.o.A q.o.n q.o.c, .slice q.oi.A q.oi.n q.oi.c, .slice q.oj.A q.oj.n q.oj.c] 71) = w1) := hw1.symm
  have HB := Lib.hid hb1
  have HX := Lib.hid hx0
  have HQ : Hid (∀ wX, Below g w wX → AskQIn wX q) := fun wX hb => h.below (by rw [← hg]; exact hb)
  have HH := Lib.hid (heavyQ_is q w1 (h.below (by rw [← hg]; exact hb1)))
  have HD : Hid (∀ wX, Below w1.heap.size w1 wX → wX.cell? ⟨g, 0, none⟩ = some (.int .i64 q.N) ∧ wX.cell? ⟨g, 1, none⟩ = some (.int .i64 q.L) ∧ wX.cell? ⟨g, 2, none⟩ = some (.slice q.o.A q.o.n q.o.c) ∧ wX.cell? ⟨g, 3, none⟩ = some (.slice q.oi.A q.oi.n q.oi.c) ∧ wX.cell? ⟨g, 4, none⟩ = some (.slice q.oj.A q.oj.n q.oj.c)) := fun wX hb => askQ_cells (HX.out.below hb HX.out.1)
  obtain ⟨a0, a1, a2, a3, a4⟩ := askQ_cells hx0
  have hgs := hx0.1
  clear hg hw1 hb1 hsz hx0 h
  rw [HG.out]
  unfold askQV at HH ⊢
  go_enter Try.func10, Try.ntmps10
  go_upto_region 1 with fail
  rw [HG.out, HW.out]
  go_wp2_with (go_at_call 41; refine HH.out.mono ?_; rintro e w2 ⟨b, rfl, hlight, hb2⟩; obtain ⟨e0, e1, e2, e3, e4⟩ := HD.out w2 hb2; cases b)
  · have hbw2 := HB.out.trans (hb2.mono (Nat.le_of_lt hgs))
    have HGI : Hid (∀ wX, Below w1.heap.size w1 wX → GIn wX q.o q.l) := fun wX hb => (HQ.out wX (HB.out.trans (hb.mono (Nat.le_of_lt hgs)))).d.gin (hlight (by simp)).d (by decide)
    have hn30 : q.oi.n ≤ 30 := by have := (hlight (by simp)).i; have := (HQ.out _ hbw2).i.len; omega
    have hn30j : q.oj.n ≤ 30 := by have := (hlight (by simp)).j; have := (HQ.out _ hbw2).j.len; omega
    have HLI : Hid (q.zs.length = q.oi.n) := (HQ.out _ hbw2).i.len
    have HLJ : Hid (q.ws.length = q.oj.n) := (HQ.out _ hbw2).j.len
    have HB12 := Lib.hid hb2
    clear hlight HH
    have HMY : Hid (∀ wX, Below w1.heap.size w1 wX → Calls Try.prog 20 #[.agg #[.int .i64 q.N, .int .i64 q.L, .slice q.o.A q.o.n q.o.c]] wX (RetMay q.N q.L q.l wX)) := fun wX hb => rMay_is q.N q.L q.o q.l wX (HGI.out wX hb)
    have HCD : Hid (∀ wX, Below w1.heap.size w1 wX → Calls Try.prog 14 #[.agg #[.int .i64 q.N, .int .i64 q.L, .slice q.o.A q.o.n q.o.c]] wX (CopyDagTo q.N q.L q.l wX)) := fun wX hb => copyDag_is q.N q.L q.o q.l wX (HGI.out wX hb)
    go_upto_region 4 with (go_at_call 20; refine (HMY.out _ hb2).mono ?_; rintro e w3 ⟨bm, rfl, hbm, hb3⟩)
    have HBM := Lib.hid hbm
    have hb13 : Below w1.heap.size w1 w3 := hb2.trans (hb3.mono hb2.size)
    clear e0 e1 e2 e3 e4 hbm hb3 hb2 HMY
    obtain ⟨e0, e1, e2, e3, e4⟩ := HD.out w3 hb13
    go_upto_region 5 with (go_at_call 14; refine (HCD.out _ hb13).mono ?_; rintro e w5 ⟨od, ms5, rfl, ho5, hm5, hb5⟩; dsimp only [dagV])
    obtain ⟨gd, hgd⟩ : ∃ gd, gd = w5.heap.size := ⟨_, rfl⟩
    obtain ⟨w4, hw4⟩ : ∃ w4, w4 = w5.alloc (.cells (dagC q.N q.L od).toArray 24) := ⟨_, rfl⟩
    obtain ⟨hb54, -, hx4⟩ := boxes1 w5 _ _ hw4
    have HGDE : Hid (w5.heap.size = gd) := hgd.symm
    have HW4 : Hid (w5.alloc (.cells #[.int .i64 q.N, .int .i64 q.L, .slice od.A od.n od.c] 24) = w4) := hw4.symm
    rw [HGDE.out, HW4.out]
    have hb15 : Below w1.heap.size w1 w5 := hb13.trans (hb5.mono hb13.size)
    have HB14 : Hid (Below w1.heap.size w1 w4) := hb15.trans (hb54.mono hb15.size)
    have hgd4 : GIn w4 od q.l := by
      have hgl := HGI.out w3 hb13
      refine GIn.below ⟨ms5, ho5.in_ (fun x hx => hgl.fit (by rw [← hm5]; exact List.mem_map_of_mem hx)) ?_, hm5⟩ hb54
      have h1 : ms5.length = q.l.length := by rw [← hm5, List.length_map]
      have := hgl.len
      have := hgl.few
      omega
    rw [← hgd] at hx4
    have HXD := Lib.hid hx4
    have HGD : Hid (∀ wX, Below w4.heap.size w4 wX → GIn wX od q.l) := fun wX hb => hgd4.below hb
    have HGI4 : Hid (∀ wX, Below w4.heap.size w4 wX → GIn wX q.o q.l) := fun wX hb => HGI.out wX (HB14.out.trans (hb.mono HB14.out.size))
    have HQ4 : Hid (∀ wX, Below w4.heap.size w4 wX → AskQIn wX q) := fun wX hb => HQ.out wX (HB.out.trans ((HB14.out.trans (hb.mono HB14.out.size)).mono (Nat.le_of_lt hgs)))
    have HD4 : Hid (∀ wX, Below w4.heap.size w4 wX → (wX.cell? ⟨g, 0, none⟩ = some (.int .i64 q.N) ∧ wX.cell? ⟨g, 1, none⟩ = some (.int .i64 q.L) ∧ wX.cell? ⟨g, 2, none⟩ = some (.slice q.o.A q.o.n q.o.c) ∧ wX.cell? ⟨g, 3, none⟩ = some (.slice q.oi.A q.oi.n q.oi.c) ∧ wX.cell? ⟨g, 4, none⟩ = some (.slice q.oj.A q.oj.n q.oj.c)) ∧ wX.cell? ⟨gd, 0, none⟩ = some (.int .i64 q.N) ∧ wX.cell? ⟨gd, 1, none⟩ = some (.int .i64 q.L) ∧ wX.cell? ⟨gd, 2, none⟩ = some (.slice od.A od.n od.c)) := fun wX hb => ⟨HD.out wX (HB14.out.trans (hb.mono HB14.out.size)), dag_cells (HXD.out.below hb HXD.out.1)⟩
    have HED : Hid (∀ wX, Below w4.heap.size w4 wX → Calls Try.prog 18 #[.agg #[.int .i64 q.N, .int .i64 q.L, .slice od.A od.n od.c], .agg #[.int .i64 q.N, .int .i64 q.L, .slice q.o.A q.o.n q.o.c]] wX fun e w' => e = .returned (.bool true) ∧ Below wX.heap.size wX w') := fun wX hb => by
      have := eqDag_is q.N q.L od q.l q.N q.L q.o q.l wX (HGD.out wX hb) (HGI4.out wX hb)
      rwa [decide_eq_true (And.intro rfl (And.intro rfl rfl))] at this
    have HLL : Hid (q.l.length ≤ 1000000) := by have := (HGI.out _ (Below.refl _ _)).len; have := (HGI.out _ (Below.refl _ _)).few; show _ ≤ _; omega
    clear e0 e1 e2 e3 e4 hx4 hw4 hgd hb54 hb5 hb15 hb13 ho5 hm5 hgd4 HCD
    go_wp2_with fail
    go_loopw [5] (fun i wr => ∃ t : Nat, i = .int .i64 t ∧ t ≤ q.oi.n ∧ Hid (Below w4.heap.size w4 wr)) (fun i _ => q.oi.n - (intOf i).toNat)
    case atStart => exact ⟨0, rfl, Nat.zero_le _, Below.refl _ _⟩
    case round =>
      clear a0 a1 a2 a3 a4
      obtain ⟨t, rfl, ht, HBT⟩ := hrel
      obtain ⟨⟨e0, e1, e2, e3, e4⟩, e5, e6, e7⟩ := HD4.out wr HBT.out
      by_cases hlt : t < q.oi.n
      · have i0 : (0 : Int) ≤ (t : Int) := by omega
        have i1 : (t : Int) < (q.oi.n : Int) := by omega
        go_upto_region 9 with fail
        clear e0 e1 e2 e3 e4 e5 e6 e7
        go_loopw [6] (fun i wr => ∃ k : Nat, i = .int .i64 k ∧ k ≤ q.oj.n ∧ Hid (Below w4.heap.size w4 wr)) (fun i _ => q.oj.n - (intOf i).toNat)
        case atStart => exact ⟨0, rfl, Nat.zero_le _, HBT.out⟩
        case round =>
          obtain ⟨k, rfl, hk, HBK⟩ := hrel
          obtain ⟨⟨e0, e1, e2, e3, e4⟩, e5, e6, e7⟩ := HD4.out wr HBK.out
          by_cases hkt : k < q.oj.n
          · have j0 : (0 : Int) ≤ (k : Int) := by omega
            have j1 : (k : Int) < (q.oj.n : Int) := by omega
            obtain ⟨za, hza⟩ : ∃ z, q.zs[t]? = some z := ⟨_, List.getElem?_eq_getElem (by rw [HLI.out]; exact hlt)⟩
            obtain ⟨lo, hlo⟩ : ∃ z, q.ws[k]? = some z := ⟨_, List.getElem?_eq_getElem (by rw [HLJ.out]; exact hkt)⟩
            have HSI := Lib.hid (HQ4.out w4 (Below.refl _ _))
            obtain ⟨b, off, hA, hbl, hcell⟩ := HSI.out.i.rd.open_ (by rw [i64s_length, HLI.out]; omega)
            obtain ⟨b2, off2, hA2, hbl2, hcell2⟩ := HSI.out.j.rd.open_ (by rw [i64s_length, HLJ.out]; omega)
            have hca := hcell t (.int .i64 za) (by simp [i64s, hza])
            have hcb := hcell2 k (.int .i64 lo) (by simp [i64s, hlo])
            have HALL : Hid (∀ wX, Below w4.heap.size w4 wX → wX.cell? ⟨g, 0, none⟩ = some (.int .i64 q.N) ∧ wX.cell? ⟨g, 1, none⟩ = some (.int .i64 q.L) ∧ wX.cell? ⟨g, 2, none⟩ = some (.slice q.o.A q.o.n q.o.c) ∧ wX.cell? ⟨g, 3, none⟩ = some (.slice (some ⟨b, off, none⟩) q.oi.n q.oi.c) ∧ wX.cell? ⟨g, 4, none⟩ = some (.slice (some ⟨b2, off2, none⟩) q.oj.n q.oj.c) ∧ wX.cell? ⟨b, off + t, none⟩ = some (.int .i64 za) ∧ wX.cell? ⟨b2, off2 + k, none⟩ = some (.int .i64 lo) ∧ wX.cell? ⟨gd, 0, none⟩ = some (.int .i64 q.N) ∧ wX.cell? ⟨gd, 1, none⟩ = some (.int .i64 q.L) ∧ wX.cell? ⟨gd, 2, none⟩ = some (.slice od.A od.n od.c)) := fun wX hb => by
              obtain ⟨⟨c0, c1, c2, c3, c4⟩, c5, c6, c7⟩ := HD4.out wX hb
              rw [hA] at c3
              rw [hA2] at c4
              exact ⟨c0, c1, c2, c3, c4, (hb.cell (p := ⟨b, off + t, none⟩) hbl).trans hca, (hb.cell (p := ⟨b2, off2 + k, none⟩) hbl2).trans hcb, c5, c6, c7⟩
            clear hza hlo hcell hcell2 hA hA2 HSI hca hcb
            have hb4wr := HBK.out
            cases bm
            · have hno : ¬ MayG q.N q.L q.l := fun hm => by have := HBM.out.2 hm; cases this
              have HRC : Hid (∀ wX, Below w4.heap.size w4 wX → _) := fun wX hb => below_bad q.N q.L za lo od q.l wX (HGD.out wX hb) hno
              clear hno
              unfold dagV at HRC
              go_upto_region 16 with fail
              clear e0 e1 e2 e3 e4 e5 e6 e7
              have p0 : ∀ z : Calm wr, z.val.cell? ⟨g, 0, none⟩ = some (.int .i64 q.N) := fun z => (HALL.out z.val (hb4wr.trans (z.ok.mono hb4wr.size))).1
              have p1 : ∀ z : Calm wr, z.val.cell? ⟨g, 1, none⟩ = some (.int .i64 q.L) := fun z => (HALL.out z.val (hb4wr.trans (z.ok.mono hb4wr.size))).2.1
              have p2 : ∀ z : Calm wr, z.val.cell? ⟨g, 2, none⟩ = some (.slice q.o.A q.o.n q.o.c) := fun z => (HALL.out z.val (hb4wr.trans (z.ok.mono hb4wr.size))).2.2.1
              have p3 : ∀ z : Calm wr, z.val.cell? ⟨g, 3, none⟩ = some (.slice (some ⟨b, off, none⟩) q.oi.n q.oi.c) := fun z => (HALL.out z.val (hb4wr.trans (z.ok.mono hb4wr.size))).2.2.2.1
              have p4 : ∀ z : Calm wr, z.val.cell? ⟨g, 4, none⟩ = some (.slice (some ⟨b2, off2, none⟩) q.oj.n q.oj.c) := fun z => (HALL.out z.val (hb4wr.trans (z.ok.mono hb4wr.size))).2.2.2.2.1
              have p5 : ∀ z : Calm wr, z.val.cell? ⟨b, off + t, none⟩ = some (.int .i64 za) := fun z => (HALL.out z.val (hb4wr.trans (z.ok.mono hb4wr.size))).2.2.2.2.2.1
              have p6 : ∀ z : Calm wr, z.val.cell? ⟨b2, off2 + k, none⟩ = some (.int .i64 lo) := fun z => (HALL.out z.val (hb4wr.trans (z.ok.mono hb4wr.size))).2.2.2.2.2.2.1
              have p7 : ∀ z : Calm wr, z.val.cell? ⟨gd, 0, none⟩ = some (.int .i64 q.N) := fun z => (HALL.out z.val (hb4wr.trans (z.ok.mono hb4wr.size))).2.2.2.2.2.2.2.1
              have p8 : ∀ z : Calm wr, z.val.cell? ⟨gd, 1, none⟩ = some (.int .i64 q.L) := fun z => (HALL.out z.val (hb4wr.trans (z.ok.mono hb4wr.size))).2.2.2.2.2.2.2.2.1
              have p9 : ∀ z : Calm wr, z.val.cell? ⟨gd, 2, none⟩ = some (.slice od.A od.n od.c) := fun z => (HALL.out z.val (hb4wr.trans (z.ok.mono hb4wr.size))).2.2.2.2.2.2.2.2.2
              refine wp_region_calm (by kernel_rfl) (by kernel_rfl) ?_
              repeat (go_big_quiet_step ((go_at_call 47; exact calm_tells (HRC.out _ (hb4wr.trans ((Calm.ok _).mono hb4wr.size))))))
              refine wpQuiet_nil ?_
              rintro _ ⟨z, rfl⟩
              obtain ⟨w7, hwz⟩ : ∃ wz, wz = z.val := ⟨_, rfl⟩
              have hb47 : Below w4.heap.size w4 w7 := by rw [hwz]; exact hb4wr.trans (z.ok.mono hb4wr.size)
              rw [← hwz]
              clear hwz z p0 p1 p2 p3 p4 p5 p6 p7 p8 p9
              obtain ⟨e0, e1, e2, e3, e4, e5, e6, e7, e8, e9⟩ := HALL.out w7 hb47
              have HEQ : Hid (∀ wX, Calls Try.prog 48 #[.slice none 0 0, .slice none 0 0] wX fun e w' => e = .returned (.bool true) ∧ Below wX.heap.size wX w') := fun wX => eqQ_is (B := 0) (B' := 0) noAd noAd [] wX (World.ownsRow_nil _ _ _ _) rfl (World.ownsRow_nil _ _ _ _) rfl (by simp)
              have HSP : Hid (∀ wX, Below w4.heap.size w4 wX → Calls Try.prog 49 #[.slice none 0 0] wX fun e w' => e = .returned (.tuple #[]) ∧ Below w4.heap.size wX w') := fun wX hb => spoilQ_is (B := w4.heap.size) noAd [] wX (World.ownsRow_nil _ _ _ _) (by decide) (Nat.le_refl _) hb.size
              go_wp2_with (first
                | (go_at_call 44; refine (numQ_any _ _).mono ?_; rintro e w9 ⟨rfl, rfl⟩)
                | (go_at_call 48; refine (HEQ.out _).mono ?_; rintro e w10 ⟨rfl, hb10⟩; have hb410 := hb47.trans (hb10.mono hb47.size); obtain ⟨r0, r1, r2, r3, r4, r5, r6, r7, r8, r9⟩ := HALL.out w10 hb410)
                | (go_at_call 18; refine (HED.out _ hb410).mono ?_; rintro e w11 ⟨rfl, hb11⟩; have hb411 := hb410.trans (hb11.mono hb410.size))
                | (go_at_call 49; refine (HSP.out _ hb411).mono ?_; rintro e w12 ⟨rfl, hb12⟩))
              have HB12 : Hid (Below w4.heap.size w4 w12) := hb411.trans hb12
              go_roundw
              case rel => exact ⟨k + 1, by go_num, hkt, HB12.out⟩
              case measure => simp [intOf]; omega
            · have HM : Hid (MayG q.N q.L q.l) := HBM.out.1 rfl
              obtain ⟨ia, hia⟩ : ∃ ia, idxD q.l za = ia := ⟨_, rfl⟩
              have HF1 : Hid (∀ wX, Below w4.heap.size w4 wX → Calls Try.prog 27 #[.agg #[.int .i64 q.N, .int .i64 q.L, .slice q.o.A q.o.n q.o.c], .int .i64 za] wX fun e w' => e = .returned (.int .i64 ia) ∧ Below wX.heap.size wX w') := fun wX hb => by
                have := rFind_is q.N q.L za q.o q.l wX (HGI4.out wX hb)
                rwa [show idxF (neD za) q.l = ia from hia] at this
              have HIA := Lib.hid hia
              clear hia
              go_upto_region 14 with fail
              clear e0 e1 e2 e3 e4 e5 e6 e7
              have p0 : ∀ z : Calm wr, z.val.cell? ⟨g, 0, none⟩ = some (.int .i64 q.N) := fun z => (HALL.out z.val (hb4wr.trans (z.ok.mono hb4wr.size))).1
              have p1 : ∀ z : Calm wr, z.val.cell? ⟨g, 1, none⟩ = some (.int .i64 q.L) := fun z => (HALL.out z.val (hb4wr.trans (z.ok.mono hb4wr.size))).2.1
              have p2 : ∀ z : Calm wr, z.val.cell? ⟨g, 2, none⟩ = some (.slice q.o.A q.o.n q.o.c) := fun z => (HALL.out z.val (hb4wr.trans (z.ok.mono hb4wr.size))).2.2.1
              have p3 : ∀ z : Calm wr, z.val.cell? ⟨g, 3, none⟩ = some (.slice (some ⟨b, off, none⟩) q.oi.n q.oi.c) := fun z => (HALL.out z.val (hb4wr.trans (z.ok.mono hb4wr.size))).2.2.2.1
              have p4 : ∀ z : Calm wr, z.val.cell? ⟨g, 4, none⟩ = some (.slice (some ⟨b2, off2, none⟩) q.oj.n q.oj.c) := fun z => (HALL.out z.val (hb4wr.trans (z.ok.mono hb4wr.size))).2.2.2.2.1
              have p5 : ∀ z : Calm wr, z.val.cell? ⟨b, off + t, none⟩ = some (.int .i64 za) := fun z => (HALL.out z.val (hb4wr.trans (z.ok.mono hb4wr.size))).2.2.2.2.2.1
              have p6 : ∀ z : Calm wr, z.val.cell? ⟨b2, off2 + k, none⟩ = some (.int .i64 lo) := fun z => (HALL.out z.val (hb4wr.trans (z.ok.mono hb4wr.size))).2.2.2.2.2.2.1
              have p7 : ∀ z : Calm wr, z.val.cell? ⟨gd, 0, none⟩ = some (.int .i64 q.N) := fun z => (HALL.out z.val (hb4wr.trans (z.ok.mono hb4wr.size))).2.2.2.2.2.2.2.1
              have p8 : ∀ z : Calm wr, z.val.cell? ⟨gd, 1, none⟩ = some (.int .i64 q.L) := fun z => (HALL.out z.val (hb4wr.trans (z.ok.mono hb4wr.size))).2.2.2.2.2.2.2.2.1
              have p9 : ∀ z : Calm wr, z.val.cell? ⟨gd, 2, none⟩ = some (.slice od.A od.n od.c) := fun z => (HALL.out z.val (hb4wr.trans (z.ok.mono hb4wr.size))).2.2.2.2.2.2.2.2.2
              refine wp_region_calm (by kernel_rfl) (by kernel_rfl) ?_
              repeat (go_big_quiet_step ((go_at_call 27; exact calm_tells (HF1.out _ (hb4wr.trans ((Calm.ok _).mono hb4wr.size))))))
              refine wpQuiet_nil ?_
              rintro _ ⟨z, rfl⟩
              obtain ⟨w6, hwz⟩ : ∃ wz, wz = z.val := ⟨_, rfl⟩
              have hb4w6 : Below w4.heap.size w4 w6 := by rw [hwz]; exact hb4wr.trans (z.ok.mono hb4wr.size)
              rw [← hwz]
              clear hwz z p0 p1 p2 p3 p4 p5 p6 p7 p8 p9
              by_cases hia0 : ia < 0
              · have HRC : Hid (∀ wX, Below w4.heap.size w4 wX → _) := fun wX hb => below_none q.N q.L za lo od q.l wX (HGD.out wX hb) HM.out (by rw [HIA.out]; exact hia0)
                have j2 : ¬ ((0 : Int) ≤ ia) := by omega
                unfold dagV at HRC
                go_upto_region 16 with fail
                have p0 : ∀ z : Calm w6, z.val.cell? ⟨g, 0, none⟩ = some (.int .i64 q.N) := fun z => (HALL.out z.val (hb4w6.trans (z.ok.mono hb4w6.size))).1
                have p1 : ∀ z : Calm w6, z.val.cell? ⟨g, 1, none⟩ = some (.int .i64 q.L) := fun z => (HALL.out z.val (hb4w6.trans (z.ok.mono hb4w6.size))).2.1
                have p2 : ∀ z : Calm w6, z.val.cell? ⟨g, 2, none⟩ = some (.slice q.o.A q.o.n q.o.c) := fun z => (HALL.out z.val (hb4w6.trans (z.ok.mono hb4w6.size))).2.2.1
                have p3 : ∀ z : Calm w6, z.val.cell? ⟨g, 3, none⟩ = some (.slice (some ⟨b, off, none⟩) q.oi.n q.oi.c) := fun z => (HALL.out z.val (hb4w6.trans (z.ok.mono hb4w6.size))).2.2.2.1
                have p4 : ∀ z : Calm w6, z.val.cell? ⟨g, 4, none⟩ = some (.slice (some ⟨b2, off2, none⟩) q.oj.n q.oj.c) := fun z => (HALL.out z.val (hb4w6.trans (z.ok.mono hb4w6.size))).2.2.2.2.1
                have p5 : ∀ z : Calm w6, z.val.cell? ⟨b, off + t, none⟩ = some (.int .i64 za) := fun z => (HALL.out z.val (hb4w6.trans (z.ok.mono hb4w6.size))).2.2.2.2.2.1
                have p6 : ∀ z : Calm w6, z.val.cell? ⟨b2, off2 + k, none⟩ = some (.int .i64 lo) := fun z => (HALL.out z.val (hb4w6.trans (z.ok.mono hb4w6.size))).2.2.2.2.2.2.1
                have p7 : ∀ z : Calm w6, z.val.cell? ⟨gd, 0, none⟩ = some (.int .i64 q.N) := fun z => (HALL.out z.val (hb4w6.trans (z.ok.mono hb4w6.size))).2.2.2.2.2.2.2.1
                have p8 : ∀ z : Calm w6, z.val.cell? ⟨gd, 1, none⟩ = some (.int .i64 q.L) := fun z => (HALL.out z.val (hb4w6.trans (z.ok.mono hb4w6.size))).2.2.2.2.2.2.2.2.1
                have p9 : ∀ z : Calm w6, z.val.cell? ⟨gd, 2, none⟩ = some (.slice od.A od.n od.c) := fun z => (HALL.out z.val (hb4w6.trans (z.ok.mono hb4w6.size))).2.2.2.2.2.2.2.2.2
                refine wp_region_calm (by kernel_rfl) (by kernel_rfl) ?_
                repeat (go_big_quiet_step ((go_at_call 47; exact calm_tells (HRC.out _ (hb4w6.trans ((Calm.ok _).mono hb4w6.size))))))
                refine wpQuiet_nil ?_
                rintro _ ⟨z, rfl⟩
                obtain ⟨w7, hwz⟩ : ∃ wz, wz = z.val := ⟨_, rfl⟩
                have hb47 : Below w4.heap.size w4 w7 := by rw [hwz]; exact hb4w6.trans (z.ok.mono hb4w6.size)
                rw [← hwz]
                clear hwz z p0 p1 p2 p3 p4 p5 p6 p7 p8 p9
                obtain ⟨e0, e1, e2, e3, e4, e5, e6, e7, e8, e9⟩ := HALL.out w7 hb47
                have HEQ : Hid (∀ wX, Calls Try.prog 48 #[.slice none 0 0, .slice none 0 0] wX fun e w' => e = .returned (.bool true) ∧ Below wX.heap.size wX w') := fun wX => eqQ_is (B := 0) (B' := 0) noAd noAd [] wX (World.ownsRow_nil _ _ _ _) rfl (World.ownsRow_nil _ _ _ _) rfl (by simp)
                have HSP : Hid (∀ wX, Below w4.heap.size w4 wX → Calls Try.prog 49 #[.slice none 0 0] wX fun e w' => e = .returned (.tuple #[]) ∧ Below w4.heap.size wX w') := fun wX hb => spoilQ_is (B := w4.heap.size) noAd [] wX (World.ownsRow_nil _ _ _ _) (by decide) (Nat.le_refl _) hb.size
                go_wp2_with (first
                  | (go_at_call 44; refine (numQ_any _ _).mono ?_; rintro e w9 ⟨rfl, rfl⟩)
                  | (go_at_call 48; refine (HEQ.out _).mono ?_; rintro e w10 ⟨rfl, hb10⟩; have hb410 := hb47.trans (hb10.mono hb47.size); obtain ⟨r0, r1, r2, r3, r4, r5, r6, r7, r8, r9⟩ := HALL.out w10 hb410)
                  | (go_at_call 18; refine (HED.out _ hb410).mono ?_; rintro e w11 ⟨rfl, hb11⟩; have hb411 := hb410.trans (hb11.mono hb410.size))
                  | (go_at_call 49; refine (HSP.out _ hb411).mono ?_; rintro e w12 ⟨rfl, hb12⟩))
                have HB12 : Hid (Below w4.heap.size w4 w12) := hb411.trans hb12
                go_roundw
                case rel => exact ⟨k + 1, by go_num, hkt, HB12.out⟩
                case measure => simp [intOf]; omega
              · have j2 : (0 : Int) ≤ ia := by omega
                obtain ⟨x, hx⟩ : ∃ x, q.l[cutF (neD za) q.l]? = some x := by
                  cases hx : q.l[cutF (neD za) q.l]? with
                  | none => exact absurd (by rw [← HIA.out]; exact idxF_neg.2 hx) hia0
                  | some x => exact ⟨x, rfl⟩
                have HRC : Hid (∀ wX, Below w4.heap.size w4 wX → _) := fun wX hb => below_ok q.N q.L za lo od q.l x wX (HGD.out wX hb) HM.out hx
                have HRR : Hid (∀ wX, Below w4.heap.size w4 wX → _) := fun wX hb => rBelow_is q.N q.L za lo q.o q.l x wX (HGI4.out wX hb) HM.out hx
                obtain ⟨v, hv⟩ : ∃ v, v = belC q.L q.l x lo := ⟨_, rfl⟩
                have HVL : Hid (v.length ≤ 1000000) := by have := bel_len q.L q.l x lo; have := HLL.out; show _ ≤ _; rw [hv]; omega
                rw [← hv] at HRC HRR
                unfold dagV at HRC HRR
                clear hx hv
                go_upto_region 15 with fail
                have KEEP : Hid (∀ wX, Below w6.heap.size w6 wX → wX.cell? ⟨g, 0, none⟩ = some (.int .i64 q.N) ∧ wX.cell? ⟨g, 1, none⟩ = some (.int .i64 q.L) ∧ wX.cell? ⟨g, 2, none⟩ = some (.slice q.o.A q.o.n q.o.c) ∧ wX.cell? ⟨g, 3, none⟩ = some (.slice (some ⟨b, off, none⟩) q.oi.n q.oi.c) ∧ wX.cell? ⟨g, 4, none⟩ = some (.slice (some ⟨b2, off2, none⟩) q.oj.n q.oj.c) ∧ wX.cell? ⟨b, off + t, none⟩ = some (.int .i64 za) ∧ wX.cell? ⟨b2, off2 + k, none⟩ = some (.int .i64 lo) ∧ wX.cell? ⟨gd, 0, none⟩ = some (.int .i64 q.N) ∧ wX.cell? ⟨gd, 1, none⟩ = some (.int .i64 q.L) ∧ wX.cell? ⟨gd, 2, none⟩ = some (.slice od.A od.n od.c)) := fun wX hb => HALL.out wX (hb4w6.trans (hb.mono hb4w6.size))
                obtain ⟨e0, e1, e2, e3, e4, e5, e6, e7, e8, e9⟩ := KEEP.out w6 (Below.refl _ _)
                go_region_held3 (fun wX => wX.cell? ⟨g, 0, none⟩ = some (.int .i64 q.N) ∧ wX.cell? ⟨g, 1, none⟩ = some (.int .i64 q.L) ∧ wX.cell? ⟨g, 2, none⟩ = some (.slice q.o.A q.o.n q.o.c) ∧ wX.cell? ⟨g, 3, none⟩ = some (.slice (some ⟨b, off, none⟩) q.oi.n q.oi.c) ∧ wX.cell? ⟨g, 4, none⟩ = some (.slice (some ⟨b2, off2, none⟩) q.oj.n q.oj.c) ∧ wX.cell? ⟨b, off + t, none⟩ = some (.int .i64 za) ∧ wX.cell? ⟨b2, off2 + k, none⟩ = some (.int .i64 lo) ∧ wX.cell? ⟨gd, 0, none⟩ = some (.int .i64 q.N) ∧ wX.cell? ⟨gd, 1, none⟩ = some (.int .i64 q.L) ∧ wX.cell? ⟨gd, 2, none⟩ = some (.slice od.A od.n od.c))
                  ((refine KEEP.out _ ?_; first
                    | with_reducible exact (Below.refl _ _)
                    | with_reducible exact (Below.refl _ _).drew
                    | with_reducible exact hb67))
                  (first
                    | (go_at_call 46; refine (HRR.out _ ?_).mono ?_
                       · exact hb4w6.trans ((Below.refl _ _).drew.mono hb4w6.size)
                       rintro e w7 ⟨⟨A5, n5, q5⟩, rfl, how7, hlw7, hbxw7⟩
                       have hb67 : Below w6.heap.size w6 w7 := (Below.refl _ _).drew.trans (hbxw7.mono (by simp))))
                clear e0 e1 e2 e3 e4 e5 e6 e7 e8 e9 KEEP
                have hb4w7 : Below w4.heap.size w4 w7 := hb4w6.trans (hb67.mono hb4w6.size)
                go_upto_region 16 with fail
                have KEEP : Hid (∀ wX, Below w7.heap.size w7 wX → wX.cell? ⟨g, 0, none⟩ = some (.int .i64 q.N) ∧ wX.cell? ⟨g, 1, none⟩ = some (.int .i64 q.L) ∧ wX.cell? ⟨g, 2, none⟩ = some (.slice q.o.A q.o.n q.o.c) ∧ wX.cell? ⟨g, 3, none⟩ = some (.slice (some ⟨b, off, none⟩) q.oi.n q.oi.c) ∧ wX.cell? ⟨g, 4, none⟩ = some (.slice (some ⟨b2, off2, none⟩) q.oj.n q.oj.c) ∧ wX.cell? ⟨b, off + t, none⟩ = some (.int .i64 za) ∧ wX.cell? ⟨b2, off2 + k, none⟩ = some (.int .i64 lo) ∧ wX.cell? ⟨gd, 0, none⟩ = some (.int .i64 q.N) ∧ wX.cell? ⟨gd, 1, none⟩ = some (.int .i64 q.L) ∧ wX.cell? ⟨gd, 2, none⟩ = some (.slice od.A od.n od.c)) := fun wX hb => HALL.out wX (hb4w7.trans (hb.mono hb4w7.size))
                obtain ⟨e0, e1, e2, e3, e4, e5, e6, e7, e8, e9⟩ := KEEP.out w7 (Below.refl _ _)
                go_region_held3 (fun wX => wX.cell? ⟨g, 0, none⟩ = some (.int .i64 q.N) ∧ wX.cell? ⟨g, 1, none⟩ = some (.int .i64 q.L) ∧ wX.cell? ⟨g, 2, none⟩ = some (.slice q.o.A q.o.n q.o.c) ∧ wX.cell? ⟨g, 3, none⟩ = some (.slice (some ⟨b, off, none⟩) q.oi.n q.oi.c) ∧ wX.cell? ⟨g, 4, none⟩ = some (.slice (some ⟨b2, off2, none⟩) q.oj.n q.oj.c) ∧ wX.cell? ⟨b, off + t, none⟩ = some (.int .i64 za) ∧ wX.cell? ⟨b2, off2 + k, none⟩ = some (.int .i64 lo) ∧ wX.cell? ⟨gd, 0, none⟩ = some (.int .i64 q.N) ∧ wX.cell? ⟨gd, 1, none⟩ = some (.int .i64 q.L) ∧ wX.cell? ⟨gd, 2, none⟩ = some (.slice od.A od.n od.c))
                  ((refine KEEP.out _ ?_; first
                    | with_reducible exact (Below.refl _ _)
                    | with_reducible exact (Below.refl _ _).drew
                    | with_reducible exact hb78))
                  (first
                    | (go_at_call 47; refine (HRC.out _ ?_).mono ?_
                       · exact hb4w7.trans ((Below.refl _ _).drew.mono hb4w7.size)
                       rintro e w8 ⟨⟨A6, n6, q6⟩, rfl, how8, hlw8, hbxw8⟩
                       have hb78 : Below w7.heap.size w7 w8 := (Below.refl _ _).drew.trans (hbxw8.mono (by simp))))
                clear e0 e1 e2 e3 e4 e5 e6 e7 e8 e9 KEEP
                have hb48 : Below w4.heap.size w4 w8 := hb4w7.trans (hb78.mono hb4w7.size)
                have HO5 : Hid (w8.ownsRow w4.heap.size 3 1 (.slice A5 n5 q5) n5 (i64s v)) := own_more (own_below how7 hb78) (by have := hb4w6.size; simp; omega)
                have HO6 : Hid (w8.ownsRow w4.heap.size 3 1 (.slice A6 n6 q6) n6 (i64s v)) := own_more how8 (by have := hb4w7.size; simp; omega)
                have HL5 : Hid (v.length = n5) := hlw7
                have HL6 : Hid (v.length = n6) := hlw8
                have HEQ : Hid (∀ wX, Below w8.heap.size w8 wX → Calls Try.prog 48 #[.slice A6 n6 q6, .slice A5 n5 q5] wX fun e w' => e = .returned (.bool true) ∧ Below wX.heap.size wX w') := fun wX hb => eqQ_is ⟨A6, n6, q6⟩ ⟨A5, n5, q5⟩ v wX (own_below HO6.out hb) HL6.out (own_below HO5.out hb) HL5.out HVL.out
                have HSP : Hid (∀ wX, Below w8.heap.size w8 wX → Calls Try.prog 49 #[.slice A6 n6 q6] wX fun e w' => e = .returned (.tuple #[]) ∧ Below w4.heap.size wX w') := fun wX hb => spoilQ_is (B := w4.heap.size) ⟨A6, n6, q6⟩ v wX (own_below HO6.out hb) (by have := HVL.out; have := HL6.out; show n6 ≤ _; omega) (Nat.le_refl _) (Nat.le_trans hb48.size hb.size)
                clear how7 how8 hlw7 hlw8 hbxw7 hbxw8 HRR HRC
                obtain ⟨e0, e1, e2, e3, e4, e5, e6, e7, e8, e9⟩ := HALL.out w8 hb48
                go_wp2_with (first
                  | (go_at_call 44; refine (numQ_any _ _).mono ?_; rintro e w9 ⟨rfl, rfl⟩)
                  | (go_at_call 48; refine (HEQ.out _ (Below.refl _ _)).mono ?_; rintro e w10 ⟨rfl, hb10⟩; have hb410 := hb48.trans (hb10.mono hb48.size); obtain ⟨r0, r1, r2, r3, r4, r5, r6, r7, r8, r9⟩ := HALL.out w10 hb410)
                  | (go_at_call 18; refine (HED.out _ hb410).mono ?_; rintro e w11 ⟨rfl, hb11⟩; have hb411 := hb410.trans (hb11.mono hb410.size); have hb811 := hb10.trans (hb11.mono hb10.size))
                  | (go_at_call 49; refine (HSP.out _ hb811).mono ?_; rintro e w12 ⟨rfl, hb12⟩))
                have HB12 : Hid (Below w4.heap.size w4 w12) := hb411.trans hb12
                go_roundw
                case rel => exact ⟨k + 1, by go_num, hkt, HB12.out⟩
                case measure => simp [intOf]; omega
          · obtain rfl : k = q.oj.n := by omega
            have j1 : ¬ ((q.oj.n : Int) < (q.oj.n : Int)) := by omega
            clear hkt
            go_wp2_with fail
            go_roundw
            case rel => exact ⟨t + 1, by go_num, hlt, HBK.out⟩
            case measure => simp [intOf]; omega
      · obtain rfl : t = q.oi.n := by omega
        have i1 : ¬ ((q.oi.n : Int) < (q.oi.n : Int)) := by omega
        have hbr := HB.out.trans ((HB14.out.trans (HBT.out.mono HB14.out.size)).mono (Nat.le_of_lt hgs))
        have hsr := HBT.out.size
        have hs4 := HB14.out.size
        clear hlt
        go_wp2_with (go_at_call 45; refine (wakesQ_any _).mono ?_; rintro e w5 ⟨rfl, hb5⟩)
        go_ret
        exact ⟨rfl, hbr.trans (hb5.mono (by omega))⟩
  · go_wp2_with fail
    go_ret
    exact ⟨rfl, HB.out.trans (hb2.mono (Nat.le_of_lt hgs))⟩

end Go.Proofs.Ytfldfillcmamcaa
