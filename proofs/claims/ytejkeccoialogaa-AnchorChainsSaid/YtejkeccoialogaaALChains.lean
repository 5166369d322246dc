/-
  The walk of 'AnchorChains'.
-/
import Derived.Test.YtejkeccoialogaaALaw
import Derived.Test.YtejkeccoialogaaAChain
import Derived.Test.YtejkeccoialogaaARChain
import Derived.Test.YtejkeccoialogaaYRMay
namespace Go.Proofs.Ytejkeccoialogaa
open Go.RowKit

theorem eqA_is {B B' : Nat} (o1 o2 : Ad) (z : List Int) (w : World) (h1 : w.ownsRow B 3 1 o1.v o1.n (i64s z)) (l1 : z.length = o1.n) (h2 : w.ownsRow B' 3 1 o2.v o2.n (i64s z)) (l2 : z.length = o2.n) (hn : z.length ≤ 1000000) :
    Calls Try.prog 37 #[.slice o1.A o1.n o1.c, .slice o2.A o2.n o2.c] w fun e w' => e = .returned (.bool true) ∧ Below w.heap.size w w' :=
  (eqNumbers_any o1.A o2.A o1.c o2.c o1.n o2.n z z w l1 l2 (rd_of_own h1).2.2 (rd_of_own h2).2.2 (by omega) (by omega)).mono fun e w' ⟨he, d, hd⟩ => ⟨by rw [he]; simp, by rw [hd]; exact below_n (Below.refl _ _) _⟩
theorem spoilA_is {B B' : Nat} (o1 : Ad) (z : List Int) (w : World) (h1 : w.ownsRow B 3 1 o1.v o1.n (i64s z)) (hn : o1.n ≤ 1000000) (hB : B' ≤ B) (hw : B' ≤ w.heap.size) :
    Calls Try.prog 38 #[.slice o1.A o1.n o1.c] w fun e w' => e = .returned (.tuple #[]) ∧ Below B' w w' :=
  (spoilNums_far B o1.v o1.n z w h1 (by omega)).mono fun e w' ⟨he, ht⟩ => ⟨he, ht.below (fun k hk => Nat.le_trans hB (own_lt h1 hk).2) hw⟩
theorem chain_len {N L after R : Int} {l : List CrtD} {x : CrtD} (ha : ancC N l R = some x) : (chainC N L l after R x).length ≤ l.length := stOk_len (stC_ok ha _)
set_option maxRecDepth 100000 in
set_option maxHeartbeats 8000000 in
theorem anchorChains_walk (q : AskQ) (w : World) (h : AskQIn w q) : Calls Try.prog 7 #[askQV q] w fun e w' => e = .returned (.bool true) ∧ Below w.heap.size w w' := by
  obtain ⟨g, hg⟩ : ∃ g, g = w.heap.size := ⟨_, rfl⟩
  obtain ⟨w1, hw1⟩ : ∃ w1, w1 = w.alloc (.cells (askQC q).toArray 51) := ⟨_, rfl⟩
  obtain ⟨hb1, hsz, hx0⟩ := boxes1 w _ _ hw1
  rw [← hg] at hb1 hsz hx0
  have HG : Hid (w.heap.size = g) := hg.symm
  have HW : Hid (w.alloc (.cells #[.int .i64 q.N, .int .i64 q.L, .slice q.o.A q.o.n q.o.c, .slice q.oi.A q.oi.n q.oi.c, .slice q.oj.A q.oj.n q.oj.c] 51) = w1) := hw1.symm
  have HB := Lib.hid hb1
  have HX := Lib.hid hx0
  have HQ : Hid (∀ wX, Below g w wX → AskQIn wX q) := fun wX hb => h.below (by rw [← hg]; exact hb)
  have HH := Lib.hid (heavyA_is q w1 (h.below (by rw [← hg]; exact hb1)))
  have HD : Hid (∀ wX, Below w1.heap.size w1 wX → wX.cell? ⟨g, 0, none⟩ = some (.int .i64 q.N) ∧ wX.cell? ⟨g, 1, none⟩ = some (.int .i64 q.L) ∧ wX.cell? ⟨g, 2, none⟩ = some (.slice q.o.A q.o.n q.o.c) ∧ wX.cell? ⟨g, 3, none⟩ = some (.slice q.oi.A q.oi.n q.oi.c) ∧ wX.cell? ⟨g, 4, none⟩ = some (.slice q.oj.A q.oj.n q.oj.c)) := fun wX hb => askQ_cells (HX.out.below hb HX.out.1)
  obtain ⟨a0, a1, a2, a3, a4⟩ := askQ_cells hx0
  have hgs := hx0.1
  clear hg hw1 hb1 hsz hx0 h
  rw [HG.out]
  unfold askQV at HH ⊢
  go_enter Try.func7, Try.ntmps7
  go_upto_region 1 with fail
  rw [HG.out, HW.out]
  go_wp2_with (go_at_call 24; refine HH.out.mono ?_; rintro e w2 ⟨b, rfl, hlight, hb2⟩; obtain ⟨e0, e1, e2, e3, e4⟩ := HD.out w2 hb2; cases b)
  · have hbw2 := HB.out.trans (hb2.mono (Nat.le_of_lt hgs))
    have HGI : Hid (∀ wX, Below w1.heap.size w1 wX → GIn wX q.o q.l) := fun wX hb => (HQ.out wX (HB.out.trans (hb.mono (Nat.le_of_lt hgs)))).d.gin (hlight (by simp)).d (by decide)
    have hn30 : q.oi.n ≤ 30 := by have := (hlight (by simp)).i; have := (HQ.out _ hbw2).i.len; omega
    have hn30j : q.oj.n ≤ 30 := by have := (hlight (by simp)).j; have := (HQ.out _ hbw2).j.len; omega
    have HLI : Hid (q.zs.length = q.oi.n) := (HQ.out _ hbw2).i.len
    have HLJ : Hid (q.ws.length = q.oj.n) := (HQ.out _ hbw2).j.len
    have HWJ : Hid (I64s q.ws) := (HQ.out _ hbw2).wj
    have HB12 := Lib.hid hb2
    have HSML : Hid (q.l.length ≤ 80) := by show _ ≤ _; have := (hlight (by simp)).d.1; rw [AskQ.l, List.length_map]; exact this
    clear hlight HH
    have HMY : Hid (∀ wX, Below w1.heap.size w1 wX → Calls Try.prog 25 #[.agg #[.int .i64 q.N, .int .i64 q.L, .slice q.o.A q.o.n q.o.c]] wX (RetMay q.N q.L q.l wX)) := fun wX hb => rMay_is q.N q.L q.o q.l wX (HGI.out wX hb)
    have HCD : Hid (∀ wX, Below w1.heap.size w1 wX → Calls Try.prog 11 #[.agg #[.int .i64 q.N, .int .i64 q.L, .slice q.o.A q.o.n q.o.c]] wX (CopyDagTo q.N q.L q.l wX)) := fun wX hb => copyDag_is q.N q.L q.o q.l wX (HGI.out wX hb)
    go_upto_region 4 with (go_at_call 25; refine (HMY.out _ hb2).mono ?_; rintro e w3 ⟨bm, rfl, hbm, hb3⟩)
    have HBM := Lib.hid hbm
    have hb13 : Below w1.heap.size w1 w3 := hb2.trans (hb3.mono hb2.size)
    clear e0 e1 e2 e3 e4 hbm hb3 hb2 HMY
    obtain ⟨e0, e1, e2, e3, e4⟩ := HD.out w3 hb13
    go_upto_region 5 with (go_at_call 11; refine (HCD.out _ hb13).mono ?_; rintro e w5 ⟨od, ms5, rfl, ho5, hm5, hb5⟩; dsimp only [dagV])
    obtain ⟨gd, hgd⟩ : ∃ gd, gd = w5.heap.size := ⟨_, rfl⟩
    obtain ⟨w4, hw4⟩ : ∃ w4, w4 = w5.alloc (.cells (dagC q.N q.L od).toArray 24) := ⟨_, rfl⟩
    obtain ⟨hb54, -, hx4⟩ := boxes1 w5 _ _ hw4
    have HGDE : Hid (w5.heap.size = gd) := hgd.symm
    have HW4 : Hid (w5.alloc (.cells #[.int .i64 q.N, .int .i64 q.L, .slice od.A od.n od.c] 24) = w4) := hw4.symm
    rw [HGDE.out, HW4.out]
    have hb15 : Below w1.heap.size w1 w5 := hb13.trans (hb5.mono hb13.size)
    have HB14 : Hid (Below w1.heap.size w1 w4) := hb15.trans (hb54.mono hb15.size)
    have hgd4 : GIn w4 od q.l := by
      have hgl := HGI.out w3 hb13
      refine GIn.below ⟨ms5, ho5.in_ (fun x hx => hgl.fit (by rw [← hm5]; exact List.mem_map_of_mem hx)) ?_, hm5⟩ hb54
      have h1 : ms5.length = q.l.length := by rw [← hm5, List.length_map]
      have := hgl.len
      have := hgl.few
      omega
    rw [← hgd] at hx4
    have HXD := Lib.hid hx4
    have HGD : Hid (∀ wX, Below w4.heap.size w4 wX → GIn wX od q.l) := fun wX hb => hgd4.below hb
    have HGI4 : Hid (∀ wX, Below w4.heap.size w4 wX → GIn wX q.o q.l) := fun wX hb => HGI.out wX (HB14.out.trans (hb.mono HB14.out.size))
    have HQ4 : Hid (∀ wX, Below w4.heap.size w4 wX → AskQIn wX q) := fun wX hb => HQ.out wX (HB.out.trans ((HB14.out.trans (hb.mono HB14.out.size)).mono (Nat.le_of_lt hgs)))
    have HD4 : Hid (∀ wX, Below w4.heap.size w4 wX → (wX.cell? ⟨g, 0, none⟩ = some (.int .i64 q.N) ∧ wX.cell? ⟨g, 1, none⟩ = some (.int .i64 q.L) ∧ wX.cell? ⟨g, 2, none⟩ = some (.slice q.o.A q.o.n q.o.c) ∧ wX.cell? ⟨g, 3, none⟩ = some (.slice q.oi.A q.oi.n q.oi.c) ∧ wX.cell? ⟨g, 4, none⟩ = some (.slice q.oj.A q.oj.n q.oj.c)) ∧ wX.cell? ⟨gd, 0, none⟩ = some (.int .i64 q.N) ∧ wX.cell? ⟨gd, 1, none⟩ = some (.int .i64 q.L) ∧ wX.cell? ⟨gd, 2, none⟩ = some (.slice od.A od.n od.c)) := fun wX hb => ⟨HD.out wX (HB14.out.trans (hb.mono HB14.out.size)), dag_cells (HXD.out.below hb HXD.out.1)⟩
    have HED : Hid (∀ wX, Below w4.heap.size w4 wX → Calls Try.prog 17 #[.agg #[.int .i64 q.N, .int .i64 q.L, .slice od.A od.n od.c], .agg #[.int .i64 q.N, .int .i64 q.L, .slice q.o.A q.o.n q.o.c]] wX fun e w' => e = .returned (.bool true) ∧ Below wX.heap.size wX w') := fun wX hb => by
      have := eqDag_is q.N q.L od q.l q.N q.L q.o q.l wX (HGD.out wX hb) (HGI4.out wX hb)
      rwa [decide_eq_true (And.intro rfl (And.intro rfl rfl))] at this
    clear e0 e1 e2 e3 e4 hx4 hw4 hgd hb54 hb5 hb15 hb13 ho5 hm5 hgd4 HCD
    go_wp2_with fail
    go_loopw [5] (fun i wr => ∃ t : Nat, i = .int .i64 t ∧ t ≤ q.oj.n ∧ Hid (Below w4.heap.size w4 wr)) (fun i _ => q.oj.n - (intOf i).toNat)
    case atStart => exact ⟨0, rfl, Nat.zero_le _, Below.refl _ _⟩
    case round =>
      clear a0 a1 a2 a3 a4
      obtain ⟨t, rfl, ht, HBT⟩ := hrel
      obtain ⟨⟨e0, e1, e2, e3, e4⟩, e5, e6, e7⟩ := HD4.out wr HBT.out
      by_cases hlt : t < q.oj.n
      · have i0 : (0 : Int) ≤ (t : Int) := by omega
        have i1 : (t : Int) < (q.oj.n : Int) := by omega
        go_upto_region 9 with fail
        clear e0 e1 e2 e3 e4 e5 e6 e7
        go_loopw [6] (fun i wr => ∃ k : Nat, i = .int .i64 k ∧ k ≤ q.oj.n ∧ Hid (Below w4.heap.size w4 wr)) (fun i _ => q.oj.n - (intOf i).toNat)
        case atStart => exact ⟨0, rfl, Nat.zero_le _, HBT.out⟩
        case round =>
          obtain ⟨k, rfl, hk, HBK⟩ := hrel
          obtain ⟨⟨e0, e1, e2, e3, e4⟩, e5, e6, e7⟩ := HD4.out wr HBK.out
          by_cases hkt : k < q.oj.n
          · have j0 : (0 : Int) ≤ (k : Int) := by omega
            have j1 : (k : Int) < (q.oj.n : Int) := by omega
            obtain ⟨af, haf⟩ : ∃ z, q.ws[t]? = some z := ⟨_, List.getElem?_eq_getElem (by rw [HLJ.out]; exact hlt)⟩
            obtain ⟨r, hr⟩ : ∃ z, q.ws[k]? = some z := ⟨_, List.getElem?_eq_getElem (by rw [HLJ.out]; exact hkt)⟩
            have HSI := Lib.hid (HQ4.out w4 (Below.refl _ _))
            obtain ⟨b, off, hA, hbl, hcell⟩ := HSI.out.j.rd.open_ (by rw [i64s_length, HLJ.out]; omega)
            have hca := hcell t (.int .i64 af) (by simp [i64s, haf])
            have hcb := hcell k (.int .i64 r) (by simp [i64s, hr])
            have haI := HWJ.out af (List.mem_of_getElem? haf)
            have hrI := HWJ.out r (List.mem_of_getElem? hr)
            unfold I64 at haI hrI
            have HALL : Hid (∀ wX, Below w4.heap.size w4 wX → wX.cell? ⟨g, 0, none⟩ = some (.int .i64 q.N) ∧ wX.cell? ⟨g, 1, none⟩ = some (.int .i64 q.L) ∧ wX.cell? ⟨g, 2, none⟩ = some (.slice q.o.A q.o.n q.o.c) ∧ wX.cell? ⟨g, 4, none⟩ = some (.slice (some ⟨b, off, none⟩) q.oj.n q.oj.c) ∧ wX.cell? ⟨b, off + t, none⟩ = some (.int .i64 af) ∧ wX.cell? ⟨b, off + k, none⟩ = some (.int .i64 r) ∧ wX.cell? ⟨gd, 0, none⟩ = some (.int .i64 q.N) ∧ wX.cell? ⟨gd, 1, none⟩ = some (.int .i64 q.L) ∧ wX.cell? ⟨gd, 2, none⟩ = some (.slice od.A od.n od.c)) := fun wX hb => by
              obtain ⟨⟨c0, c1, c2, c3, c4⟩, c5, c6, c7⟩ := HD4.out wX hb
              rw [hA] at c4
              exact ⟨c0, c1, c2, c4, (hb.cell (p := ⟨b, off + t, none⟩) hbl).trans hca, (hb.cell (p := ⟨b, off + k, none⟩) hbl).trans hcb, c5, c6, c7⟩
            clear haf hr hcell hA HSI hca hcb
            have hb4wr := HBK.out
            obtain ⟨f0, f1, f2, f4, f5, f6, f7, f8, f9⟩ := HALL.out wr hb4wr
            go_upto_region 11 with fail
            clear e0 e1 e2 e3 e4 e5 e6 e7 f0 f1 f2 f4 f5 f6 f7 f8 f9
            have p4 : ∀ z : Calm wr, z.val.cell? ⟨g, 4, none⟩ = some (.slice (some ⟨b, off, none⟩) q.oj.n q.oj.c) := fun z => (HALL.out z.val (hb4wr.trans (z.ok.mono hb4wr.size))).2.2.2.1
            have p5 : ∀ z : Calm wr, z.val.cell? ⟨b, off + t, none⟩ = some (.int .i64 af) := fun z => (HALL.out z.val (hb4wr.trans (z.ok.mono hb4wr.size))).2.2.2.2.1
            have p6 : ∀ z : Calm wr, z.val.cell? ⟨b, off + k, none⟩ = some (.int .i64 r) := fun z => (HALL.out z.val (hb4wr.trans (z.ok.mono hb4wr.size))).2.2.2.2.2.1
            refine wp_region_calm (by kernel_rfl) (by kernel_rfl) ?_
            repeat (go_big_quiet_step (fail))
            refine wpQuiet_nil ?_
            rintro _ ⟨z, rfl⟩
            obtain ⟨w6, hwz⟩ : ∃ wz, wz = z.val := ⟨_, rfl⟩
            have hb46 : Below w4.heap.size w4 w6 := by rw [hwz]; exact hb4wr.trans (z.ok.mono hb4wr.size)
            rw [← hwz]
            clear hwz z p4 p5 p6
            have HB46 := Lib.hid hb46
            obtain ⟨e0, e1, e2, e4, e5, e6, e7, e8, e9⟩ := HALL.out w6 hb46
            have HEQ : Hid (∀ wX, Calls Try.prog 37 #[.slice none 0 0, .slice none 0 0] wX fun e w' => e = .returned (.bool true) ∧ Below wX.heap.size wX w') := fun wX => eqA_is (B := 0) (B' := 0) noAd noAd [] wX (World.ownsRow_nil _ _ _ _) rfl (World.ownsRow_nil _ _ _ _) rfl (by simp)
            have HSP : Hid (∀ wX, Below w4.heap.size w4 wX → Calls Try.prog 38 #[.slice none 0 0] wX fun e w' => e = .returned (.tuple #[]) ∧ Below w4.heap.size wX w') := fun wX hb => spoilA_is (B := w4.heap.size) noAd [] wX (World.ownsRow_nil _ _ _ _) (by decide) (Nat.le_refl _) hb.size
            cases bm
            · have HNO : Hid (¬ MayG q.N q.L q.l) := fun hm => by have := HBM.out.2 hm; cases this
              have HRC : Hid (∀ wX, Below w4.heap.size w4 wX → _) := fun wX hb => chain_bad q.N q.L af r od q.l wX (HGD.out wX hb) HNO.out
              unfold dagV at HRC
              go_wp2_with (first
                | (go_at_call 36; refine (HRC.out _ hb46).mono ?_; rintro e w7 ⟨rfl, hb7⟩; have hb47 := hb46.trans (hb7.mono hb46.size))
                | (go_at_call 29; refine (numA_any _ _).mono ?_; rintro e w9 ⟨rfl, rfl⟩)
                | (go_at_call 37; refine (HEQ.out _).mono ?_; rintro e w10 ⟨rfl, hb10⟩; have hb410 := hb47.trans (hb10.mono hb47.size); obtain ⟨r0, r1, r2, r4, r5, r6, r7, r8, r9⟩ := HALL.out w10 hb410)
                | (go_at_call 17; refine (HED.out _ hb410).mono ?_; rintro e w11 ⟨rfl, hb11⟩; have hb411 := hb410.trans (hb11.mono hb410.size))
                | (go_at_call 38; refine (HSP.out _ hb411).mono ?_; rintro e w12 ⟨rfl, hb12⟩))
              have HB12 : Hid (Below w4.heap.size w4 w12) := hb411.trans hb12
              go_roundw
              case rel => exact ⟨k + 1, by go_num, hkt, HB12.out⟩
              case measure => simp [intOf]; omega
            · have HM : Hid (MayG q.N q.L q.l) := HBM.out.1 rfl
              cases hev : evn r with
              | false =>
                have HEV := Lib.hid (fun wX => reven_no r hev wX)
                have HRC : Hid (∀ wX, Below w4.heap.size w4 wX → _) := fun wX hb => chain_odd q.N q.L af r od q.l wX (HGD.out wX hb) HM.out hev
                unfold dagV at HRC
                clear hev
                go_wp2_with (first
                  | (go_at_call 26; refine (HEV.out _).mono ?_; rintro e w8 ⟨rfl, h8⟩; obtain rfl : w6 = w8 := h8)
                  | (go_at_call 36; refine (HRC.out _ hb46).mono ?_; rintro e w7 ⟨rfl, hb7⟩; have hb47 := hb46.trans (hb7.mono hb46.size))
                  | (go_at_call 29; refine (numA_any _ _).mono ?_; rintro e w9 ⟨rfl, rfl⟩)
                  | (go_at_call 37; refine (HEQ.out _).mono ?_; rintro e w10 ⟨rfl, hb10⟩; have hb410 := hb47.trans (hb10.mono hb47.size); obtain ⟨r0, r1, r2, r4, r5, r6, r7, r8, r9⟩ := HALL.out w10 hb410)
                  | (go_at_call 17; refine (HED.out _ hb410).mono ?_; rintro e w11 ⟨rfl, hb11⟩; have hb411 := hb410.trans (hb11.mono hb410.size))
                  | (go_at_call 38; refine (HSP.out _ hb411).mono ?_; rintro e w12 ⟨rfl, hb12⟩))
                have HB12 : Hid (Below w4.heap.size w4 w12) := hb411.trans hb12
                go_roundw
                case rel => exact ⟨k + 1, by go_num, hkt, HB12.out⟩
                case measure => simp [intOf]; omega
              | true =>
                have HEV := Lib.hid (fun wX => reven_yes r hev wX)
                cases hch : chnB af r with
                | false =>
                  have HRC : Hid (∀ wX, Below w4.heap.size w4 wX → _) := fun wX hb => chain_form q.N q.L af r od q.l wX (HGD.out wX hb) HM.out hev hch
                  unfold dagV at HRC
                  rcases chnB_no hch with h1 | ⟨h1, h2⟩ | ⟨h1, h2, h3⟩
                  · have m1 : ¬ (0 ≤ af) := by omega
                    clear hev hch
                    go_wp2_with (first
                      | (go_at_call 26; refine (HEV.out _).mono ?_; rintro e w8 ⟨rfl, h8⟩; obtain rfl : w6 = w8 := h8)
                      | (go_at_call 36; refine (HRC.out _ hb46).mono ?_; rintro e w7 ⟨rfl, hb7⟩; have hb47 := hb46.trans (hb7.mono hb46.size))
                      | (go_at_call 29; refine (numA_any _ _).mono ?_; rintro e w9 ⟨rfl, rfl⟩)
                      | (go_at_call 37; refine (HEQ.out _).mono ?_; rintro e w10 ⟨rfl, hb10⟩; have hb410 := hb47.trans (hb10.mono hb47.size); obtain ⟨r0, r1, r2, r4, r5, r6, r7, r8, r9⟩ := HALL.out w10 hb410)
                      | (go_at_call 17; refine (HED.out _ hb410).mono ?_; rintro e w11 ⟨rfl, hb11⟩; have hb411 := hb410.trans (hb11.mono hb410.size))
                      | (go_at_call 38; refine (HSP.out _ hb411).mono ?_; rintro e w12 ⟨rfl, hb12⟩))
                    have HB12 : Hid (Below w4.heap.size w4 w12) := hb411.trans hb12
                    go_roundw
                    case rel => exact ⟨k + 1, by go_num, hkt, HB12.out⟩
                    case measure => simp [intOf]; omega
                  · have m1 : 0 ≤ af := h1
                    have m2 : (af % 2 == 0) = false := by simp [h2]
                    clear hev hch h2
                    go_wp2_with (first
                      | (go_at_call 26; refine (HEV.out _).mono ?_; rintro e w8 ⟨rfl, h8⟩; obtain rfl : w6 = w8 := h8)
                      | (go_at_call 36; refine (HRC.out _ hb46).mono ?_; rintro e w7 ⟨rfl, hb7⟩; have hb47 := hb46.trans (hb7.mono hb46.size))
                      | (go_at_call 29; refine (numA_any _ _).mono ?_; rintro e w9 ⟨rfl, rfl⟩)
                      | (go_at_call 37; refine (HEQ.out _).mono ?_; rintro e w10 ⟨rfl, hb10⟩; have hb410 := hb47.trans (hb10.mono hb47.size); obtain ⟨r0, r1, r2, r4, r5, r6, r7, r8, r9⟩ := HALL.out w10 hb410)
                      | (go_at_call 17; refine (HED.out _ hb410).mono ?_; rintro e w11 ⟨rfl, hb11⟩; have hb411 := hb410.trans (hb11.mono hb410.size))
                      | (go_at_call 38; refine (HSP.out _ hb411).mono ?_; rintro e w12 ⟨rfl, hb12⟩))
                    have HB12 : Hid (Below w4.heap.size w4 w12) := hb411.trans hb12
                    go_roundw
                    case rel => exact ⟨k + 1, by go_num, hkt, HB12.out⟩
                    case measure => simp [intOf]; omega
                  · have m1 : 0 ≤ af := h1
                    have m2 : (af % 2 == 0) = true := by simp [h2]
                    have m3 : ¬ af < r := by omega
                    clear hev hch h2
                    go_wp2_with (first
                      | (go_at_call 26; refine (HEV.out _).mono ?_; rintro e w8 ⟨rfl, h8⟩; obtain rfl : w6 = w8 := h8)
                      | (go_at_call 36; refine (HRC.out _ hb46).mono ?_; rintro e w7 ⟨rfl, hb7⟩; have hb47 := hb46.trans (hb7.mono hb46.size))
                      | (go_at_call 29; refine (numA_any _ _).mono ?_; rintro e w9 ⟨rfl, rfl⟩)
                      | (go_at_call 37; refine (HEQ.out _).mono ?_; rintro e w10 ⟨rfl, hb10⟩; have hb410 := hb47.trans (hb10.mono hb47.size); obtain ⟨r0, r1, r2, r4, r5, r6, r7, r8, r9⟩ := HALL.out w10 hb410)
                      | (go_at_call 17; refine (HED.out _ hb410).mono ?_; rintro e w11 ⟨rfl, hb11⟩; have hb411 := hb410.trans (hb11.mono hb410.size))
                      | (go_at_call 38; refine (HSP.out _ hb411).mono ?_; rintro e w12 ⟨rfl, hb12⟩))
                    have HB12 : Hid (Below w4.heap.size w4 w12) := hb411.trans hb12
                    go_roundw
                    case rel => exact ⟨k + 1, by go_num, hkt, HB12.out⟩
                    case measure => simp [intOf]; omega
                | true =>
                  obtain ⟨m1, h2, m3⟩ := chnB_yes hch
                  have m2 : (af % 2 == 0) = true := by simp [h2]
                  have HAN : Hid (∀ wX, Below w4.heap.size w4 wX → _) := fun wX hb => rAnchor_is q.N q.L r q.o q.l wX (HGI4.out wX hb) HM.out.n hev
                  unfold dagV at HAN
                  cases hac : ancC q.N q.l r with
                  | none =>
                    rw [ancN_none hac] at HAN
                    have HRC : Hid (∀ wX, Below w4.heap.size w4 wX → _) := fun wX hb => chain_none q.N q.L af r od q.l wX (HGD.out wX hb) HM.out hev hch hac
                    unfold dagV at HRC
                    clear hev hch hac h2
                    go_wp2_with (first
                      | (go_at_call 26; refine (HEV.out _).mono ?_; rintro e w8 ⟨rfl, h8⟩; obtain rfl : w6 = w8 := h8)
                      | (go_at_call 27; refine (HAN.out _ hb46).mono ?_; rintro e w5 ⟨rfl, hb5⟩; have hb45 := hb46.trans (hb5.mono hb46.size); obtain ⟨c0, c1, c2, c4, c5, c6, c7, c8, c9⟩ := HALL.out w5 hb45)
                      | (go_at_call 36; refine (HRC.out _ hb45).mono ?_; rintro e w7 ⟨rfl, hb7⟩; have hb47 := hb45.trans (hb7.mono hb45.size))
                      | (go_at_call 29; refine (numA_any _ _).mono ?_; rintro e w9 ⟨rfl, rfl⟩)
                      | (go_at_call 37; refine (HEQ.out _).mono ?_; rintro e w10 ⟨rfl, hb10⟩; have hb410 := hb47.trans (hb10.mono hb47.size); obtain ⟨r0, r1, r2, r4, r5, r6, r7, r8, r9⟩ := HALL.out w10 hb410)
                      | (go_at_call 17; refine (HED.out _ hb410).mono ?_; rintro e w11 ⟨rfl, hb11⟩; have hb411 := hb410.trans (hb11.mono hb410.size))
                      | (go_at_call 38; refine (HSP.out _ hb411).mono ?_; rintro e w12 ⟨rfl, hb12⟩))
                    have HB12 : Hid (Below w4.heap.size w4 w12) := hb411.trans hb12
                    go_roundw
                    case rel => exact ⟨k + 1, by go_num, hkt, HB12.out⟩
                    case measure => simp [intOf]; omega
                  | some x =>
                    have hxd := (ancC_pos HM.out hac).1
                    rw [ancN_some hac] at HAN
                    have HRC : Hid (∀ wX, Below w4.heap.size w4 wX → _) := fun wX hb => chain_ok q.N q.L af r od q.l x wX (HGD.out wX hb) HM.out hev hch hac
                    have HRR : Hid (∀ wX, Below w4.heap.size w4 wX → _) := fun wX hb => rChain_is q.N q.L af r q.o q.l x wX (HGI4.out wX hb) HM.out hev hch hac
                    have hvl : ((chainC q.N q.L q.l af r x).map CrtD.d).length ≤ 80 := by rw [List.length_map]; exact Nat.le_trans (chain_len hac) HSML.out
                    obtain ⟨v, hv⟩ : ∃ v, v = (chainC q.N q.L q.l af r x).map CrtD.d := ⟨_, rfl⟩
                    rw [← hv] at HRC HRR hvl
                    have HVL : Hid (v.length ≤ 1000000) := by show _ ≤ _; omega
                    obtain ⟨p, hp⟩ : ∃ p, p = x.d := ⟨_, rfl⟩
                    rw [← hp] at HAN hxd
                    have hpp : (0 : Int) < p := by omega
                    unfold dagV at HRC HRR
                    clear hev hch hac h2 hv hvl hp hxd HEQ HSP
                    go_upto_region 18 with (first
                      | (go_at_call 26; refine (HEV.out _).mono ?_; rintro e w8 ⟨rfl, h8⟩; obtain rfl : w6 = w8 := h8)
                      | (go_at_call 27; refine (HAN.out _ hb46).mono ?_; rintro e w5 ⟨rfl, hb5⟩; have hb45 := hb46.trans (hb5.mono hb46.size); obtain ⟨c0, c1, c2, c4, c5, c6, c7, c8, c9⟩ := HALL.out w5 hb45)
                      | (go_at_call 35; refine (HRR.out _ hb45).mono ?_; rintro e w7 ⟨⟨A5, n5, q5⟩, rfl, how7, hlw7, hb57⟩; have hb47 := hb45.trans (hb57.mono hb45.size); obtain ⟨s0, s1, s2, s4, s5, s6, s7, s8, s9⟩ := HALL.out w7 hb47)
                      | (go_at_call 36; refine (HRC.out _ hb47).mono ?_; rintro e w8 ⟨⟨A6, n6, q6⟩, rfl, how8, hlw8, hb78⟩))
                    have hb48 : Below w4.heap.size w4 w8 := hb47.trans (hb78.mono hb47.size)
                    have HO5 : Hid (w8.ownsRow w4.heap.size 3 1 (.slice A5 n5 q5) n5 (i64s v)) := own_more (own_below how7 hb78) hb45.size
                    have HO6 : Hid (w8.ownsRow w4.heap.size 3 1 (.slice A6 n6 q6) n6 (i64s v)) := own_more how8 hb47.size
                    have HL5 : Hid (v.length = n5) := hlw7
                    have HL6 : Hid (v.length = n6) := hlw8
                    have HEQ : Hid (∀ wX, Below w8.heap.size w8 wX → Calls Try.prog 37 #[.slice A6 n6 q6, .slice A5 n5 q5] wX fun e w' => e = .returned (.bool true) ∧ Below wX.heap.size wX w') := fun wX hb => eqA_is ⟨A6, n6, q6⟩ ⟨A5, n5, q5⟩ v wX (own_below HO6.out hb) HL6.out (own_below HO5.out hb) HL5.out HVL.out
                    have HSP : Hid (∀ wX, Below w8.heap.size w8 wX → Calls Try.prog 38 #[.slice A6 n6 q6] wX fun e w' => e = .returned (.tuple #[]) ∧ Below w4.heap.size wX w') := fun wX hb => spoilA_is (B := w4.heap.size) ⟨A6, n6, q6⟩ v wX (own_below HO6.out hb) (by have := HVL.out; have := HL6.out; show n6 ≤ _; omega) (Nat.le_refl _) (Nat.le_trans hb48.size hb.size)
                    clear how7 how8 hlw7 hlw8 HRR HRC e0 e1 e2 e4 e5 e6 e7 e8 e9 c0 c1 c2 c4 c5 c6 c7 c8 c9 s0 s1 s2 s4 s5 s6 s7 s8 s9
                    obtain ⟨e0, e1, e2, e4, e5, e6, e7, e8, e9⟩ := HALL.out w8 hb48
                    go_wp2_with (first
                      | (go_at_call 29; refine (numA_any _ _).mono ?_; rintro e w9 ⟨rfl, rfl⟩)
                      | (go_at_call 37; refine (HEQ.out _ (Below.refl _ _)).mono ?_; rintro e w10 ⟨rfl, hb10⟩; have hb410 := hb48.trans (hb10.mono hb48.size); obtain ⟨r0, r1, r2, r4, r5, r6, r7, r8, r9⟩ := HALL.out w10 hb410)
                      | (go_at_call 17; refine (HED.out _ hb410).mono ?_; rintro e w11 ⟨rfl, hb11⟩; have hb411 := hb410.trans (hb11.mono hb410.size); have hb811 := hb10.trans (hb11.mono hb10.size))
                      | (go_at_call 38; refine (HSP.out _ hb811).mono ?_; rintro e w12 ⟨rfl, hb12⟩))
                    have HB12 : Hid (Below w4.heap.size w4 w12) := hb411.trans hb12
                    go_roundw
                    case rel => exact ⟨k + 1, by go_num, hkt, HB12.out⟩
                    case measure => simp [intOf]; omega
          · obtain rfl : k = q.oj.n := by omega
            have j1 : ¬ ((q.oj.n : Int) < (q.oj.n : Int)) := by omega
            clear hkt
            go_wp2_with fail
            go_roundw
            case rel => exact ⟨t + 1, by go_num, hlt, HBK.out⟩
            case measure => simp [intOf]; omega
      · obtain rfl : t = q.oj.n := by omega
        have i1 : ¬ ((q.oj.n : Int) < (q.oj.n : Int)) := by omega
        have hbr := HB.out.trans ((HB14.out.trans (HBT.out.mono HB14.out.size)).mono (Nat.le_of_lt hgs))
        have hsr := HBT.out.size
        have hs4 := HB14.out.size
        clear hlt
        go_wp2_with (go_at_call 30; refine (wakesA_any _).mono ?_; rintro e w5 ⟨rfl, hb5⟩)
        go_ret
        exact ⟨rfl, hbr.trans (hb5.mono (by omega))⟩
  · go_wp2_with fail
    go_ret
    exact ⟨rfl, HB.out.trans (hb2.mono (Nat.le_of_lt hgs))⟩

end Go.Proofs.Ytejkeccoialogaa
