/-
  The walk of 'DagTrims'.
-/
import Derived.Test.YtfldfillcmamcaaYNew
import Derived.Test.YtfldfillcmamcaaYRMay
import Derived.Test.YtfldfillcmamcaaYRTrim
import Derived.Test.YtfldfillcmamcaaCalm
import Derived.Deep.RegionHeld3
namespace Go.Proofs.Ytfldfillcmamcaa
open Go.RowKit

/-- without its low rounds a graph may be, too -/
theorem may_above {N L low : Int} {l : List CrtD} (h : MayG N L l) (h0 : L ≤ low) (h1 : low ≤ 1099511627776) : MayG N low (aboveR l low) := by
  have hc := above_part h.asc low
  have hmem : ∀ x ∈ aboveR l low, x ∈ l ∧ low < x.r := fun x hx => by
    unfold aboveR at hx
    obtain ⟨a, b⟩ := List.mem_filter.1 hx
    exact ⟨a, by simpa using b⟩
  refine ⟨h.n, by have := h.l0; omega, h1, Nat.le_trans (by unfold aboveR; exact List.length_filter_le _ _) h.few, fun i x hx => ?_, fun x hx => ?_⟩
  · have hm := hmem x (List.mem_of_getElem? hx)
    rw [← hc, List.getElem?_drop] at hx
    have hr := h.row _ x hx
    refine ⟨hr.ok, hm.2, fun y hi hy => ?_, fun k y hk hy => ?_⟩
    · rw [← hc, List.getElem?_drop] at hy
      exact hr.asc y (by omega) (by rw [show cutF (isLow (low + 1)) l + i - 1 = cutF (isLow (low + 1)) l + (i - 1) by omega]; exact hy)
    · rw [← hc, List.getElem?_drop] at hy
      exact hr.dig _ y (by omega) hy
  · obtain ⟨hm, hl⟩ := hmem x hx
    have hp := h.par x hm
    unfold lacksC at hp ⊢
    by_cases hr : x.r = low + 1
    · rw [if_pos hr]
    · rw [if_neg (by omega)] at hp
      rw [if_neg hr]
      have e : inR (aboveR l low) (x.r - 1) = inR l (x.r - 1) := by
        unfold inR aboveR
        rw [List.filter_filter]
        refine List.filter_congr fun y _ => ?_
        by_cases hy : y.r = x.r - 1
        · simp [hy]; omega
        · simp [hy]
      rw [e]
      exact hp
theorem above_len (l : List CrtD) (R : Int) : (aboveR l R).length ≤ l.length := by unfold aboveR; exact List.length_filter_le _ _
theorem own_gin {l : List CrtD} {B : Nat} {w : World} {o : Ad} {ms : List (CrtD × CrtA)} (h : OwnY B w o ms) (hm : ms.map Prod.fst = l) (hf : ∀ x ∈ l, CrtFit x) (hl : l.length ≤ 1000000) : GIn w o l := by
  have h1 : ms.length = l.length := by rw [← hm, List.length_map]
  exact ⟨ms, h.in_ (fun x hx => hf x.1 (by rw [← hm]; exact List.mem_map_of_mem hx)) (by omega), hm⟩

set_option maxRecDepth 100000 in
set_option maxHeartbeats 8000000 in
theorem dagTrims_walk (q : AskD) (w : World) (h : AskIn w q) : Calls Try.prog 7 #[askV q] w fun e w' => e = .returned (.bool true) ∧ Below w.heap.size w w' := by
  obtain ⟨g, hg⟩ : ∃ g, g = w.heap.size := ⟨_, rfl⟩
  obtain ⟨w1, hw1⟩ : ∃ w1, w1 = w.alloc (.cells (askC q).toArray 28) := ⟨_, rfl⟩
  obtain ⟨hb1, hsz, hx0⟩ := boxes1 w _ _ hw1
  rw [← hg] at hb1 hsz hx0
  have HG : Hid (w.heap.size = g) := hg.symm
  have HW : Hid (w.alloc (.cells #[.int .i64 q.N, .int .i64 q.L, .slice q.o.A q.o.n q.o.c, .slice q.oc.A q.oc.n q.oc.c, .slice q.oi.A q.oi.n q.oi.c, .slice q.op.A q.op.n q.op.c] 28) = w1) := hw1.symm
  have HB := Lib.hid hb1
  have HX := Lib.hid hx0
  have HQ : Hid (∀ wX, Below g w wX → AskIn wX q) := fun wX hb => h.below (by rw [← hg]; exact hb)
  have HH := Lib.hid (heavy_is q w1 (h.below (by rw [← hg]; exact hb1)))
  have HD : Hid (∀ wX, Below w1.heap.size w1 wX → wX.cell? ⟨g, 0, none⟩ = some (.int .i64 q.N) ∧ wX.cell? ⟨g, 1, none⟩ = some (.int .i64 q.L) ∧ wX.cell? ⟨g, 2, none⟩ = some (.slice q.o.A q.o.n q.o.c) ∧ wX.cell? ⟨g, 3, none⟩ = some (.slice q.oc.A q.oc.n q.oc.c) ∧ wX.cell? ⟨g, 4, none⟩ = some (.slice q.oi.A q.oi.n q.oi.c) ∧ wX.cell? ⟨g, 5, none⟩ = some (.slice q.op.A q.op.n q.op.c)) := fun wX hb => ask_cells (HX.out.below hb HX.out.1)
  obtain ⟨a0, a1, a2, a3, a4, a5⟩ := ask_cells hx0
  have hgs := hx0.1
  clear hg hw1 hb1 hsz hx0 h
  rw [HG.out]
  unfold askV at HH ⊢
  go_enter Try.func7, Try.ntmps7
  go_upto_region 1 with fail
  rw [HG.out, HW.out]
  go_wp2_with (go_at_call 13; refine HH.out.mono ?_; rintro e w2 ⟨b, rfl, hlight, hb2⟩; obtain ⟨e0, e1, e2, e3, e4, e5⟩ := HD.out w2 hb2; cases b)
  · have hbw2 := HB.out.trans (hb2.mono (Nat.le_of_lt hgs))
    have HGI : Hid (∀ wX, Below w1.heap.size w1 wX → GIn wX q.o q.l) := fun wX hb => (HQ.out wX (HB.out.trans (hb.mono (Nat.le_of_lt hgs)))).d.gin (hlight (by simp)).d (by decide)
    have HGC : Hid (∀ wX, Below w1.heap.size w1 wX → GIn wX q.oc q.lc) := fun wX hb => (HQ.out wX (HB.out.trans (hb.mono (Nat.le_of_lt hgs)))).c.gin (hlight (by simp)).c (by decide)
    have hn40 : q.oi.n ≤ 40 := by have := (hlight (by simp)).i; have := (HQ.out _ hbw2).i.len; omega
    have hp40 : q.op.n ≤ 40 := by have := (hlight (by simp)).p; have := (HQ.out _ hbw2).p.len; omega
    have hc40 : q.oc.n ≤ 40 := by have := (hlight (by simp)).c.1; have := (HQ.out _ hbw2).c.row.len; omega
    have HLI : Hid (q.zs.length = q.oi.n) := (HQ.out _ hbw2).i.len
    have HLC : Hid (q.lc.length = q.oc.n) := (HGC.out _ hb2).len
    have HLL : Hid (q.l.length ≤ 1000000) := by have := (HGI.out _ hb2).len; have := (HGI.out _ hb2).few; show _ ≤ _; omega
    have HB12 := Lib.hid hb2
    clear hlight HH
    go_upto_region 4 with fail
    go_loopw [3] (fun i wr => ∃ t : Nat, i = .int .i64 t ∧ t ≤ q.oi.n ∧ Hid (Below w1.heap.size w1 wr)) (fun i _ => q.oi.n - (intOf i).toNat)
    case atStart => exact ⟨0, rfl, Nat.zero_le _, HB12.out⟩
    case round =>
      clear a0 a1 a2 a3 a4 a5 e0 e1 e2 e3 e4 e5 hb2 hbw2
      obtain ⟨t, rfl, ht, HBT⟩ := hrel
      obtain ⟨e0, e1, e2, e3, e4, e5⟩ := HD.out wr HBT.out
      by_cases hlt : t < q.oi.n
      · have i0 : (0 : Int) ≤ (t : Int) := by omega
        have i1 : (t : Int) < (q.oi.n : Int) := by omega
        obtain ⟨za, hza⟩ : ∃ z, q.zs[t]? = some z := ⟨_, List.getElem?_eq_getElem (by rw [HLI.out]; exact hlt)⟩
        have HSI := Lib.hid (HQ.out w1 HB.out).i
        obtain ⟨b, off, hA, hbl, hcell⟩ := HSI.out.rd.open_ (by rw [i64s_length, HLI.out]; omega)
        have hca := hcell t (.int .i64 za) (by simp [i64s, hza])
        have HALL : Hid (∀ wX, Below w1.heap.size w1 wX → wX.cell? ⟨g, 0, none⟩ = some (.int .i64 q.N) ∧ wX.cell? ⟨g, 1, none⟩ = some (.int .i64 q.L) ∧ wX.cell? ⟨g, 2, none⟩ = some (.slice q.o.A q.o.n q.o.c) ∧ wX.cell? ⟨g, 4, none⟩ = some (.slice (some ⟨b, off, none⟩) q.oi.n q.oi.c) ∧ wX.cell? ⟨b, off + t, none⟩ = some (.int .i64 za)) := fun wX hb => by
          obtain ⟨c0, c1, c2, -, c4, -⟩ := HD.out wX hb
          rw [hA] at c4
          exact ⟨c0, c1, c2, c4, (hb.cell (p := ⟨b, off + t, none⟩) hbl).trans hca⟩
        clear hza hcell hA HSI hca
        go_upto_region 7 with fail
        clear e0 e1 e2 e3 e4 e5
        obtain ⟨gw, hgw⟩ : ∃ gw, gw = wr.heap.size := ⟨_, rfl⟩
        obtain ⟨w5, hw5⟩ : ∃ w5, w5 = wr.alloc (.cells (dagC 0 0 noAd).toArray 24) := ⟨_, rfl⟩
        obtain ⟨hb5, -, hx5⟩ := boxes1 wr _ _ hw5
        rw [← hgw] at hx5
        have HGE : Hid (wr.heap.size = gw) := hgw.symm
        have HW5 : Hid (wr.alloc (.cells #[.int .i64 0, .int .i64 0, .slice none 0 0] 24) = w5) := hw5.symm
        rw [HGE.out, HW5.out]
        have hb15 : Below w1.heap.size w1 w5 := HBT.out.trans (hb5.mono HBT.out.size)
        have HX5 := Lib.hid hx5
        have HGW1 : Hid (w1.heap.size ≤ gw) := by have := HBT.out.size; show _ ≤ _; omega
        clear hgw hw5 hb5 hx5
        by_cases hm : MayG q.N q.L q.l
        · have HM : Hid (MayG q.N q.L q.l) := hm
          have hL0 := hm.l0
          clear hm
          by_cases hz1 : q.L ≤ za
          · by_cases hz2 : za ≤ 1099511627776
            · have HMY : Hid (∀ wX, Below w1.heap.size w1 wX → Calls Try.prog 20 #[.agg #[.int .i64 q.N, .int .i64 q.L, .slice q.o.A q.o.n q.o.c]] wX (Tells wX.heap.size wX (.bool true))) := fun wX hb => (rMay_is q.N q.L q.o q.l wX (HGI.out wX hb)).mono fun e w' ⟨b, he, hb', hbw⟩ => ⟨by rw [he, hb'.2 HM.out], hbw⟩
              have hz1' : q.L ≤ za := hz1
              have p0 : ∀ z : Calm w5, z.val.cell? ⟨g, 0, none⟩ = some (.int .i64 q.N) := fun z => (HALL.out z.val (hb15.trans (z.ok.mono hb15.size))).1
              have p1 : ∀ z : Calm w5, z.val.cell? ⟨g, 1, none⟩ = some (.int .i64 q.L) := fun z => (HALL.out z.val (hb15.trans (z.ok.mono hb15.size))).2.1
              have p2 : ∀ z : Calm w5, z.val.cell? ⟨g, 2, none⟩ = some (.slice q.o.A q.o.n q.o.c) := fun z => (HALL.out z.val (hb15.trans (z.ok.mono hb15.size))).2.2.1
              have p3 : ∀ z : Calm w5, z.val.cell? ⟨g, 4, none⟩ = some (.slice (some ⟨b, off, none⟩) q.oi.n q.oi.c) := fun z => (HALL.out z.val (hb15.trans (z.ok.mono hb15.size))).2.2.2.1
              have p4 : ∀ z : Calm w5, z.val.cell? ⟨b, off + t, none⟩ = some (.int .i64 za) := fun z => (HALL.out z.val (hb15.trans (z.ok.mono hb15.size))).2.2.2.2
              refine wp_region_calm (by kernel_rfl) (by kernel_rfl) ?_
              repeat (go_big_quiet_step ((go_at_call 20; exact calm_tells (HMY.out _ (hb15.trans ((Calm.ok _).mono hb15.size))))))
              refine wpQuiet_nil ?_
              rintro _ ⟨z, rfl⟩
              obtain ⟨w6, hwz⟩ : ∃ wz, wz = z.val := ⟨_, rfl⟩
              have hb56 : Below w5.heap.size w5 w6 := by rw [hwz]; exact z.ok
              rw [← hwz]
              have hb16 : Below w1.heap.size w1 w6 := hb15.trans (hb56.mono hb15.size)
              have HW6 : Hid (Box w6 gw (dagC 0 0 noAd)) := HX5.out.below hb56 HX5.out.1
              clear hwz z p0 p1 p2 p3 p4 HMY hb56
              go_upto_region 8 with fail
              have HRP : Hid (∀ wX, Below w1.heap.size w1 wX → Calls Try.prog 38 #[.agg #[.int .i64 q.N, .int .i64 q.L, .slice q.o.A q.o.n q.o.c], .int .i64 za] wX (rTrimOk q.N za q.l wX)) := fun wX hb => rTrim_is q.N q.L za q.o q.l wX (HGI.out wX hb)
              have HTR : Hid (∀ wX, Below w1.heap.size w1 wX → Calls Try.prog 39 #[.agg #[.int .i64 q.N, .int .i64 q.L, .slice q.o.A q.o.n q.o.c], .int .i64 za] wX (TrimOk q.N za q.l wX)) := fun wX hb => trim_ok q.N q.L za q.o q.l wX (HGI.out wX hb) HM.out hz1 hz2
              obtain ⟨la, hla⟩ : ∃ la, la = aboveR q.l za := ⟨_, rfl⟩
              have HRL : Hid (la.length ≤ 1000000) := by have := above_len q.l za; have := HLL.out; show _ ≤ _; rw [hla]; omega
              have HRF : Hid (∀ x ∈ la, CrtFit x) := fun x hx => (HGI.out _ hb16).fit (by rw [hla] at hx; unfold aboveR at hx; exact (List.mem_filter.1 hx).1)
              have HLA := Lib.hid hla
              unfold rTrimOk at HRP
              unfold TrimOk at HTR
              rw [← hla] at HRP HTR
              clear hla
              have KEEP : Hid (∀ X, Below w6.heap.size w6 X → X.cell? ⟨g, 0, none⟩ = some (.int .i64 q.N) ∧ X.cell? ⟨g, 1, none⟩ = some (.int .i64 q.L) ∧ X.cell? ⟨g, 2, none⟩ = some (.slice q.o.A q.o.n q.o.c) ∧ X.cell? ⟨g, 4, none⟩ = some (.slice (some ⟨b, off, none⟩) q.oi.n q.oi.c) ∧ X.cell? ⟨b, off + t, none⟩ = some (.int .i64 za)) := fun X hb => HALL.out X (hb16.trans (hb.mono hb16.size))
              obtain ⟨e0, e1, e2, e4, ec⟩ := KEEP.out w6 (Below.refl _ _)
              have hgw6 := HW6.out.1
              have HKF : Hid (∀ X v0 v1 v2, Below w6.heap.size w6 X → (((X.setCell ⟨gw, 0, none⟩ v0).setCell ⟨gw, 1, none⟩ v1).setCell ⟨gw, 2, none⟩ v2).cell? ⟨g, 0, none⟩ = some (.int .i64 q.N) ∧ (((X.setCell ⟨gw, 0, none⟩ v0).setCell ⟨gw, 1, none⟩ v1).setCell ⟨gw, 2, none⟩ v2).cell? ⟨g, 1, none⟩ = some (.int .i64 q.L) ∧ (((X.setCell ⟨gw, 0, none⟩ v0).setCell ⟨gw, 1, none⟩ v1).setCell ⟨gw, 2, none⟩ v2).cell? ⟨g, 2, none⟩ = some (.slice q.o.A q.o.n q.o.c) ∧ (((X.setCell ⟨gw, 0, none⟩ v0).setCell ⟨gw, 1, none⟩ v1).setCell ⟨gw, 2, none⟩ v2).cell? ⟨g, 4, none⟩ = some (.slice (some ⟨b, off, none⟩) q.oi.n q.oi.c) ∧ (((X.setCell ⟨gw, 0, none⟩ v0).setCell ⟨gw, 1, none⟩ v1).setCell ⟨gw, 2, none⟩ v2).cell? ⟨b, off + t, none⟩ = some (.int .i64 za)) := fun X v0 v1 v2 hb => HALL.out _ (((((hb16.trans (hb.mono hb16.size)).setCell (p := ⟨gw, 0, none⟩) HGW1.out v0).setCell (p := ⟨gw, 1, none⟩) HGW1.out v1).setCell (p := ⟨gw, 2, none⟩) HGW1.out v2))
              go_region_held3 (fun X => X.cell? ⟨g, 0, none⟩ = some (.int .i64 q.N) ∧ X.cell? ⟨g, 1, none⟩ = some (.int .i64 q.L) ∧ X.cell? ⟨g, 2, none⟩ = some (.slice q.o.A q.o.n q.o.c) ∧ X.cell? ⟨g, 4, none⟩ = some (.slice (some ⟨b, off, none⟩) q.oi.n q.oi.c) ∧ X.cell? ⟨b, off + t, none⟩ = some (.int .i64 za))
                ((first
                  | (refine KEEP.out _ ?_; first
                    | with_reducible exact (Below.refl _ _)
                    | with_reducible exact (Below.refl _ _).drew
                    | with_reducible exact hbk7)
                  | exact HKF.out _ _ _ _ hbk7))
                (first
                  | (go_at_call 38; refine (HRP.out _ ?_).mono ?_
                     · exact hb16.trans ((Below.refl _ _).drew.mono hb16.size)
                     rintro e w7 ⟨oW, msW, rfl, hoW, hmW, hb7⟩; dsimp only [dagV]
                     have hbk7 : Below w6.heap.size w6 w7 := (Below.refl _ _).drew.trans (hb7.mono (by simp))
                     have hbx : Box w7 gw (dagC 0 0 noAd) := HW6.out.below hbk7 hgw6
                     obtain ⟨b0, b1, b2⟩ := dag_cells hbx
                     have f0 := (hbx.2 0 _ rfl).2
                     have f1 := (hbx.2 1 _ rfl).2
                     have f2 := (hbx.2 2 _ rfl).2))
              clear e0 e1 e2 e4 ec KEEP HKF b0 b1 b2 f0 f1 f2
              obtain ⟨wb, hwb⟩ : ∃ wb, wb = (((w7.setCell ⟨gw, 0, none⟩ (.int .i64 q.N)).setCell ⟨gw, 1, none⟩ (.int .i64 za)).setCell ⟨gw, 2, none⟩ (.slice oW.A oW.n oW.c)) := ⟨_, rfl⟩
              have HWB : Hid ((((w7.setCell ⟨gw, 0, none⟩ (.int .i64 q.N)).setCell ⟨gw, 1, none⟩ (.int .i64 za)).setCell ⟨gw, 2, none⟩ (.slice oW.A oW.n oW.c)) = wb) := hwb.symm
              rw [HWB.out]
              have hb1b : Below w1.heap.size w1 wb := by rw [hwb]; exact (((hb16.trans (hbk7.mono hb16.size)).setCell (p := ⟨gw, 0, none⟩) HGW1.out _).setCell (p := ⟨gw, 1, none⟩) HGW1.out _).setCell (p := ⟨gw, 2, none⟩) HGW1.out _
              have htb : Touch (fun k => k = gw) w7 wb := by rw [hwb]; exact Touch.set (F := fun k => k = gw) (Touch.set (F := fun k => k = gw) (Touch.set (F := fun k => k = gw) (Touch.refl _ _) (.inl rfl) _) (.inl rfl) _) (.inl rfl) _
              have HWBX : Hid (Box wb gw (dagC q.N za oW)) := by show Box _ _ _; rw [hwb]; exact ((hbx.set (j := 0) (show 0 < 3 by decide)).set (j := 1) (show 1 < 3 by decide)).set (j := 2) (show 2 < 3 by decide)
              have HGWB : Hid (GIn wb oW la) := own_gin (hoW.touch htb (fun k hk => by have e : k = gw := hk; simp; omega)) hmW HRF.out HRL.out
              clear hwb htb hbx hoW hmW hb7 hbk7 hgw6 hb16 HW6
              obtain ⟨w6', hw6'⟩ : ∃ w6', w6' = w7 := ⟨_, rfl⟩
              clear w6' hw6'
              go_upto_region 9 with fail
              have KEEP : Hid (∀ X, Below wb.heap.size wb X → X.cell? ⟨g, 0, none⟩ = some (.int .i64 q.N) ∧ X.cell? ⟨g, 1, none⟩ = some (.int .i64 q.L) ∧ X.cell? ⟨g, 2, none⟩ = some (.slice q.o.A q.o.n q.o.c) ∧ X.cell? ⟨g, 4, none⟩ = some (.slice (some ⟨b, off, none⟩) q.oi.n q.oi.c) ∧ X.cell? ⟨b, off + t, none⟩ = some (.int .i64 za)) := fun X hb => HALL.out X (hb1b.trans (hb.mono hb1b.size))
              obtain ⟨e0, e1, e2, e4, ec⟩ := KEEP.out wb (Below.refl _ _)
              go_region_held3 (fun X => X.cell? ⟨g, 0, none⟩ = some (.int .i64 q.N) ∧ X.cell? ⟨g, 1, none⟩ = some (.int .i64 q.L) ∧ X.cell? ⟨g, 2, none⟩ = some (.slice q.o.A q.o.n q.o.c) ∧ X.cell? ⟨g, 4, none⟩ = some (.slice (some ⟨b, off, none⟩) q.oi.n q.oi.c) ∧ X.cell? ⟨b, off + t, none⟩ = some (.int .i64 za))
                ((refine KEEP.out _ ?_; first
                  | with_reducible exact (Below.refl _ _)
                  | with_reducible exact (Below.refl _ _).drew
                  | with_reducible exact ((Below.refl _ _).alloc (Nat.le_refl _) _)
                  | with_reducible exact ((Below.refl _ _).alloc (Nat.le_refl _) _).drew
                  | with_reducible exact hbk8
                  | with_reducible exact (hbk8.alloc hbk8.size _)
                  | exact hbk9 _ _ _))
                (first
                  | (go_at_call 39; refine (HTR.out _ ?_).mono ?_
                     · exact hb1b.trans ((Below.refl _ _).drew.mono hb1b.size)
                     rintro e w8 ⟨⟨AX, nX, cX⟩, msX, rfl, ho8, hm8, hb8⟩; dsimp only [dagV, noAd]
                     have hbk8 : Below wb.heap.size wb w8 := (Below.refl _ _).drew.trans (hb8.mono (by simp))
              )
                  | (go_at_call 39; refine (HTR.out _ ?_).mono ?_
                     · exact hb1b.trans (((Below.refl _ _).alloc (Nat.le_refl _) _).drew.mono hb1b.size)
                     rintro e w8 ⟨⟨AX, nX, cX⟩, msX, rfl, ho8, hm8, hb8⟩; dsimp only [dagV, noAd]
                     have hbk8 : Below wb.heap.size wb w8 := ((Below.refl _ _).alloc (Nat.le_refl _) _).drew.trans (hb8.mono (by simp))
                     have hbk9 : ∀ v0 v1 v2, Below wb.heap.size wb (((w8.setCell ⟨wb.heap.size, 0, none⟩ v0).setCell ⟨wb.heap.size, 1, none⟩ v1).setCell ⟨wb.heap.size, 2, none⟩ v2) := fun v0 v1 v2 => ((hbk8.setCell (p := ⟨wb.heap.size, 0, none⟩) (Nat.le_refl _) v0).setCell (p := ⟨wb.heap.size, 1, none⟩) (Nat.le_refl _) v1).setCell (p := ⟨wb.heap.size, 2, none⟩) (Nat.le_refl _) v2
                     have hbx : Box w8 wb.heap.size (dagC 0 0 noAd) := ((box_new wb (dagC 0 0 noAd) 24).below (Below.refl (wb.heap.size + 1) _).drew (Nat.lt_succ_self _)).below hb8 (by simp)
                     obtain ⟨b0, b1, b2⟩ := dag_cells hbx
                     have f0 := (hbx.2 0 _ rfl).2
                     have f1 := (hbx.2 1 _ rfl).2
                     have f2 := (hbx.2 2 _ rfl).2))
              all_goals clear e0 e1 e2 e4 ec KEEP
              all_goals first
                | (obtain ⟨w10, hw10⟩ : ∃ w10, w10 = w8.alloc (.cells (dagC q.N za ⟨AX, nX, cX⟩).toArray 24) := ⟨_, rfl⟩
                   have HWT : Hid (w8.alloc (.cells #[.int .i64 q.N, .int .i64 za, .slice AX nX cX] 24) = w10) := hw10.symm
                   rw [HWT.out]
                   have hb810 : Below w8.heap.size w8 w10 := by rw [hw10]; exact (Below.refl _ _).alloc (Nat.le_refl _) _
                   have hbb10 : Below wb.heap.size wb w10 := hbk8.trans (hb810.mono hbk8.size)
                   have hxb : Box w10 w8.heap.size (dagC q.N za ⟨AX, nX, cX⟩) := by rw [hw10]; exact box_new _ _ _
                   have HGXC : Hid (∀ wX, Below w10.heap.size w10 wX → wX.cell? ⟨w8.heap.size, 0, none⟩ = some (.int .i64 q.N) ∧ wX.cell? ⟨w8.heap.size, 1, none⟩ = some (.int .i64 za) ∧ wX.cell? ⟨w8.heap.size, 2, none⟩ = some (.slice AX nX cX)) := fun wX hb => dag_cells (hxb.below hb hxb.1)
                   obtain ⟨x0, x1, x2⟩ := HGXC.out w10 (Below.refl _ _)
                   have HGX10 : Hid (GIn w10 ⟨AX, nX, cX⟩ la) := own_gin (ho8.below hb810) hm8 HRF.out HRL.out
                   clear hw10 hxb hb810 hb8 ho8 hm8)
                | (obtain ⟨w10, hw10⟩ : ∃ w10, w10 = (((w8.setCell ⟨wb.heap.size, 0, none⟩ (.int .i64 q.N)).setCell ⟨wb.heap.size, 1, none⟩ (.int .i64 za)).setCell ⟨wb.heap.size, 2, none⟩ (.slice AX nX cX)) := ⟨_, rfl⟩
                   have HWT : Hid ((((w8.setCell ⟨wb.heap.size, 0, none⟩ (.int .i64 q.N)).setCell ⟨wb.heap.size, 1, none⟩ (.int .i64 za)).setCell ⟨wb.heap.size, 2, none⟩ (.slice AX nX cX)) = w10) := hw10.symm
                   rw [HWT.out]
                   have hbb10 : Below wb.heap.size wb w10 := by rw [hw10]; exact hbk9 _ _ _
                   have ht8 : Touch (fun k => k = wb.heap.size) w8 w10 := by rw [hw10]; exact Touch.set (F := fun k => k = wb.heap.size) (Touch.set (F := fun k => k = wb.heap.size) (Touch.set (F := fun k => k = wb.heap.size) (Touch.refl _ _) (.inl rfl) _) (.inl rfl) _) (.inl rfl) _
                   have hxb : Box w10 wb.heap.size (dagC q.N za ⟨AX, nX, cX⟩) := by rw [hw10]; exact ((hbx.set (j := 0) (show 0 < 3 by decide)).set (j := 1) (show 1 < 3 by decide)).set (j := 2) (show 2 < 3 by decide)
                   have HGXC : Hid (∀ wX, Below w10.heap.size w10 wX → wX.cell? ⟨wb.heap.size, 0, none⟩ = some (.int .i64 q.N) ∧ wX.cell? ⟨wb.heap.size, 1, none⟩ = some (.int .i64 za) ∧ wX.cell? ⟨wb.heap.size, 2, none⟩ = some (.slice AX nX cX)) := fun wX hb => dag_cells (hxb.below hb hxb.1)
                   obtain ⟨x0, x1, x2⟩ := HGXC.out w10 (Below.refl _ _)
                   have HGX10 : Hid (GIn w10 ⟨AX, nX, cX⟩ la) := own_gin (ho8.touch ht8 (fun k hk => by have e : k = wb.heap.size := hk; simp; omega)) hm8 HRF.out HRL.out
                   clear hw10 hxb hb8 hbk9 hbx b0 b1 b2 f0 f1 f2 ht8 ho8 hm8)
              all_goals
                have hb110 : Below w1.heap.size w1 w10 := hb1b.trans (hbb10.mono hb1b.size)
                have HGW10 : Hid (GIn w10 oW la) := HGWB.out.below hbb10
                obtain ⟨y0, y1, y2⟩ := dag_cells (HWBX.out.below hbb10 HWBX.out.1)
                have HEQ : Hid (Calls Try.prog 18 #[.agg #[.int .i64 q.N, .int .i64 za, .slice AX nX cX], .agg #[.int .i64 q.N, .int .i64 za, .slice oW.A oW.n oW.c]] w10 fun e w' => e = .returned (.bool true) ∧ Below w10.heap.size w10 w') := by
                  have := eqDag_is q.N za ⟨AX, nX, cX⟩ la q.N za oW la w10 HGX10.out HGW10.out
                  rwa [decide_eq_true (And.intro rfl (And.intro rfl rfl))] at this
                have HCK : Hid (∀ wX, Below w10.heap.size w10 wX → Calls Try.prog 16 #[.agg #[.int .i64 q.N, .int .i64 za, .slice AX nX cX]] wX fun e w' => e = .returned (.int .i64 0) ∧ Below wX.heap.size wX w') := fun wX hb => check_ok (N := q.N) (L := za) (o := ⟨AX, nX, cX⟩) (l := la) (HGX10.out.below hb) (by have h := may_above HM.out hz1 hz2; rw [← HLA.out] at h; exact h)
                go_wp2_with (first
                  | (go_at_call 18; refine HEQ.out.mono ?_; rintro e w12 ⟨rfl, hb12⟩; obtain ⟨z0, z1, z2⟩ := HGXC.out w12 hb12)
                  | (go_at_call 16; refine (HCK.out _ hb12).mono ?_; rintro e w13 ⟨rfl, hb13⟩)
                  | (go_at_call 15; refine (numY_any _ _).mono ?_; rintro e w11 ⟨rfl, rfl⟩))
                have HB14 : Hid (Below w1.heap.size w1 w13) := (hb110.trans (hb12.mono hb110.size)).trans (hb13.mono (Nat.le_trans hb110.size hb12.size))
                go_roundw
                case rel => exact ⟨t + 1, by go_num, hlt, HB14.out⟩
                case measure => simp [intOf]; omega
            · have HZL : Hid (za < q.L ∨ 1099511627776 < za) := .inr (by omega)
              have HMY : Hid (∀ wX, Below w1.heap.size w1 wX → Calls Try.prog 20 #[.agg #[.int .i64 q.N, .int .i64 q.L, .slice q.o.A q.o.n q.o.c]] wX (Tells wX.heap.size wX (.bool true))) := fun wX hb => (rMay_is q.N q.L q.o q.l wX (HGI.out wX hb)).mono fun e w' ⟨b, he, hb', hbw⟩ => ⟨by rw [he, hb'.2 HM.out], hbw⟩
              have HTR : Hid (∀ wX, Below w1.heap.size w1 wX → Calls Try.prog 39 #[.agg #[.int .i64 q.N, .int .i64 q.L, .slice q.o.A q.o.n q.o.c], .int .i64 za] wX (AddErr 1 wX)) := fun wX hb => trim_form q.N q.L za q.o q.l wX (HGI.out wX hb) HM.out HZL.out
              have p0 : ∀ z : Calm w5, z.val.cell? ⟨g, 0, none⟩ = some (.int .i64 q.N) := fun z => (HALL.out z.val (hb15.trans (z.ok.mono hb15.size))).1
              have p1 : ∀ z : Calm w5, z.val.cell? ⟨g, 1, none⟩ = some (.int .i64 q.L) := fun z => (HALL.out z.val (hb15.trans (z.ok.mono hb15.size))).2.1
              have p2 : ∀ z : Calm w5, z.val.cell? ⟨g, 2, none⟩ = some (.slice q.o.A q.o.n q.o.c) := fun z => (HALL.out z.val (hb15.trans (z.ok.mono hb15.size))).2.2.1
              have p3 : ∀ z : Calm w5, z.val.cell? ⟨g, 4, none⟩ = some (.slice (some ⟨b, off, none⟩) q.oi.n q.oi.c) := fun z => (HALL.out z.val (hb15.trans (z.ok.mono hb15.size))).2.2.2.1
              have p4 : ∀ z : Calm w5, z.val.cell? ⟨b, off + t, none⟩ = some (.int .i64 za) := fun z => (HALL.out z.val (hb15.trans (z.ok.mono hb15.size))).2.2.2.2
              refine wp_region_calm (by kernel_rfl) (by kernel_rfl) ?_
              repeat (go_big_quiet_step ((go_at_call 20; exact calm_tells (HMY.out _ (hb15.trans ((Calm.ok _).mono hb15.size))))))
              refine wpQuiet_nil ?_
              rintro _ ⟨z, rfl⟩
              obtain ⟨w6, hwz⟩ : ∃ wz, wz = z.val := ⟨_, rfl⟩
              have hb56 : Below w5.heap.size w5 w6 := by rw [hwz]; exact z.ok
              rw [← hwz]
              have hb16 : Below w1.heap.size w1 w6 := hb15.trans (hb56.mono hb15.size)
              have HW6 : Hid (Box w6 gw (dagC 0 0 noAd)) := HX5.out.below hb56 HX5.out.1
              clear hwz z p0 p1 p2 p3 p4 HMY hb56
              go_upto_region 9 with fail
              have KEEP : Hid (∀ X, Below w6.heap.size w6 X → X.cell? ⟨g, 0, none⟩ = some (.int .i64 q.N) ∧ X.cell? ⟨g, 1, none⟩ = some (.int .i64 q.L) ∧ X.cell? ⟨g, 2, none⟩ = some (.slice q.o.A q.o.n q.o.c) ∧ X.cell? ⟨g, 4, none⟩ = some (.slice (some ⟨b, off, none⟩) q.oi.n q.oi.c) ∧ X.cell? ⟨b, off + t, none⟩ = some (.int .i64 za)) := fun X hb => HALL.out X (hb16.trans (hb.mono hb16.size))
              obtain ⟨e0, e1, e2, e4, ec⟩ := KEEP.out w6 (Below.refl _ _)
              go_region_held3 (fun X => X.cell? ⟨g, 0, none⟩ = some (.int .i64 q.N) ∧ X.cell? ⟨g, 1, none⟩ = some (.int .i64 q.L) ∧ X.cell? ⟨g, 2, none⟩ = some (.slice q.o.A q.o.n q.o.c) ∧ X.cell? ⟨g, 4, none⟩ = some (.slice (some ⟨b, off, none⟩) q.oi.n q.oi.c) ∧ X.cell? ⟨b, off + t, none⟩ = some (.int .i64 za))
                ((refine KEEP.out _ ?_; first
                  | with_reducible exact (Below.refl _ _)
                  | with_reducible exact (Below.refl _ _).drew
                  | with_reducible exact ((Below.refl _ _).alloc (Nat.le_refl _) _)
                  | with_reducible exact ((Below.refl _ _).alloc (Nat.le_refl _) _).drew
                  | with_reducible exact hbk8
                  | with_reducible exact (hbk8.alloc hbk8.size _)
                  | exact hbk9 _ _ _))
                (first
                  | (go_at_call 39; refine (HTR.out _ ?_).mono ?_
                     · exact hb16.trans ((Below.refl _ _).drew.mono hb16.size)
                     rintro e w8 ⟨rfl, hb8⟩; dsimp only [dagV, noAd]
                     have hbk8 : Below w6.heap.size w6 w8 := (Below.refl _ _).drew.trans (hb8.mono (by simp))
              )
                  | (go_at_call 39; refine (HTR.out _ ?_).mono ?_
                     · exact hb16.trans (((Below.refl _ _).alloc (Nat.le_refl _) _).drew.mono hb16.size)
                     rintro e w8 ⟨rfl, hb8⟩; dsimp only [dagV, noAd]
                     have hbk8 : Below w6.heap.size w6 w8 := ((Below.refl _ _).alloc (Nat.le_refl _) _).drew.trans (hb8.mono (by simp))
                     have hbk9 : ∀ v0 v1 v2, Below w6.heap.size w6 (((w8.setCell ⟨w6.heap.size, 0, none⟩ v0).setCell ⟨w6.heap.size, 1, none⟩ v1).setCell ⟨w6.heap.size, 2, none⟩ v2) := fun v0 v1 v2 => ((hbk8.setCell (p := ⟨w6.heap.size, 0, none⟩) (Nat.le_refl _) v0).setCell (p := ⟨w6.heap.size, 1, none⟩) (Nat.le_refl _) v1).setCell (p := ⟨w6.heap.size, 2, none⟩) (Nat.le_refl _) v2
                     have hbx : Box w8 w6.heap.size (dagC 0 0 noAd) := ((box_new w6 (dagC 0 0 noAd) 24).below (Below.refl (w6.heap.size + 1) _).drew (Nat.lt_succ_self _)).below hb8 (by simp)
                     obtain ⟨b0, b1, b2⟩ := dag_cells hbx
                     have f0 := (hbx.2 0 _ rfl).2
                     have f1 := (hbx.2 1 _ rfl).2
                     have f2 := (hbx.2 2 _ rfl).2))
              all_goals clear e0 e1 e2 e4 ec KEEP
              all_goals first
                | (obtain ⟨w10, hw10⟩ : ∃ w10, w10 = w8.alloc (.cells (dagC 0 0 noAd).toArray 24) := ⟨_, rfl⟩
                   have HWT : Hid (w8.alloc (.cells #[.int .i64 0, .int .i64 0, .slice none 0 0] 24) = w10) := hw10.symm
                   rw [HWT.out]
                   have hb810 : Below w8.heap.size w8 w10 := by rw [hw10]; exact (Below.refl _ _).alloc (Nat.le_refl _) _
                   have hb610 : Below w6.heap.size w6 w10 := hbk8.trans (hb810.mono hbk8.size)
                   have hxb : Box w10 w8.heap.size (dagC 0 0 noAd) := by rw [hw10]; exact box_new _ _ _
                   have HGXC : Hid (∀ wX, Below w10.heap.size w10 wX → wX.cell? ⟨w8.heap.size, 0, none⟩ = some (.int .i64 0) ∧ wX.cell? ⟨w8.heap.size, 1, none⟩ = some (.int .i64 0) ∧ wX.cell? ⟨w8.heap.size, 2, none⟩ = some (.slice none 0 0)) := fun wX hb => dag_cells (hxb.below hb hxb.1)
                   obtain ⟨x0, x1, x2⟩ := HGXC.out w10 (Below.refl _ _)
                   have HGX10 : Hid (GIn w10 noAd []) := gIn_none _
                   clear hw10 hxb hb810 hb8)
                | (obtain ⟨w10, hw10⟩ : ∃ w10, w10 = (((w8.setCell ⟨w6.heap.size, 0, none⟩ (.int .i64 0)).setCell ⟨w6.heap.size, 1, none⟩ (.int .i64 0)).setCell ⟨w6.heap.size, 2, none⟩ (.slice none 0 0)) := ⟨_, rfl⟩
                   have HWT : Hid ((((w8.setCell ⟨w6.heap.size, 0, none⟩ (.int .i64 0)).setCell ⟨w6.heap.size, 1, none⟩ (.int .i64 0)).setCell ⟨w6.heap.size, 2, none⟩ (.slice none 0 0)) = w10) := hw10.symm
                   rw [HWT.out]
                   have hb610 : Below w6.heap.size w6 w10 := by rw [hw10]; exact hbk9 _ _ _
                   have ht8 : Touch (fun k => k = w6.heap.size) w8 w10 := by rw [hw10]; exact Touch.set (F := fun k => k = w6.heap.size) (Touch.set (F := fun k => k = w6.heap.size) (Touch.set (F := fun k => k = w6.heap.size) (Touch.refl _ _) (.inl rfl) _) (.inl rfl) _) (.inl rfl) _
                   have hxb : Box w10 w6.heap.size (dagC 0 0 noAd) := by rw [hw10]; exact ((hbx.set (j := 0) (show 0 < 3 by decide)).set (j := 1) (show 1 < 3 by decide)).set (j := 2) (show 2 < 3 by decide)
                   have HGXC : Hid (∀ wX, Below w10.heap.size w10 wX → wX.cell? ⟨w6.heap.size, 0, none⟩ = some (.int .i64 0) ∧ wX.cell? ⟨w6.heap.size, 1, none⟩ = some (.int .i64 0) ∧ wX.cell? ⟨w6.heap.size, 2, none⟩ = some (.slice none 0 0)) := fun wX hb => dag_cells (hxb.below hb hxb.1)
                   obtain ⟨x0, x1, x2⟩ := HGXC.out w10 (Below.refl _ _)
                   have HGX10 : Hid (GIn w10 noAd []) := gIn_none _
                   clear hw10 hxb hb8 hbk9 hbx b0 b1 b2 f0 f1 f2 ht8)
              all_goals
                have hb110 : Below w1.heap.size w1 w10 := hb16.trans (hb610.mono hb16.size)
                have HGW10 : Hid (GIn w10 noAd []) := gIn_none _
                obtain ⟨y0, y1, y2⟩ := dag_cells (HW6.out.below hb610 HW6.out.1)
                have HEQ : Hid (Calls Try.prog 18 #[.agg #[.int .i64 0, .int .i64 0, .slice none 0 0], .agg #[.int .i64 0, .int .i64 0, .slice none 0 0]] w10 fun e w' => e = .returned (.bool true) ∧ Below w10.heap.size w10 w') := by
                  have := eqDag_is 0 0 noAd [] 0 0 noAd [] w10 HGX10.out HGW10.out
                  rwa [decide_eq_true (And.intro rfl (And.intro rfl rfl))] at this
                go_wp2_with (first
                  | (go_at_call 18; refine HEQ.out.mono ?_; rintro e w12 ⟨rfl, hb12⟩)
                  | (go_at_call 15; refine (numY_any _ _).mono ?_; rintro e w11 ⟨rfl, rfl⟩))
                have HB14 : Hid (Below w1.heap.size w1 w12) := hb110.trans (hb12.mono hb110.size)
                go_roundw
                case rel => exact ⟨t + 1, by go_num, hlt, HB14.out⟩
                case measure => simp [intOf]; omega
          · have HZL : Hid (za < q.L ∨ 1099511627776 < za) := .inl (by omega)
            have HMY : Hid (∀ wX, Below w1.heap.size w1 wX → Calls Try.prog 20 #[.agg #[.int .i64 q.N, .int .i64 q.L, .slice q.o.A q.o.n q.o.c]] wX (Tells wX.heap.size wX (.bool true))) := fun wX hb => (rMay_is q.N q.L q.o q.l wX (HGI.out wX hb)).mono fun e w' ⟨b, he, hb', hbw⟩ => ⟨by rw [he, hb'.2 HM.out], hbw⟩
            have HTR : Hid (∀ wX, Below w1.heap.size w1 wX → Calls Try.prog 39 #[.agg #[.int .i64 q.N, .int .i64 q.L, .slice q.o.A q.o.n q.o.c], .int .i64 za] wX (AddErr 1 wX)) := fun wX hb => trim_form q.N q.L za q.o q.l wX (HGI.out wX hb) HM.out HZL.out
            have p0 : ∀ z : Calm w5, z.val.cell? ⟨g, 0, none⟩ = some (.int .i64 q.N) := fun z => (HALL.out z.val (hb15.trans (z.ok.mono hb15.size))).1
            have p1 : ∀ z : Calm w5, z.val.cell? ⟨g, 1, none⟩ = some (.int .i64 q.L) := fun z => (HALL.out z.val (hb15.trans (z.ok.mono hb15.size))).2.1
            have p2 : ∀ z : Calm w5, z.val.cell? ⟨g, 2, none⟩ = some (.slice q.o.A q.o.n q.o.c) := fun z => (HALL.out z.val (hb15.trans (z.ok.mono hb15.size))).2.2.1
            have p3 : ∀ z : Calm w5, z.val.cell? ⟨g, 4, none⟩ = some (.slice (some ⟨b, off, none⟩) q.oi.n q.oi.c) := fun z => (HALL.out z.val (hb15.trans (z.ok.mono hb15.size))).2.2.2.1
            have p4 : ∀ z : Calm w5, z.val.cell? ⟨b, off + t, none⟩ = some (.int .i64 za) := fun z => (HALL.out z.val (hb15.trans (z.ok.mono hb15.size))).2.2.2.2
            refine wp_region_calm (by kernel_rfl) (by kernel_rfl) ?_
            repeat (go_big_quiet_step ((go_at_call 20; exact calm_tells (HMY.out _ (hb15.trans ((Calm.ok _).mono hb15.size))))))
            refine wpQuiet_nil ?_
            rintro _ ⟨z, rfl⟩
            obtain ⟨w6, hwz⟩ : ∃ wz, wz = z.val := ⟨_, rfl⟩
            have hb56 : Below w5.heap.size w5 w6 := by rw [hwz]; exact z.ok
            rw [← hwz]
            have hb16 : Below w1.heap.size w1 w6 := hb15.trans (hb56.mono hb15.size)
            have HW6 : Hid (Box w6 gw (dagC 0 0 noAd)) := HX5.out.below hb56 HX5.out.1
            clear hwz z p0 p1 p2 p3 p4 HMY hb56
            go_upto_region 9 with fail
            have KEEP : Hid (∀ X, Below w6.heap.size w6 X → X.cell? ⟨g, 0, none⟩ = some (.int .i64 q.N) ∧ X.cell? ⟨g, 1, none⟩ = some (.int .i64 q.L) ∧ X.cell? ⟨g, 2, none⟩ = some (.slice q.o.A q.o.n q.o.c) ∧ X.cell? ⟨g, 4, none⟩ = some (.slice (some ⟨b, off, none⟩) q.oi.n q.oi.c) ∧ X.cell? ⟨b, off + t, none⟩ = some (.int .i64 za)) := fun X hb => HALL.out X (hb16.trans (hb.mono hb16.size))
            obtain ⟨e0, e1, e2, e4, ec⟩ := KEEP.out w6 (Below.refl _ _)
            go_region_held3 (fun X => X.cell? ⟨g, 0, none⟩ = some (.int .i64 q.N) ∧ X.cell? ⟨g, 1, none⟩ = some (.int .i64 q.L) ∧ X.cell? ⟨g, 2, none⟩ = some (.slice q.o.A q.o.n q.o.c) ∧ X.cell? ⟨g, 4, none⟩ = some (.slice (some ⟨b, off, none⟩) q.oi.n q.oi.c) ∧ X.cell? ⟨b, off + t, none⟩ = some (.int .i64 za))
              ((refine KEEP.out _ ?_; first
                | with_reducible exact (Below.refl _ _)
                | with_reducible exact (Below.refl _ _).drew
                | with_reducible exact ((Below.refl _ _).alloc (Nat.le_refl _) _)
                | with_reducible exact ((Below.refl _ _).alloc (Nat.le_refl _) _).drew
                | with_reducible exact hbk8
                | with_reducible exact (hbk8.alloc hbk8.size _)
                | exact hbk9 _ _ _))
              (first
                | (go_at_call 39; refine (HTR.out _ ?_).mono ?_
                   · exact hb16.trans ((Below.refl _ _).drew.mono hb16.size)
                   rintro e w8 ⟨rfl, hb8⟩; dsimp only [dagV, noAd]
                   have hbk8 : Below w6.heap.size w6 w8 := (Below.refl _ _).drew.trans (hb8.mono (by simp))
            )
                | (go_at_call 39; refine (HTR.out _ ?_).mono ?_
                   · exact hb16.trans (((Below.refl _ _).alloc (Nat.le_refl _) _).drew.mono hb16.size)
                   rintro e w8 ⟨rfl, hb8⟩; dsimp only [dagV, noAd]
                   have hbk8 : Below w6.heap.size w6 w8 := ((Below.refl _ _).alloc (Nat.le_refl _) _).drew.trans (hb8.mono (by simp))
                   have hbk9 : ∀ v0 v1 v2, Below w6.heap.size w6 (((w8.setCell ⟨w6.heap.size, 0, none⟩ v0).setCell ⟨w6.heap.size, 1, none⟩ v1).setCell ⟨w6.heap.size, 2, none⟩ v2) := fun v0 v1 v2 => ((hbk8.setCell (p := ⟨w6.heap.size, 0, none⟩) (Nat.le_refl _) v0).setCell (p := ⟨w6.heap.size, 1, none⟩) (Nat.le_refl _) v1).setCell (p := ⟨w6.heap.size, 2, none⟩) (Nat.le_refl _) v2
                   have hbx : Box w8 w6.heap.size (dagC 0 0 noAd) := ((box_new w6 (dagC 0 0 noAd) 24).below (Below.refl (w6.heap.size + 1) _).drew (Nat.lt_succ_self _)).below hb8 (by simp)
                   obtain ⟨b0, b1, b2⟩ := dag_cells hbx
                   have f0 := (hbx.2 0 _ rfl).2
                   have f1 := (hbx.2 1 _ rfl).2
                   have f2 := (hbx.2 2 _ rfl).2))
            all_goals clear e0 e1 e2 e4 ec KEEP
            all_goals first
              | (obtain ⟨w10, hw10⟩ : ∃ w10, w10 = w8.alloc (.cells (dagC 0 0 noAd).toArray 24) := ⟨_, rfl⟩
                 have HWT : Hid (w8.alloc (.cells #[.int .i64 0, .int .i64 0, .slice none 0 0] 24) = w10) := hw10.symm
                 rw [HWT.out]
                 have hb810 : Below w8.heap.size w8 w10 := by rw [hw10]; exact (Below.refl _ _).alloc (Nat.le_refl _) _
                 have hb610 : Below w6.heap.size w6 w10 := hbk8.trans (hb810.mono hbk8.size)
                 have hxb : Box w10 w8.heap.size (dagC 0 0 noAd) := by rw [hw10]; exact box_new _ _ _
                 have HGXC : Hid (∀ wX, Below w10.heap.size w10 wX → wX.cell? ⟨w8.heap.size, 0, none⟩ = some (.int .i64 0) ∧ wX.cell? ⟨w8.heap.size, 1, none⟩ = some (.int .i64 0) ∧ wX.cell? ⟨w8.heap.size, 2, none⟩ = some (.slice none 0 0)) := fun wX hb => dag_cells (hxb.below hb hxb.1)
                 obtain ⟨x0, x1, x2⟩ := HGXC.out w10 (Below.refl _ _)
                 have HGX10 : Hid (GIn w10 noAd []) := gIn_none _
                 clear hw10 hxb hb810 hb8)
              | (obtain ⟨w10, hw10⟩ : ∃ w10, w10 = (((w8.setCell ⟨w6.heap.size, 0, none⟩ (.int .i64 0)).setCell ⟨w6.heap.size, 1, none⟩ (.int .i64 0)).setCell ⟨w6.heap.size, 2, none⟩ (.slice none 0 0)) := ⟨_, rfl⟩
                 have HWT : Hid ((((w8.setCell ⟨w6.heap.size, 0, none⟩ (.int .i64 0)).setCell ⟨w6.heap.size, 1, none⟩ (.int .i64 0)).setCell ⟨w6.heap.size, 2, none⟩ (.slice none 0 0)) = w10) := hw10.symm
                 rw [HWT.out]
                 have hb610 : Below w6.heap.size w6 w10 := by rw [hw10]; exact hbk9 _ _ _
                 have ht8 : Touch (fun k => k = w6.heap.size) w8 w10 := by rw [hw10]; exact Touch.set (F := fun k => k = w6.heap.size) (Touch.set (F := fun k => k = w6.heap.size) (Touch.set (F := fun k => k = w6.heap.size) (Touch.refl _ _) (.inl rfl) _) (.inl rfl) _) (.inl rfl) _
                 have hxb : Box w10 w6.heap.size (dagC 0 0 noAd) := by rw [hw10]; exact ((hbx.set (j := 0) (show 0 < 3 by decide)).set (j := 1) (show 1 < 3 by decide)).set (j := 2) (show 2 < 3 by decide)
                 have HGXC : Hid (∀ wX, Below w10.heap.size w10 wX → wX.cell? ⟨w6.heap.size, 0, none⟩ = some (.int .i64 0) ∧ wX.cell? ⟨w6.heap.size, 1, none⟩ = some (.int .i64 0) ∧ wX.cell? ⟨w6.heap.size, 2, none⟩ = some (.slice none 0 0)) := fun wX hb => dag_cells (hxb.below hb hxb.1)
                 obtain ⟨x0, x1, x2⟩ := HGXC.out w10 (Below.refl _ _)
                 have HGX10 : Hid (GIn w10 noAd []) := gIn_none _
                 clear hw10 hxb hb8 hbk9 hbx b0 b1 b2 f0 f1 f2 ht8)
            all_goals
              have hb110 : Below w1.heap.size w1 w10 := hb16.trans (hb610.mono hb16.size)
              have HGW10 : Hid (GIn w10 noAd []) := gIn_none _
              obtain ⟨y0, y1, y2⟩ := dag_cells (HW6.out.below hb610 HW6.out.1)
              have HEQ : Hid (Calls Try.prog 18 #[.agg #[.int .i64 0, .int .i64 0, .slice none 0 0], .agg #[.int .i64 0, .int .i64 0, .slice none 0 0]] w10 fun e w' => e = .returned (.bool true) ∧ Below w10.heap.size w10 w') := by
                have := eqDag_is 0 0 noAd [] 0 0 noAd [] w10 HGX10.out HGW10.out
                rwa [decide_eq_true (And.intro rfl (And.intro rfl rfl))] at this
              go_wp2_with (first
                | (go_at_call 18; refine HEQ.out.mono ?_; rintro e w12 ⟨rfl, hb12⟩)
                | (go_at_call 15; refine (numY_any _ _).mono ?_; rintro e w11 ⟨rfl, rfl⟩))
              have HB14 : Hid (Below w1.heap.size w1 w12) := hb110.trans (hb12.mono hb110.size)
              go_roundw
              case rel => exact ⟨t + 1, by go_num, hlt, HB14.out⟩
              case measure => simp [intOf]; omega
        · have HM : Hid (¬ MayG q.N q.L q.l) := hm
          clear hm
          have HMY : Hid (∀ wX, Below w1.heap.size w1 wX → Calls Try.prog 20 #[.agg #[.int .i64 q.N, .int .i64 q.L, .slice q.o.A q.o.n q.o.c]] wX (Tells wX.heap.size wX (.bool false))) := fun wX hb => (rMay_is q.N q.L q.o q.l wX (HGI.out wX hb)).mono fun e w' ⟨b, he, hb', hbw⟩ => ⟨by rw [he]; cases b with | false => rfl | true => exact absurd (hb'.1 rfl) HM.out, hbw⟩
          have HTR : Hid (∀ wX, Below w1.heap.size w1 wX → Calls Try.prog 39 #[.agg #[.int .i64 q.N, .int .i64 q.L, .slice q.o.A q.o.n q.o.c], .int .i64 za] wX (AddErr 1 wX)) := fun wX hb => trim_bad q.N q.L za q.o q.l wX (HGI.out wX hb) HM.out
          have p0 : ∀ z : Calm w5, z.val.cell? ⟨g, 0, none⟩ = some (.int .i64 q.N) := fun z => (HALL.out z.val (hb15.trans (z.ok.mono hb15.size))).1
          have p1 : ∀ z : Calm w5, z.val.cell? ⟨g, 1, none⟩ = some (.int .i64 q.L) := fun z => (HALL.out z.val (hb15.trans (z.ok.mono hb15.size))).2.1
          have p2 : ∀ z : Calm w5, z.val.cell? ⟨g, 2, none⟩ = some (.slice q.o.A q.o.n q.o.c) := fun z => (HALL.out z.val (hb15.trans (z.ok.mono hb15.size))).2.2.1
          have p3 : ∀ z : Calm w5, z.val.cell? ⟨g, 4, none⟩ = some (.slice (some ⟨b, off, none⟩) q.oi.n q.oi.c) := fun z => (HALL.out z.val (hb15.trans (z.ok.mono hb15.size))).2.2.2.1
          have p4 : ∀ z : Calm w5, z.val.cell? ⟨b, off + t, none⟩ = some (.int .i64 za) := fun z => (HALL.out z.val (hb15.trans (z.ok.mono hb15.size))).2.2.2.2
          refine wp_region_calm (by kernel_rfl) (by kernel_rfl) ?_
          repeat (go_big_quiet_step ((go_at_call 20; exact calm_tells (HMY.out _ (hb15.trans ((Calm.ok _).mono hb15.size))))))
          refine wpQuiet_nil ?_
          rintro _ ⟨z, rfl⟩
          obtain ⟨w6, hwz⟩ : ∃ wz, wz = z.val := ⟨_, rfl⟩
          have hb56 : Below w5.heap.size w5 w6 := by rw [hwz]; exact z.ok
          rw [← hwz]
          have hb16 : Below w1.heap.size w1 w6 := hb15.trans (hb56.mono hb15.size)
          have HW6 : Hid (Box w6 gw (dagC 0 0 noAd)) := HX5.out.below hb56 HX5.out.1
          clear hwz z p0 p1 p2 p3 p4 HMY hb56
          go_upto_region 9 with fail
          have KEEP : Hid (∀ X, Below w6.heap.size w6 X → X.cell? ⟨g, 0, none⟩ = some (.int .i64 q.N) ∧ X.cell? ⟨g, 1, none⟩ = some (.int .i64 q.L) ∧ X.cell? ⟨g, 2, none⟩ = some (.slice q.o.A q.o.n q.o.c) ∧ X.cell? ⟨g, 4, none⟩ = some (.slice (some ⟨b, off, none⟩) q.oi.n q.oi.c) ∧ X.cell? ⟨b, off + t, none⟩ = some (.int .i64 za)) := fun X hb => HALL.out X (hb16.trans (hb.mono hb16.size))
          obtain ⟨e0, e1, e2, e4, ec⟩ := KEEP.out w6 (Below.refl _ _)
          go_region_held3 (fun X => X.cell? ⟨g, 0, none⟩ = some (.int .i64 q.N) ∧ X.cell? ⟨g, 1, none⟩ = some (.int .i64 q.L) ∧ X.cell? ⟨g, 2, none⟩ = some (.slice q.o.A q.o.n q.o.c) ∧ X.cell? ⟨g, 4, none⟩ = some (.slice (some ⟨b, off, none⟩) q.oi.n q.oi.c) ∧ X.cell? ⟨b, off + t, none⟩ = some (.int .i64 za))
            ((refine KEEP.out _ ?_; first
              | with_reducible exact (Below.refl _ _)
              | with_reducible exact (Below.refl _ _).drew
              | with_reducible exact ((Below.refl _ _).alloc (Nat.le_refl _) _)
              | with_reducible exact ((Below.refl _ _).alloc (Nat.le_refl _) _).drew
              | with_reducible exact hbk8
              | with_reducible exact (hbk8.alloc hbk8.size _)
              | exact hbk9 _ _ _))
            (first
              | (go_at_call 39; refine (HTR.out _ ?_).mono ?_
                 · exact hb16.trans ((Below.refl _ _).drew.mono hb16.size)
                 rintro e w8 ⟨rfl, hb8⟩; dsimp only [dagV, noAd]
                 have hbk8 : Below w6.heap.size w6 w8 := (Below.refl _ _).drew.trans (hb8.mono (by simp))
          )
              | (go_at_call 39; refine (HTR.out _ ?_).mono ?_
                 · exact hb16.trans (((Below.refl _ _).alloc (Nat.le_refl _) _).drew.mono hb16.size)
                 rintro e w8 ⟨rfl, hb8⟩; dsimp only [dagV, noAd]
                 have hbk8 : Below w6.heap.size w6 w8 := ((Below.refl _ _).alloc (Nat.le_refl _) _).drew.trans (hb8.mono (by simp))
                 have hbk9 : ∀ v0 v1 v2, Below w6.heap.size w6 (((w8.setCell ⟨w6.heap.size, 0, none⟩ v0).setCell ⟨w6.heap.size, 1, none⟩ v1).setCell ⟨w6.heap.size, 2, none⟩ v2) := fun v0 v1 v2 => ((hbk8.setCell (p := ⟨w6.heap.size, 0, none⟩) (Nat.le_refl _) v0).setCell (p := ⟨w6.heap.size, 1, none⟩) (Nat.le_refl _) v1).setCell (p := ⟨w6.heap.size, 2, none⟩) (Nat.le_refl _) v2
                 have hbx : Box w8 w6.heap.size (dagC 0 0 noAd) := ((box_new w6 (dagC 0 0 noAd) 24).below (Below.refl (w6.heap.size + 1) _).drew (Nat.lt_succ_self _)).below hb8 (by simp)
                 obtain ⟨b0, b1, b2⟩ := dag_cells hbx
                 have f0 := (hbx.2 0 _ rfl).2
                 have f1 := (hbx.2 1 _ rfl).2
                 have f2 := (hbx.2 2 _ rfl).2))
          all_goals clear e0 e1 e2 e4 ec KEEP
          all_goals first
            | (obtain ⟨w10, hw10⟩ : ∃ w10, w10 = w8.alloc (.cells (dagC 0 0 noAd).toArray 24) := ⟨_, rfl⟩
               have HWT : Hid (w8.alloc (.cells #[.int .i64 0, .int .i64 0, .slice none 0 0] 24) = w10) := hw10.symm
               rw [HWT.out]
               have hb810 : Below w8.heap.size w8 w10 := by rw [hw10]; exact (Below.refl _ _).alloc (Nat.le_refl _) _
               have hb610 : Below w6.heap.size w6 w10 := hbk8.trans (hb810.mono hbk8.size)
               have hxb : Box w10 w8.heap.size (dagC 0 0 noAd) := by rw [hw10]; exact box_new _ _ _
               have HGXC : Hid (∀ wX, Below w10.heap.size w10 wX → wX.cell? ⟨w8.heap.size, 0, none⟩ = some (.int .i64 0) ∧ wX.cell? ⟨w8.heap.size, 1, none⟩ = some (.int .i64 0) ∧ wX.cell? ⟨w8.heap.size, 2, none⟩ = some (.slice none 0 0)) := fun wX hb => dag_cells (hxb.below hb hxb.1)
               obtain ⟨x0, x1, x2⟩ := HGXC.out w10 (Below.refl _ _)
               have HGX10 : Hid (GIn w10 noAd []) := gIn_none _
               clear hw10 hxb hb810 hb8)
            | (obtain ⟨w10, hw10⟩ : ∃ w10, w10 = (((w8.setCell ⟨w6.heap.size, 0, none⟩ (.int .i64 0)).setCell ⟨w6.heap.size, 1, none⟩ (.int .i64 0)).setCell ⟨w6.heap.size, 2, none⟩ (.slice none 0 0)) := ⟨_, rfl⟩
               have HWT : Hid ((((w8.setCell ⟨w6.heap.size, 0, none⟩ (.int .i64 0)).setCell ⟨w6.heap.size, 1, none⟩ (.int .i64 0)).setCell ⟨w6.heap.size, 2, none⟩ (.slice none 0 0)) = w10) := hw10.symm
               rw [HWT.out]
               have hb610 : Below w6.heap.size w6 w10 := by rw [hw10]; exact hbk9 _ _ _
               have ht8 : Touch (fun k => k = w6.heap.size) w8 w10 := by rw [hw10]; exact Touch.set (F := fun k => k = w6.heap.size) (Touch.set (F := fun k => k = w6.heap.size) (Touch.set (F := fun k => k = w6.heap.size) (Touch.refl _ _) (.inl rfl) _) (.inl rfl) _) (.inl rfl) _
               have hxb : Box w10 w6.heap.size (dagC 0 0 noAd) := by rw [hw10]; exact ((hbx.set (j := 0) (show 0 < 3 by decide)).set (j := 1) (show 1 < 3 by decide)).set (j := 2) (show 2 < 3 by decide)
               have HGXC : Hid (∀ wX, Below w10.heap.size w10 wX → wX.cell? ⟨w6.heap.size, 0, none⟩ = some (.int .i64 0) ∧ wX.cell? ⟨w6.heap.size, 1, none⟩ = some (.int .i64 0) ∧ wX.cell? ⟨w6.heap.size, 2, none⟩ = some (.slice none 0 0)) := fun wX hb => dag_cells (hxb.below hb hxb.1)
               obtain ⟨x0, x1, x2⟩ := HGXC.out w10 (Below.refl _ _)
               have HGX10 : Hid (GIn w10 noAd []) := gIn_none _
               clear hw10 hxb hb8 hbk9 hbx b0 b1 b2 f0 f1 f2 ht8)
          all_goals
            have hb110 : Below w1.heap.size w1 w10 := hb16.trans (hb610.mono hb16.size)
            have HGW10 : Hid (GIn w10 noAd []) := gIn_none _
            obtain ⟨y0, y1, y2⟩ := dag_cells (HW6.out.below hb610 HW6.out.1)
            have HEQ : Hid (Calls Try.prog 18 #[.agg #[.int .i64 0, .int .i64 0, .slice none 0 0], .agg #[.int .i64 0, .int .i64 0, .slice none 0 0]] w10 fun e w' => e = .returned (.bool true) ∧ Below w10.heap.size w10 w') := by
              have := eqDag_is 0 0 noAd [] 0 0 noAd [] w10 HGX10.out HGW10.out
              rwa [decide_eq_true (And.intro rfl (And.intro rfl rfl))] at this
            go_wp2_with (first
              | (go_at_call 18; refine HEQ.out.mono ?_; rintro e w12 ⟨rfl, hb12⟩)
              | (go_at_call 15; refine (numY_any _ _).mono ?_; rintro e w11 ⟨rfl, rfl⟩))
            have HB14 : Hid (Below w1.heap.size w1 w12) := hb110.trans (hb12.mono hb110.size)
            go_roundw
            case rel => exact ⟨t + 1, by go_num, hlt, HB14.out⟩
            case measure => simp [intOf]; omega
      · obtain rfl : t = q.oi.n := by omega
        have i1 : ¬ ((q.oi.n : Int) < (q.oi.n : Int)) := by omega
        have hbr := HB.out.trans (HBT.out.mono (Nat.le_of_lt hgs))
        have hsr := HBT.out.size
        clear hlt
        go_wp2_with (go_at_call 21; refine (wakesY_any _).mono ?_; rintro e w5 ⟨rfl, hb5⟩)
        go_ret
        exact ⟨rfl, hbr.trans (hb5.mono (by omega))⟩
  · go_wp2_with fail
    go_ret
    exact ⟨rfl, HB.out.trans (hb2.mono (Nat.le_of_lt hgs))⟩

end Go.Proofs.Ytfldfillcmamcaa
