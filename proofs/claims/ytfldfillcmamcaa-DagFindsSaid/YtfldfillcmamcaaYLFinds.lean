/-
  The walk of 'DagFinds'.
-/
import Derived.Test.YtfldfillcmamcaaYNew
import Derived.Test.YtfldfillcmamcaaYRMay
import Derived.Test.YtfldfillcmamcaaYRRnd
import Derived.Test.YtfldfillcmamcaaYAt
import Derived.Test.YtfldfillcmamcaaCalm
import Derived.Deep.RegionHeld3
namespace Go.Proofs.Ytfldfillcmamcaa
open Go.RowKit Pl.Fl

theorem copyF_gin {l : List CrtD} {B : Nat} {w : World} {o : Ad} {ms : List (CrtD × CrtA)} (h : OwnY B w o ms) (hm : ms.map Prod.fst = l) (hf : ∀ x ∈ l, CrtFit x) (hl : l.length ≤ 1000000) : GIn w o l := by
  have h1 : ms.length = l.length := by rw [← hm, List.length_map]
  exact ⟨ms, h.in_ (fun x hx => hf x.1 (by rw [← hm]; exact List.mem_map_of_mem hx)) (by omega), hm⟩
theorem eqDagF_is (N L : Int) (o o' : Ad) (l : List CrtD) (w : World) (h : GIn w o l) (h' : GIn w o' l) :
    Calls Try.prog 18 #[.agg #[.int .i64 N, .int .i64 L, .slice o.A o.n o.c], .agg #[.int .i64 N, .int .i64 L, .slice o'.A o'.n o'.c]] w fun e w' => e = .returned (.bool true) ∧ Below w.heap.size w w' := by
  have := eqDag_is N L o l N L o' l w h h'
  rwa [decide_eq_true (And.intro rfl (And.intro rfl rfl))] at this
theorem pair_at : ∀ {ps : List (Nat × Nat)} {t : Nat} {p : Nat × Nat}, ps[t]? = some p → (ps.flatMap fcells)[t * 2]? = some (.float .f64 p.1) ∧ (ps.flatMap fcells)[t * 2 + 1]? = some (.float .f64 p.2)
  | p :: r, 0, q, h => by cases h; exact ⟨rfl, rfl⟩
  | p :: r, t + 1, q, h => by
    obtain ⟨h1, h2⟩ := pair_at (ps := r) (t := t) (p := q) (by simpa using h)
    have e : (t + 1) * 2 = t * 2 + 2 := by omega
    rw [e]
    exact ⟨h1, h2⟩
/-- a certificate, and an answer -/
def FindTo (c : CrtD) (z : Int) (w : World) (en : Ending) (w' : World) : Prop := ∃ a', en = .returned (.tuple #[crtV c a', .int .i64 z]) ∧ CNew w.heap.size w' c a' ∧ Below w.heap.size w w'
theorem findTo_err {z : Int} {w : World} {e : Ending} {w' : World} (h : FindErr z w e w') : FindTo zeroC6 z w e w' := ⟨zeroCA, h.1, cNew_zero _ _, h.2⟩

set_option maxRecDepth 100000 in
set_option maxHeartbeats 8000000 in
theorem dagFinds_walk (q : AskD) (w : World) (h : AskIn w q) : Calls Try.prog 5 #[askV q] w fun e w' => e = .returned (.bool true) ∧ Below w.heap.size w w' := by
  obtain ⟨g, hg⟩ : ∃ g, g = w.heap.size := ⟨_, rfl⟩
  obtain ⟨w1, hw1⟩ : ∃ w1, w1 = w.alloc (.cells (askC q).toArray 28) := ⟨_, rfl⟩
  obtain ⟨hb1, hsz, hx0⟩ := boxes1 w _ _ hw1
  rw [← hg] at hb1 hsz hx0
  have HG : Hid (w.heap.size = g) := hg.symm
  have HW : Hid (w.alloc (.cells #[.int .i64 q.N, .int .i64 q.L, .slice q.o.A q.o.n q.o.c, .slice q.oc.A q.oc.n q.oc.c, .slice q.oi.A q.oi.n q.oi.c, .slice q.op.A q.op.n q.op.c] 28) = w1) := hw1.symm
  have HB := Lib.hid hb1
  have HX := Lib.hid hx0
  have HQ : Hid (∀ wX, Below g w wX → AskIn wX q) := fun wX hb => h.below (by rw [← hg]; exact hb)
  have HH := Lib.hid (heavy_is q w1 (h.below (by rw [← hg]; exact hb1)))
  have HD : Hid (∀ wX, Below w1.heap.size w1 wX → wX.cell? ⟨g, 0, none⟩ = some (.int .i64 q.N) ∧ wX.cell? ⟨g, 1, none⟩ = some (.int .i64 q.L) ∧ wX.cell? ⟨g, 2, none⟩ = some (.slice q.o.A q.o.n q.o.c) ∧ wX.cell? ⟨g, 3, none⟩ = some (.slice q.oc.A q.oc.n q.oc.c) ∧ wX.cell? ⟨g, 4, none⟩ = some (.slice q.oi.A q.oi.n q.oi.c) ∧ wX.cell? ⟨g, 5, none⟩ = some (.slice q.op.A q.op.n q.op.c)) := fun wX hb => ask_cells (HX.out.below hb HX.out.1)
  obtain ⟨a0, a1, a2, a3, a4, a5⟩ := ask_cells hx0
  have hgs := hx0.1
  clear hg hw1 hb1 hsz hx0 h
  rw [HG.out]
  unfold askV at HH ⊢
  go_enter Try.func5, Try.ntmps5
  go_upto_region 1 with fail
  rw [HG.out, HW.out]
  go_wp2_with (go_at_call 13; refine HH.out.mono ?_; rintro e w2 ⟨b, rfl, hlight, hb2⟩; obtain ⟨e0, e1, e2, e3, e4, e5⟩ := HD.out w2 hb2; cases b)
  · have hbw2 := HB.out.trans (hb2.mono (Nat.le_of_lt hgs))
    have HGI : Hid (∀ wX, Below w1.heap.size w1 wX → GIn wX q.o q.l) := fun wX hb => (HQ.out wX (HB.out.trans (hb.mono (Nat.le_of_lt hgs)))).d.gin (hlight (by simp)).d (by decide)
    have HGC : Hid (∀ wX, Below w1.heap.size w1 wX → GIn wX q.oc q.lc) := fun wX hb => (HQ.out wX (HB.out.trans (hb.mono (Nat.le_of_lt hgs)))).c.gin (hlight (by simp)).c (by decide)
    have hn40 : q.oi.n ≤ 40 := by have := (hlight (by simp)).i; have := (HQ.out _ hbw2).i.len; omega
    have hp40 : q.op.n ≤ 40 := by have := (hlight (by simp)).p; have := (HQ.out _ hbw2).p.len; omega
    have hc40 : q.oc.n ≤ 40 := by have := (hlight (by simp)).c.1; have := (HQ.out _ hbw2).c.row.len; omega
    have HLI : Hid (q.zs.length = q.oi.n) := (HQ.out _ hbw2).i.len
    have HLC : Hid (q.lc.length = q.oc.n) := (HGC.out _ hb2).len
    have HLL : Hid (q.l.length ≤ 1000000) := by have := (HGI.out _ hb2).len; have := (HGI.out _ hb2).few; show _ ≤ _; omega
    have HB12 := Lib.hid hb2
    clear hlight HH
    have HLP : Hid (q.ps.length = q.op.n) := (HQ.out _ hbw2).p.len
    have HCY : Hid (∀ wX, Below w1.heap.size w1 wX → Calls Try.prog 17 #[.agg #[.int .i64 q.N, .int .i64 q.L, .slice q.o.A q.o.n q.o.c]] wX (RetChk q.N q.L q.l wX)) := fun wX hb => chkY_is q.N q.L q.o q.l wX (HGI.out wX hb)
    go_upto_region 4 with (go_at_call 17; refine (HCY.out _ hb2).mono ?_; rintro e w3 ⟨z, rfl, hz, hb3⟩)
    have HB13 : Hid (Below w1.heap.size w1 w3) := hb2.trans (hb3.mono hb2.size)
    clear hb2 hb3 HCY hbw2
    rcases hz with ⟨hm, rfl⟩ | ⟨hm, rfl⟩
    · have HM : Hid (MayG q.N q.L q.l) := hm
      clear hm
      go_wp2_with fail
      go_loopw [4] (fun i wr => ∃ t : Nat, i = .int .i64 t ∧ t ≤ q.oi.n ∧ Hid (Below w1.heap.size w1 wr)) (fun i _ => q.oi.n - (intOf i).toNat)
      case atStart => exact ⟨0, rfl, Nat.zero_le _, HB13.out⟩
      case round =>
        clear a0 a1 a2 a3 a4 a5 e0 e1 e2 e3 e4 e5
        obtain ⟨t, rfl, ht, HBT⟩ := hrel
        obtain ⟨e0, e1, e2, e3, e4, e5⟩ := HD.out wr HBT.out
        by_cases hlt : t < q.oi.n
        · have i0 : (0 : Int) ≤ (t : Int) := by omega
          have i1 : (t : Int) < (q.oi.n : Int) := by omega
          obtain ⟨za, hza⟩ : ∃ z, q.zs[t]? = some z := ⟨_, List.getElem?_eq_getElem (by rw [HLI.out]; exact hlt)⟩
          have HSI := Lib.hid (HQ.out w1 HB.out).i
          obtain ⟨b, off, hA, hbl, hcell⟩ := HSI.out.rd.open_ (by rw [i64s_length, HLI.out]; omega)
          have hca := hcell t (.int .i64 za) (by simp [i64s, hza])
          have HALL : Hid (∀ wX, Below w1.heap.size w1 wX → wX.cell? ⟨g, 0, none⟩ = some (.int .i64 q.N) ∧ wX.cell? ⟨g, 1, none⟩ = some (.int .i64 q.L) ∧ wX.cell? ⟨g, 2, none⟩ = some (.slice q.o.A q.o.n q.o.c) ∧ wX.cell? ⟨g, 4, none⟩ = some (.slice (some ⟨b, off, none⟩) q.oi.n q.oi.c) ∧ wX.cell? ⟨b, off + t, none⟩ = some (.int .i64 za)) := fun wX hb => by
            obtain ⟨c0, c1, c2, -, c4, -⟩ := HD.out wX hb
            rw [hA] at c4
            exact ⟨c0, c1, c2, c4, (hb.cell (p := ⟨b, off + t, none⟩) hbl).trans hca⟩
          clear hza hcell hA HSI hca
          go_upto_region 8 with fail
          clear e0 e1 e2 e3 e4 e5
          obtain ⟨gw, hgw⟩ : ∃ gw, gw = wr.heap.size := ⟨_, rfl⟩
          obtain ⟨w5, hw5⟩ : ∃ w5, w5 = wr.alloc (.cells (crtC zeroC6 zeroCA).toArray 45) := ⟨_, rfl⟩
          obtain ⟨hb5, -, hx5⟩ := boxes1 wr _ _ hw5
          rw [← hgw] at hx5
          have HGE : Hid (wr.heap.size = gw) := hgw.symm
          have HW5 : Hid (wr.alloc (.cells #[.int .i64 0, .int .i64 0, .slice none 0 0, .slice none 0 0, .int .i64 0, .slice none 0 0] 45) = w5) := hw5.symm
          rw [HGE.out, HW5.out]
          have hb15 : Below w1.heap.size w1 w5 := HBT.out.trans (hb5.mono HBT.out.size)
          have HX5 := Lib.hid hx5
          have HGW1 : Hid (w1.heap.size ≤ gw) := by have := HBT.out.size; show _ ≤ _; omega
          clear hgw hw5 hb5 hx5
          cases hf : q.l[cutF (neD za) q.l]? with
          | none =>
            obtain ⟨zi, hzi⟩ : ∃ zi, zi = idxF (neD za) q.l := ⟨_, rfl⟩
            have hneg : zi < 0 := by rw [hzi]; exact idxF_neg.2 hf
            have HRI : Hid (∀ wX, Below w1.heap.size w1 wX → Calls Try.prog 27 #[.agg #[.int .i64 q.N, .int .i64 q.L, .slice q.o.A q.o.n q.o.c], .int .i64 za] wX (Tells wX.heap.size wX (.int .i64 zi))) := fun wX hb => by have := rFind_is q.N q.L za q.o q.l wX (HGI.out wX hb); rwa [← hzi] at this
            have HFI : Hid (∀ wX, Below w1.heap.size w1 wX → Calls Try.prog 28 #[.agg #[.int .i64 q.N, .int .i64 q.L, .slice q.o.A q.o.n q.o.c], .int .i64 za] wX (FindTo zeroC6 3 wX)) := fun wX hb => (find_none q.N q.L za q.o q.l wX (HGI.out wX hb) HM.out hf).mono fun e w' h => findTo_err h
            clear hzi
            have p0 : ∀ z : Calm w5, z.val.cell? ⟨g, 0, none⟩ = some (.int .i64 q.N) := fun z => (HALL.out z.val (hb15.trans (z.ok.mono hb15.size))).1
            have p1 : ∀ z : Calm w5, z.val.cell? ⟨g, 1, none⟩ = some (.int .i64 q.L) := fun z => (HALL.out z.val (hb15.trans (z.ok.mono hb15.size))).2.1
            have p2 : ∀ z : Calm w5, z.val.cell? ⟨g, 2, none⟩ = some (.slice q.o.A q.o.n q.o.c) := fun z => (HALL.out z.val (hb15.trans (z.ok.mono hb15.size))).2.2.1
            have p3 : ∀ z : Calm w5, z.val.cell? ⟨g, 4, none⟩ = some (.slice (some ⟨b, off, none⟩) q.oi.n q.oi.c) := fun z => (HALL.out z.val (hb15.trans (z.ok.mono hb15.size))).2.2.2.1
            have p4 : ∀ z : Calm w5, z.val.cell? ⟨b, off + t, none⟩ = some (.int .i64 za) := fun z => (HALL.out z.val (hb15.trans (z.ok.mono hb15.size))).2.2.2.2
            refine wp_region_calm (by kernel_rfl) (by kernel_rfl) ?_
            repeat (go_big_quiet_step ((go_at_call 27; exact calm_tells (HRI.out _ (hb15.trans ((Calm.ok _).mono hb15.size))))))
            refine wpQuiet_nil ?_
            rintro _ ⟨z, rfl⟩
            obtain ⟨w6, hwz⟩ : ∃ wz, wz = z.val := ⟨_, rfl⟩
            have hb56 : Below w5.heap.size w5 w6 := by rw [hwz]; exact z.ok
            rw [← hwz]
            have hb16 : Below w1.heap.size w1 w6 := hb15.trans (hb56.mono hb15.size)
            have HW6 : Hid (Box w6 gw (crtC zeroC6 zeroCA)) := HX5.out.below hb56 HX5.out.1
            clear hwz z p0 p1 p2 p3 p4 HRI hb56
            obtain ⟨wb, hwb⟩ : ∃ wb, wb = w6 := ⟨_, rfl⟩
            have hb1b : Below w1.heap.size w1 wb := by rw [hwb]; exact hb16
            obtain ⟨c, hc⟩ : ∃ c, c = zeroC6 := ⟨_, rfl⟩
            obtain ⟨aw, haw⟩ : ∃ aw, aw = zeroCA := ⟨_, rfl⟩
            have HWBX : Hid (Box wb gw (crtC c aw)) := by show Box _ _ _; rw [hwb, hc, haw]; exact HW6.out
            have HWC : Hid (CIn wb c aw) := by show CIn _ _ _; rw [hc, haw]; exact cIn_zero _
            have HFC : Hid (CrtFit c) := by show CrtFit _; rw [hc]; exact fit_zero
            rw [← hc] at HFI
            rw [← hwb]
            clear hwb hc haw HW6 hb16
            go_upto_region 13 with fail
            have KEEP : Hid (∀ X, Below wb.heap.size wb X → X.cell? ⟨g, 0, none⟩ = some (.int .i64 q.N) ∧ X.cell? ⟨g, 1, none⟩ = some (.int .i64 q.L) ∧ X.cell? ⟨g, 2, none⟩ = some (.slice q.o.A q.o.n q.o.c) ∧ X.cell? ⟨g, 4, none⟩ = some (.slice (some ⟨b, off, none⟩) q.oi.n q.oi.c) ∧ X.cell? ⟨b, off + t, none⟩ = some (.int .i64 za)) := fun X hb => HALL.out X (hb1b.trans (hb.mono hb1b.size))
            obtain ⟨e0, e1, e2, e4, ec⟩ := KEEP.out wb (Below.refl _ _)
            unfold FindTo at HFI
            go_region_held3 (fun X => X.cell? ⟨g, 0, none⟩ = some (.int .i64 q.N) ∧ X.cell? ⟨g, 1, none⟩ = some (.int .i64 q.L) ∧ X.cell? ⟨g, 2, none⟩ = some (.slice q.o.A q.o.n q.o.c) ∧ X.cell? ⟨g, 4, none⟩ = some (.slice (some ⟨b, off, none⟩) q.oi.n q.oi.c) ∧ X.cell? ⟨b, off + t, none⟩ = some (.int .i64 za))
              ((refine KEEP.out _ ?_; first
                | with_reducible exact (Below.refl _ _)
                | with_reducible exact (Below.refl _ _).drew
                | with_reducible exact ((Below.refl _ _).alloc (Nat.le_refl _) _)
                | with_reducible exact ((Below.refl _ _).alloc (Nat.le_refl _) _).drew
                | with_reducible exact hbk8
                | with_reducible exact (hbk8.alloc hbk8.size _)
                | exact hbk9 _ _ _ _ _ _))
              (first
                | (go_at_call 28; refine (HFI.out _ ?_).mono ?_
                   · exact hb1b.trans ((Below.refl _ _).drew.mono hb1b.size)
                   rintro e w8 ⟨ac, rfl, hn8, hb8⟩; dsimp only [crtV]
                   have hbk8 : Below wb.heap.size wb w8 := (Below.refl _ _).drew.trans (hb8.mono (by simp)))
                | (go_at_call 28; refine (HFI.out _ ?_).mono ?_
                   · exact hb1b.trans (((Below.refl _ _).alloc (Nat.le_refl _) _).drew.mono hb1b.size)
                   rintro e w8 ⟨ac, rfl, hn8, hb8⟩; dsimp only [crtV]
                   have hbk8 : Below wb.heap.size wb w8 := ((Below.refl _ _).alloc (Nat.le_refl _) _).drew.trans (hb8.mono (by simp))
                   have hbk9 : ∀ v0 v1 v2 v3 v4 v5, Below wb.heap.size wb ((((((w8.setCell ⟨wb.heap.size, 0, none⟩ v0).setCell ⟨wb.heap.size, 1, none⟩ v1).setCell ⟨wb.heap.size, 2, none⟩ v2).setCell ⟨wb.heap.size, 3, none⟩ v3).setCell ⟨wb.heap.size, 4, none⟩ v4).setCell ⟨wb.heap.size, 5, none⟩ v5) := fun v0 v1 v2 v3 v4 v5 => ((((((hbk8.setCell (p := ⟨wb.heap.size, 0, none⟩) (Nat.le_refl _) v0).setCell (p := ⟨wb.heap.size, 1, none⟩) (Nat.le_refl _) v1).setCell (p := ⟨wb.heap.size, 2, none⟩) (Nat.le_refl _) v2).setCell (p := ⟨wb.heap.size, 3, none⟩) (Nat.le_refl _) v3).setCell (p := ⟨wb.heap.size, 4, none⟩) (Nat.le_refl _) v4).setCell (p := ⟨wb.heap.size, 5, none⟩) (Nat.le_refl _) v5)
                   have hbx : Box w8 wb.heap.size (crtC zeroC6 zeroCA) := ((box_new wb (crtC zeroC6 zeroCA) 45).below (Below.refl (wb.heap.size + 1) _).drew (Nat.lt_succ_self _)).below hb8 (by simp)
                   obtain ⟨b0, b1, b2, b3, b4, b5⟩ := crt_cells hbx
                   have f0 := (hbx.2 0 _ rfl).2
                   have f1 := (hbx.2 1 _ rfl).2
                   have f2 := (hbx.2 2 _ rfl).2
                   have f3 := (hbx.2 3 _ rfl).2
                   have f4 := (hbx.2 4 _ rfl).2
                   have f5 := (hbx.2 5 _ rfl).2))
            all_goals clear e0 e1 e2 e4 ec KEEP
            all_goals first
              | (obtain ⟨w10, hw10⟩ : ∃ w10, w10 = w8.alloc (.cells (crtC c ac).toArray 45) := ⟨_, rfl⟩
                 have HWT : Hid (w8.alloc (.cells #[.int .i64 c.a, .int .i64 c.r, .slice ac.B.A ac.B.n ac.B.c, .slice ac.P.A ac.P.n ac.P.c, .int .i64 c.d, .slice ac.S.A ac.S.n ac.S.c] 45) = w10) := hw10.symm
                 rw [HWT.out]
                 have hb810 : Below w8.heap.size w8 w10 := by rw [hw10]; exact (Below.refl _ _).alloc (Nat.le_refl _) _
                 have hbb10 : Below wb.heap.size wb w10 := hbk8.trans (hb810.mono hbk8.size)
                 have hxb : Box w10 w8.heap.size (crtC c ac) := by rw [hw10]; exact box_new _ _ _
                 obtain ⟨x0, x1, x2, x3, x4, x5⟩ := crt_cells hxb
                 have HCX : Hid (CIn w10 c ac) := hn8.in_.below hb810
                 clear hw10 hxb hb810 hb8 hn8)
              | (obtain ⟨w10, hw10⟩ : ∃ w10, w10 = ((((((w8.setCell ⟨wb.heap.size, 0, none⟩ (.int .i64 c.a)).setCell ⟨wb.heap.size, 1, none⟩ (.int .i64 c.r)).setCell ⟨wb.heap.size, 2, none⟩ (.slice ac.B.A ac.B.n ac.B.c)).setCell ⟨wb.heap.size, 3, none⟩ (.slice ac.P.A ac.P.n ac.P.c)).setCell ⟨wb.heap.size, 4, none⟩ (.int .i64 c.d)).setCell ⟨wb.heap.size, 5, none⟩ (.slice ac.S.A ac.S.n ac.S.c)) := ⟨_, rfl⟩
                 have HWT : Hid (((((((w8.setCell ⟨wb.heap.size, 0, none⟩ (.int .i64 c.a)).setCell ⟨wb.heap.size, 1, none⟩ (.int .i64 c.r)).setCell ⟨wb.heap.size, 2, none⟩ (.slice ac.B.A ac.B.n ac.B.c)).setCell ⟨wb.heap.size, 3, none⟩ (.slice ac.P.A ac.P.n ac.P.c)).setCell ⟨wb.heap.size, 4, none⟩ (.int .i64 c.d)).setCell ⟨wb.heap.size, 5, none⟩ (.slice ac.S.A ac.S.n ac.S.c)) = w10) := hw10.symm
                 rw [HWT.out]
                 have hbb10 : Below wb.heap.size wb w10 := by rw [hw10]; exact hbk9 _ _ _ _ _ _
                 have ht8 : Touch (fun k => k = wb.heap.size) w8 w10 := by rw [hw10]; exact (Touch.set (F := fun k => k = wb.heap.size) (Touch.set (F := fun k => k = wb.heap.size) (Touch.set (F := fun k => k = wb.heap.size) (Touch.set (F := fun k => k = wb.heap.size) (Touch.set (F := fun k => k = wb.heap.size) (Touch.set (F := fun k => k = wb.heap.size) (Touch.refl _ _) (.inl rfl) _) (.inl rfl) _) (.inl rfl) _) (.inl rfl) _) (.inl rfl) _) (.inl rfl) _)
                 have hxb : Box w10 wb.heap.size (crtC c ac) := by rw [hw10]; exact ((((((hbx.set (j := 0) (show 0 < 6 by decide)).set (j := 1) (show 1 < 6 by decide)).set (j := 2) (show 2 < 6 by decide)).set (j := 3) (show 3 < 6 by decide)).set (j := 4) (show 4 < 6 by decide)).set (j := 5) (show 5 < 6 by decide))
                 obtain ⟨x0, x1, x2, x3, x4, x5⟩ := crt_cells hxb
                 have HCX : Hid (CIn w10 c ac) := (hn8.touch ht8 (fun k hk hh => by have e : k = wb.heap.size := hk; have := (hn8.lt hh).2; simp at this; omega)).in_
                 clear hw10 hxb hb8 hbk9 hbx b0 b1 b2 b3 b4 b5 f0 f1 f2 f3 f4 f5 ht8 hn8)
            all_goals
              have hb110 : Below w1.heap.size w1 w10 := hb1b.trans (hbb10.mono hb1b.size)
              obtain ⟨y0, y1, y2, y3, y4, y5⟩ := crt_cells (HWBX.out.below hbb10 HWBX.out.1)
              have HEQ : Hid (Calls Try.prog 25 #[.agg #[.int .i64 c.a, .int .i64 c.r, .slice ac.B.A ac.B.n ac.B.c, .slice ac.P.A ac.P.n ac.P.c, .int .i64 c.d, .slice ac.S.A ac.S.n ac.S.c], .agg #[.int .i64 c.a, .int .i64 c.r, .slice aw.B.A aw.B.n aw.B.c, .slice aw.P.A aw.P.n aw.P.c, .int .i64 c.d, .slice aw.S.A aw.S.n aw.S.c]] w10 fun e w' => e = .returned (.bool true) ∧ Below w10.heap.size w10 w') := by
                have := eqC_is c c ac aw w10 HCX.out HFC.out (HWC.out.below hbb10) HFC.out
                rwa [decide_eq_true (rfl : c = c)] at this
              go_wp2_with (first
                | (go_at_call 25; refine HEQ.out.mono ?_; rintro e w12 ⟨rfl, hb12⟩)
                | (go_at_call 15; refine (numY_any _ _).mono ?_; rintro e w11 ⟨rfl, rfl⟩))
              have HB14 : Hid (Below w1.heap.size w1 w12) := hb110.trans (hb12.mono hb110.size)
              go_roundw
              case rel => exact ⟨t + 1, by go_num, hlt, HB14.out⟩
              case measure => simp [intOf]; omega
          | some c =>
            obtain ⟨hk1, -⟩ := idxF_pos hf
            have hkl : cutF (neD za) q.l < q.l.length := (List.getElem?_eq_some_iff.1 hf).1
            have hql := (HGI.out _ hb15).len
            obtain ⟨k, hkk⟩ : ∃ k, k = cutF (neD za) q.l := ⟨_, rfl⟩
            rw [← hkk] at hk1 hkl
            have HRI : Hid (∀ wX, Below w1.heap.size w1 wX → Calls Try.prog 27 #[.agg #[.int .i64 q.N, .int .i64 q.L, .slice q.o.A q.o.n q.o.c], .int .i64 za] wX (Tells wX.heap.size wX (.int .i64 k))) := fun wX hb => by have := rFind_is q.N q.L za q.o q.l wX (HGI.out wX hb); rwa [hk1] at this
            have HFI : Hid (∀ wX, Below w1.heap.size w1 wX → Calls Try.prog 28 #[.agg #[.int .i64 q.N, .int .i64 q.L, .slice q.o.A q.o.n q.o.c], .int .i64 za] wX (FindTo c 0 wX)) := fun wX hb => find_ok q.N q.L za q.o q.l c wX (HGI.out wX hb) HM.out hf
            rw [← hkk] at hf
            obtain ⟨bq, offq, aw, hAq, -, hfitq, hceq⟩ := (HGI.out w1 (Below.refl _ _)).get hf
            have HFC : Hid (CrtFit c) := hfitq
            have HAQ := Lib.hid hAq
            have HCEQ := Lib.hid hceq
            have k0 : (0 : Int) ≤ (k : Int) := by omega
            have k1 : (k : Int) < (q.o.n : Int) := by omega
            have k2 : ¬ ((k : Int) < 0) := by omega
            clear hkk hk1 hkl hql hfitq hceq hf hAq
            have p0 : ∀ z : Calm w5, z.val.cell? ⟨g, 0, none⟩ = some (.int .i64 q.N) := fun z => (HALL.out z.val (hb15.trans (z.ok.mono hb15.size))).1
            have p1 : ∀ z : Calm w5, z.val.cell? ⟨g, 1, none⟩ = some (.int .i64 q.L) := fun z => (HALL.out z.val (hb15.trans (z.ok.mono hb15.size))).2.1
            have p2 : ∀ z : Calm w5, z.val.cell? ⟨g, 2, none⟩ = some (.slice q.o.A q.o.n q.o.c) := fun z => (HALL.out z.val (hb15.trans (z.ok.mono hb15.size))).2.2.1
            have p3 : ∀ z : Calm w5, z.val.cell? ⟨g, 4, none⟩ = some (.slice (some ⟨b, off, none⟩) q.oi.n q.oi.c) := fun z => (HALL.out z.val (hb15.trans (z.ok.mono hb15.size))).2.2.2.1
            have p4 : ∀ z : Calm w5, z.val.cell? ⟨b, off + t, none⟩ = some (.int .i64 za) := fun z => (HALL.out z.val (hb15.trans (z.ok.mono hb15.size))).2.2.2.2
            refine wp_region_calm (by kernel_rfl) (by kernel_rfl) ?_
            repeat (go_big_quiet_step ((go_at_call 27; exact calm_tells (HRI.out _ (hb15.trans ((Calm.ok _).mono hb15.size))))))
            refine wpQuiet_nil ?_
            rintro _ ⟨z, rfl⟩
            obtain ⟨w6, hwz⟩ : ∃ wz, wz = z.val := ⟨_, rfl⟩
            have hb56 : Below w5.heap.size w5 w6 := by rw [hwz]; exact z.ok
            rw [← hwz]
            have hb16 : Below w1.heap.size w1 w6 := hb15.trans (hb56.mono hb15.size)
            have HW6 : Hid (Box w6 gw (crtC zeroC6 zeroCA)) := HX5.out.below hb56 HX5.out.1
            clear hwz z p0 p1 p2 p3 p4 HRI hb56
            obtain ⟨d0, d1, d2, -, -⟩ := HALL.out w6 hb16
            rw [HAQ.out] at d2
            obtain ⟨l0, l1, l2, l3, l4, l5, -⟩ := HCEQ.out w6 hb16
            go_upto_region 13 with (refine wpList_store_box rfl 45 _ _ rfl gw 0 (crtC c aw) (crtC zeroC6 zeroCA) (crtC c aw) rfl rfl HW6.out (show 0 + 6 ≤ 6 by decide) rfl size_crt rfl ?_)
            intro wb by9 T9
            have t9 := T9 (fun k => k = gw) rfl
            have hb1b : Below w1.heap.size w1 wb := hb16.trans (t9.below (fun k hk => by have e : k = gw := hk; rw [e]; exact HGW1.out) hb16.size)
            have HWBX : Hid (Box wb gw (crtC c aw)) := by9
            have HWC : Hid (CIn wb c aw) := (HCEQ.out wb hb1b).in_
            clear d0 d1 d2 l0 l1 l2 l3 l4 l5 by9 T9 t9 HW6 hb16
            go_upto_region 13 with fail
            have KEEP : Hid (∀ X, Below wb.heap.size wb X → X.cell? ⟨g, 0, none⟩ = some (.int .i64 q.N) ∧ X.cell? ⟨g, 1, none⟩ = some (.int .i64 q.L) ∧ X.cell? ⟨g, 2, none⟩ = some (.slice q.o.A q.o.n q.o.c) ∧ X.cell? ⟨g, 4, none⟩ = some (.slice (some ⟨b, off, none⟩) q.oi.n q.oi.c) ∧ X.cell? ⟨b, off + t, none⟩ = some (.int .i64 za)) := fun X hb => HALL.out X (hb1b.trans (hb.mono hb1b.size))
            obtain ⟨e0, e1, e2, e4, ec⟩ := KEEP.out wb (Below.refl _ _)
            unfold FindTo at HFI
            go_region_held3 (fun X => X.cell? ⟨g, 0, none⟩ = some (.int .i64 q.N) ∧ X.cell? ⟨g, 1, none⟩ = some (.int .i64 q.L) ∧ X.cell? ⟨g, 2, none⟩ = some (.slice q.o.A q.o.n q.o.c) ∧ X.cell? ⟨g, 4, none⟩ = some (.slice (some ⟨b, off, none⟩) q.oi.n q.oi.c) ∧ X.cell? ⟨b, off + t, none⟩ = some (.int .i64 za))
              ((refine KEEP.out _ ?_; first
                | with_reducible exact (Below.refl _ _)
                | with_reducible exact (Below.refl _ _).drew
                | with_reducible exact ((Below.refl _ _).alloc (Nat.le_refl _) _)
                | with_reducible exact ((Below.refl _ _).alloc (Nat.le_refl _) _).drew
                | with_reducible exact hbk8
                | with_reducible exact (hbk8.alloc hbk8.size _)
                | exact hbk9 _ _ _ _ _ _))
              (first
                | (go_at_call 28; refine (HFI.out _ ?_).mono ?_
                   · exact hb1b.trans ((Below.refl _ _).drew.mono hb1b.size)
                   rintro e w8 ⟨ac, rfl, hn8, hb8⟩; dsimp only [crtV]
                   have hbk8 : Below wb.heap.size wb w8 := (Below.refl _ _).drew.trans (hb8.mono (by simp)))
                | (go_at_call 28; refine (HFI.out _ ?_).mono ?_
                   · exact hb1b.trans (((Below.refl _ _).alloc (Nat.le_refl _) _).drew.mono hb1b.size)
                   rintro e w8 ⟨ac, rfl, hn8, hb8⟩; dsimp only [crtV]
                   have hbk8 : Below wb.heap.size wb w8 := ((Below.refl _ _).alloc (Nat.le_refl _) _).drew.trans (hb8.mono (by simp))
                   have hbk9 : ∀ v0 v1 v2 v3 v4 v5, Below wb.heap.size wb ((((((w8.setCell ⟨wb.heap.size, 0, none⟩ v0).setCell ⟨wb.heap.size, 1, none⟩ v1).setCell ⟨wb.heap.size, 2, none⟩ v2).setCell ⟨wb.heap.size, 3, none⟩ v3).setCell ⟨wb.heap.size, 4, none⟩ v4).setCell ⟨wb.heap.size, 5, none⟩ v5) := fun v0 v1 v2 v3 v4 v5 => ((((((hbk8.setCell (p := ⟨wb.heap.size, 0, none⟩) (Nat.le_refl _) v0).setCell (p := ⟨wb.heap.size, 1, none⟩) (Nat.le_refl _) v1).setCell (p := ⟨wb.heap.size, 2, none⟩) (Nat.le_refl _) v2).setCell (p := ⟨wb.heap.size, 3, none⟩) (Nat.le_refl _) v3).setCell (p := ⟨wb.heap.size, 4, none⟩) (Nat.le_refl _) v4).setCell (p := ⟨wb.heap.size, 5, none⟩) (Nat.le_refl _) v5)
                   have hbx : Box w8 wb.heap.size (crtC zeroC6 zeroCA) := ((box_new wb (crtC zeroC6 zeroCA) 45).below (Below.refl (wb.heap.size + 1) _).drew (Nat.lt_succ_self _)).below hb8 (by simp)
                   obtain ⟨b0, b1, b2, b3, b4, b5⟩ := crt_cells hbx
                   have f0 := (hbx.2 0 _ rfl).2
                   have f1 := (hbx.2 1 _ rfl).2
                   have f2 := (hbx.2 2 _ rfl).2
                   have f3 := (hbx.2 3 _ rfl).2
                   have f4 := (hbx.2 4 _ rfl).2
                   have f5 := (hbx.2 5 _ rfl).2))
            all_goals clear e0 e1 e2 e4 ec KEEP
            all_goals first
              | (obtain ⟨w10, hw10⟩ : ∃ w10, w10 = w8.alloc (.cells (crtC c ac).toArray 45) := ⟨_, rfl⟩
                 have HWT : Hid (w8.alloc (.cells #[.int .i64 c.a, .int .i64 c.r, .slice ac.B.A ac.B.n ac.B.c, .slice ac.P.A ac.P.n ac.P.c, .int .i64 c.d, .slice ac.S.A ac.S.n ac.S.c] 45) = w10) := hw10.symm
                 rw [HWT.out]
                 have hb810 : Below w8.heap.size w8 w10 := by rw [hw10]; exact (Below.refl _ _).alloc (Nat.le_refl _) _
                 have hbb10 : Below wb.heap.size wb w10 := hbk8.trans (hb810.mono hbk8.size)
                 have hxb : Box w10 w8.heap.size (crtC c ac) := by rw [hw10]; exact box_new _ _ _
                 obtain ⟨x0, x1, x2, x3, x4, x5⟩ := crt_cells hxb
                 have HCX : Hid (CIn w10 c ac) := hn8.in_.below hb810
                 clear hw10 hxb hb810 hb8 hn8)
              | (obtain ⟨w10, hw10⟩ : ∃ w10, w10 = ((((((w8.setCell ⟨wb.heap.size, 0, none⟩ (.int .i64 c.a)).setCell ⟨wb.heap.size, 1, none⟩ (.int .i64 c.r)).setCell ⟨wb.heap.size, 2, none⟩ (.slice ac.B.A ac.B.n ac.B.c)).setCell ⟨wb.heap.size, 3, none⟩ (.slice ac.P.A ac.P.n ac.P.c)).setCell ⟨wb.heap.size, 4, none⟩ (.int .i64 c.d)).setCell ⟨wb.heap.size, 5, none⟩ (.slice ac.S.A ac.S.n ac.S.c)) := ⟨_, rfl⟩
                 have HWT : Hid (((((((w8.setCell ⟨wb.heap.size, 0, none⟩ (.int .i64 c.a)).setCell ⟨wb.heap.size, 1, none⟩ (.int .i64 c.r)).setCell ⟨wb.heap.size, 2, none⟩ (.slice ac.B.A ac.B.n ac.B.c)).setCell ⟨wb.heap.size, 3, none⟩ (.slice ac.P.A ac.P.n ac.P.c)).setCell ⟨wb.heap.size, 4, none⟩ (.int .i64 c.d)).setCell ⟨wb.heap.size, 5, none⟩ (.slice ac.S.A ac.S.n ac.S.c)) = w10) := hw10.symm
                 rw [HWT.out]
                 have hbb10 : Below wb.heap.size wb w10 := by rw [hw10]; exact hbk9 _ _ _ _ _ _
                 have ht8 : Touch (fun k => k = wb.heap.size) w8 w10 := by rw [hw10]; exact (Touch.set (F := fun k => k = wb.heap.size) (Touch.set (F := fun k => k = wb.heap.size) (Touch.set (F := fun k => k = wb.heap.size) (Touch.set (F := fun k => k = wb.heap.size) (Touch.set (F := fun k => k = wb.heap.size) (Touch.set (F := fun k => k = wb.heap.size) (Touch.refl _ _) (.inl rfl) _) (.inl rfl) _) (.inl rfl) _) (.inl rfl) _) (.inl rfl) _) (.inl rfl) _)
                 have hxb : Box w10 wb.heap.size (crtC c ac) := by rw [hw10]; exact ((((((hbx.set (j := 0) (show 0 < 6 by decide)).set (j := 1) (show 1 < 6 by decide)).set (j := 2) (show 2 < 6 by decide)).set (j := 3) (show 3 < 6 by decide)).set (j := 4) (show 4 < 6 by decide)).set (j := 5) (show 5 < 6 by decide))
                 obtain ⟨x0, x1, x2, x3, x4, x5⟩ := crt_cells hxb
                 have HCX : Hid (CIn w10 c ac) := (hn8.touch ht8 (fun k hk hh => by have e : k = wb.heap.size := hk; have := (hn8.lt hh).2; simp at this; omega)).in_
                 clear hw10 hxb hb8 hbk9 hbx b0 b1 b2 b3 b4 b5 f0 f1 f2 f3 f4 f5 ht8 hn8)
            all_goals
              have hb110 : Below w1.heap.size w1 w10 := hb1b.trans (hbb10.mono hb1b.size)
              obtain ⟨y0, y1, y2, y3, y4, y5⟩ := crt_cells (HWBX.out.below hbb10 HWBX.out.1)
              have HEQ : Hid (Calls Try.prog 25 #[.agg #[.int .i64 c.a, .int .i64 c.r, .slice ac.B.A ac.B.n ac.B.c, .slice ac.P.A ac.P.n ac.P.c, .int .i64 c.d, .slice ac.S.A ac.S.n ac.S.c], .agg #[.int .i64 c.a, .int .i64 c.r, .slice aw.B.A aw.B.n aw.B.c, .slice aw.P.A aw.P.n aw.P.c, .int .i64 c.d, .slice aw.S.A aw.S.n aw.S.c]] w10 fun e w' => e = .returned (.bool true) ∧ Below w10.heap.size w10 w') := by
                have := eqC_is c c ac aw w10 HCX.out HFC.out (HWC.out.below hbb10) HFC.out
                rwa [decide_eq_true (rfl : c = c)] at this
              go_wp2_with (first
                | (go_at_call 25; refine HEQ.out.mono ?_; rintro e w12 ⟨rfl, hb12⟩)
                | (go_at_call 15; refine (numY_any _ _).mono ?_; rintro e w11 ⟨rfl, rfl⟩))
              have HB14 : Hid (Below w1.heap.size w1 w12) := hb110.trans (hb12.mono hb110.size)
              go_roundw
              case rel => exact ⟨t + 1, by go_num, hlt, HB14.out⟩
              case measure => simp [intOf]; omega
        · obtain rfl : t = q.oi.n := by omega
          have i1 : ¬ ((q.oi.n : Int) < (q.oi.n : Int)) := by omega
          clear hlt
          go_wp2_with fail
          go_loopw [10] (fun i wr => ∃ t : Nat, i = .int .i64 t ∧ t ≤ q.op.n ∧ Hid (Below w1.heap.size w1 wr)) (fun i _ => q.op.n - (intOf i).toNat)
          case atStart => exact ⟨0, rfl, Nat.zero_le _, HBT.out⟩
          case round =>
            clear HBT e0 e1 e2 e3 e4 e5
            obtain ⟨t, rfl, ht, HBT⟩ := hrel
            obtain ⟨e0, e1, e2, e3, e4, e5⟩ := HD.out wr HBT.out
            by_cases hlt : t < q.op.n
            · have i0 : (0 : Int) ≤ (t : Int) := by omega
              have i1 : (t : Int) < (q.op.n : Int) := by omega
              obtain ⟨⟨u, v⟩, huv⟩ : ∃ p, q.ps[t]? = some p := ⟨_, List.getElem?_eq_getElem (by rw [HLP.out]; exact hlt)⟩
              have HSP0 := Lib.hid (HQ.out w1 HB.out).p
              obtain ⟨q1, q2⟩ := pair_at huv
              obtain ⟨b, off, hA, hbl, hcell⟩ := HSP0.out.rd.open_ (by have := (List.getElem?_eq_some_iff.1 q1).1; omega)
              have hc1 := hcell _ _ q1
              have hc2 := hcell _ _ q2
              have HALL : Hid (∀ wX, Below w1.heap.size w1 wX → wX.cell? ⟨g, 5, none⟩ = some (.slice (some ⟨b, off, none⟩) q.op.n q.op.c) ∧ wX.cell? ⟨b, off + t * 2, none⟩ = some (.float .f64 u) ∧ wX.cell? ⟨b, off + t * 2 + 1, none⟩ = some (.float .f64 v)) := fun wX hb => by
                obtain ⟨-, -, -, -, -, c5⟩ := HD.out wX hb
                rw [hA] at c5
                exact ⟨c5, (hb.cell (p := ⟨b, off + t * 2, none⟩) hbl).trans hc1, (hb.cell (p := ⟨b, off + (t * 2 + 1), none⟩) hbl).trans hc2⟩
              have hb1r := HBT.out
              clear huv q1 q2 hcell hA HSP0 hc1 hc2 e0 e1 e2 e3 e4 e5
              obtain ⟨e5, e6, e7⟩ := HALL.out wr hb1r
              go_upto_region 19 with fail
              go_quiet (fail)
              obtain ⟨w4, hw4⟩ : ∃ w4, w4 = wr.drewN nq := ⟨_, rfl⟩
              have hb14 : Below w1.heap.size w1 w4 := by rw [hw4]; exact hb1r.trans ⟨rfl, rfl, rfl, Nat.le_refl _, fun _ _ => rfl⟩
              rw [← hw4]
              clear hw4 e5 e6 e7 hb1r HALL hbl
              obtain ⟨e0, e1, e2, e3, e4, e5⟩ := HD.out w4 hb14
              cases hp : Pl.isP u v with
              | false =>
                have HRP : Hid (∀ wX, Calls Try.prog 29 #[.complex .f64 u v] wX fun e w' => e = .returned (.tuple #[.int .i64 0, .int .i64 0, .bool false]) ∧ wX = w') := fun wX => Pl.rparts_no u v hp wX
                obtain ⟨zi, hzi⟩ : ∃ zi, zi = idxF (neA 0 0) q.l := ⟨_, rfl⟩
                have HRI : Hid (∀ wX, Below w1.heap.size w1 wX → Calls Try.prog 30 #[.agg #[.int .i64 q.N, .int .i64 q.L, .slice q.o.A q.o.n q.o.c], .int .i64 0, .int .i64 0] wX fun e w' => e = .returned (.int .i64 zi) ∧ Below wX.heap.size wX w') := fun wX hb => by have := rAt_is q.N q.L 0 0 q.o q.l wX (HGI.out wX hb); rwa [← hzi] at this
                have HAC : Hid (∀ wX, Below w1.heap.size w1 wX → Calls Try.prog 31 #[.agg #[.int .i64 q.N, .int .i64 q.L, .slice q.o.A q.o.n q.o.c], .complex .f64 u v] wX (FindTo zeroC6 1 wX)) := fun wX hb => (at_form q.N q.L u v q.o q.l wX (HGI.out wX hb) HM.out hp).mono fun e w' h => findTo_err h
                clear hzi hp
                go_upto_region 22 with (go_at_call 29; refine (HRP.out _).mono ?_; rintro e w3 ⟨rfl, rfl⟩)
                obtain ⟨gw, hgw⟩ : ∃ gw, gw = w4.heap.size := ⟨_, rfl⟩
                obtain ⟨w5, hw5⟩ : ∃ w5, w5 = w4.alloc (.cells (crtC zeroC6 zeroCA).toArray 45) := ⟨_, rfl⟩
                obtain ⟨hb5, -, hx5⟩ := boxes1 w4 _ _ hw5
                rw [← hgw] at hx5
                have HGE : Hid (w4.heap.size = gw) := hgw.symm
                have HW5 : Hid (w4.alloc (.cells #[.int .i64 0, .int .i64 0, .slice none 0 0, .slice none 0 0, .int .i64 0, .slice none 0 0] 45) = w5) := hw5.symm
                rw [HGE.out, HW5.out]
                have hb15 : Below w1.heap.size w1 w5 := hb14.trans (hb5.mono hb14.size)
                have HX5 := Lib.hid hx5
                have HGW1 : Hid (w1.heap.size ≤ gw) := by have := hb14.size; show _ ≤ _; omega
                clear hgw hw5 hb5 hx5 e0 e1 e2 e3 e4 e5
                obtain ⟨e0, e1, e2, e3, e4, e5⟩ := HD.out w5 hb15
                go_upto_region 29 with (go_at_call 30; refine (HRI.out _ hb15).mono ?_; rintro e w6 ⟨rfl, hb56⟩)
                have hb16 : Below w1.heap.size w1 w6 := hb15.trans (hb56.mono hb15.size)
                have HW6 : Hid (Box w6 gw (crtC zeroC6 zeroCA)) := HX5.out.below hb56 HX5.out.1
                clear e0 e1 e2 e3 e4 e5 HRI hb56 hb15 HRP
                obtain ⟨wb, hwb⟩ : ∃ wb, wb = w6 := ⟨_, rfl⟩
                have hb1b : Below w1.heap.size w1 wb := by rw [hwb]; exact hb16
                obtain ⟨c, hc⟩ : ∃ c, c = zeroC6 := ⟨_, rfl⟩
                obtain ⟨aw, haw⟩ : ∃ aw, aw = zeroCA := ⟨_, rfl⟩
                have HWBX : Hid (Box wb gw (crtC c aw)) := by show Box _ _ _; rw [hwb, hc, haw]; exact HW6.out
                have HWC : Hid (CIn wb c aw) := by show CIn _ _ _; rw [hc, haw]; exact cIn_zero _
                have HFC : Hid (CrtFit c) := by show CrtFit _; rw [hc]; exact fit_zero
                rw [← hc] at HAC
                rw [← hwb]
                clear hwb hc haw HW6 hb16
                obtain ⟨e0, e1, e2, -, -, -⟩ := HD.out wb hb1b
                unfold FindTo at HAC
                go_upto_region 30 with (go_at_call 31; refine (HAC.out _ hb1b).mono ?_; rintro e w8 ⟨ac, rfl, hn8, hb8⟩; dsimp only [crtV])
                obtain ⟨gx, hgx⟩ : ∃ gx, gx = w8.heap.size := ⟨_, rfl⟩
                obtain ⟨w10, hw10⟩ : ∃ w10, w10 = w8.alloc (.cells (crtC c ac).toArray 45) := ⟨_, rfl⟩
                obtain ⟨hb810, -, hx10⟩ := boxes1 w8 _ _ hw10
                rw [← hgx] at hx10
                have HGXE : Hid (w8.heap.size = gx) := hgx.symm
                have HWX : Hid (w8.alloc (.cells #[.int .i64 c.a, .int .i64 c.r, .slice ac.B.A ac.B.n ac.B.c, .slice ac.P.A ac.P.n ac.P.c, .int .i64 c.d, .slice ac.S.A ac.S.n ac.S.c] 45) = w10) := hw10.symm
                rw [HGXE.out, HWX.out]
                have hb18 : Below w1.heap.size w1 w8 := hb1b.trans (hb8.mono hb1b.size)
                have hb110 : Below w1.heap.size w1 w10 := hb18.trans (hb810.mono hb18.size)
                have hbb10 : Below wb.heap.size wb w10 := hb8.trans (hb810.mono hb8.size)
                have HN10 : Hid (CNew w1.heap.size w10 c ac) := (hn8.below hb810).more hb1b.size
                have HNLT : Hid (∀ k, ac.has k → w1.heap.size ≤ k ∧ k < gx) := fun k hk => by have h1 := hn8.lt hk; have := hb1b.size; have h3 : w8.heap.size = gx := hgx.symm; omega
                have HX10 := Lib.hid hx10
                obtain ⟨x0, x1, x2, x3, x4, x5⟩ := crt_cells hx10
                obtain ⟨y0, y1, y2, y3, y4, y5⟩ := crt_cells (HWBX.out.below hbb10 HWBX.out.1)
                have HEQ : Hid (Calls Try.prog 25 #[.agg #[.int .i64 c.a, .int .i64 c.r, .slice ac.B.A ac.B.n ac.B.c, .slice ac.P.A ac.P.n ac.P.c, .int .i64 c.d, .slice ac.S.A ac.S.n ac.S.c], .agg #[.int .i64 c.a, .int .i64 c.r, .slice aw.B.A aw.B.n aw.B.c, .slice aw.P.A aw.P.n aw.P.c, .int .i64 c.d, .slice aw.S.A aw.S.n aw.S.c]] w10 fun e w' => e = .returned (.bool true) ∧ Below w10.heap.size w10 w') := by
                  have := eqC_is c c ac aw w10 HN10.out.in_ HFC.out (HWC.out.below hbb10) HFC.out
                  rwa [decide_eq_true (rfl : c = c)] at this
                clear e0 e1 e2 hgx hw10 hb810 hx10 hb18 hbb10 hn8 hb8 HAC
                go_upto_region 32 with (first
                  | (go_at_call 25; refine HEQ.out.mono ?_; rintro e w12 ⟨rfl, hb12⟩)
                  | (go_at_call 15; refine (numY_any _ _).mono ?_; rintro e w11 ⟨rfl, rfl⟩))
                clear x0 x1 x2 x3 x4 x5 y0 y1 y2 y3 y4 y5 HEQ
                have hb112 : Below w1.heap.size w1 w12 := hb110.trans (hb12.mono hb110.size)
                obtain ⟨f0, f1, f2, -, -, -⟩ := HD.out w12 hb112
                have HCD : Hid (∀ wX, Below w1.heap.size w1 wX → Calls Try.prog 14 #[.agg #[.int .i64 q.N, .int .i64 q.L, .slice q.o.A q.o.n q.o.c]] wX (CopyDagTo q.N q.L q.l wX)) := fun wX hb => copyDag_is q.N q.L q.o q.l wX (HGI.out wX hb)
                go_upto_region 33 with (go_at_call 14; refine (HCD.out _ hb112).mono ?_; rintro e w13 ⟨od, ms13, rfl, ho13, hm13, hb13⟩; dsimp only [dagV])
                obtain ⟨gd, hgd⟩ : ∃ gd, gd = w13.heap.size := ⟨_, rfl⟩
                obtain ⟨w14, hw14⟩ : ∃ w14, w14 = w13.alloc (.cells (dagC q.N q.L od).toArray 24) := ⟨_, rfl⟩
                obtain ⟨hb1314, -, hx14⟩ := boxes1 w13 _ _ hw14
                rw [← hgd] at hx14
                have HGDE : Hid (w13.heap.size = gd) := hgd.symm
                have HW14 : Hid (w13.alloc (.cells #[.int .i64 q.N, .int .i64 q.L, .slice od.A od.n od.c] 24) = w14) := hw14.symm
                rw [HGDE.out, HW14.out]
                have hbz : Below w12.heap.size w12 w14 := hb13.trans (hb1314.mono hb13.size)
                have hb1014 : Below w10.heap.size w10 w14 := hb12.trans (hbz.mono hb12.size)
                have hb114 : Below w1.heap.size w1 w14 := hb112.trans (hbz.mono hb112.size)
                have HOD : Hid (OwnY w12.heap.size w14 od ms13) := ho13.below hb1314
                have HMD : Hid (ms13.map Prod.fst = q.l) := hm13
                have HX14 := Lib.hid hx14
                have hcn := HN10.out.below hb1014
                have hgx12 : gx < w12.heap.size := Nat.lt_of_lt_of_le HX10.out.1 hb12.size
                have hgxd : gx < gd := by have := hb13.size; omega
                have HSP := Lib.hid (spoilCert_far c.a c.r c.d ac.B.A ac.B.n ac.B.c c.B ac.P.A ac.P.n ac.P.c c.P ac.S.A ac.S.n ac.S.c c.S w1.heap.size w14 (by have := HFC.out.lB; have := hcn.lb; omega) hcn.b (by have := HFC.out.lP; have := hcn.lp; omega) hcn.p (by have := HFC.out.lS; have := hcn.ls; omega) hcn.s hcn.bp hcn.bs hcn.ps ac.has (fun j hj => hj))
                obtain ⟨x0, x1, x2, x3, x4, x5⟩ := crt_cells (HX10.out.below hb1014 HX10.out.1)
                clear f0 f1 f2 hgd hw14 hb1314 hx14 hb13 ho13 hm13 HCD hcn hbz hb1014
                go_upto_region 34 with (go_at_call 32; refine HSP.out.mono ?_; rintro e w15 ⟨rfl, ht15⟩)
                have hb115 : Below w1.heap.size w1 w15 := hb114.trans (ht15.below (fun k hk => (HNLT.out k hk).1) hb114.size)
                obtain ⟨r0, r1, r2⟩ := dag_cells (HX14.out.touch ht15 (fun hk => by have := (HNLT.out _ hk).2; omega))
                obtain ⟨s0, s1, s2, -, -, -⟩ := HD.out w15 hb115
                have HED := Lib.hid (eqDagF_is q.N q.L od q.o q.l w15 (copyF_gin (HOD.out.touch ht15 (fun k hk => by have := (HNLT.out _ hk).2; omega)) HMD.out (fun x hx => (HGI.out _ hb115).fit hx) HLL.out) (HGI.out _ hb115))
                clear x0 x1 x2 x3 x4 x5 ht15 HSP hb114 hb112 hb12 hb110
                go_wp2_with (go_at_call 18; refine HED.out.mono ?_; rintro e w16 ⟨rfl, hb16⟩)
                have HB16 : Hid (Below w1.heap.size w1 w16) := hb115.trans (hb16.mono hb115.size)
                go_roundw
                case rel => exact ⟨t + 1, by go_num, hlt, HB16.out⟩
                case measure => simp [intOf]; omega
              | true =>
                rcases idxA_has HM.out.asc (R := fint u) (A := fint v) with ⟨hf, hneg⟩ | ⟨c, hf, her, hea, hk1⟩
                · have HRP : Hid (∀ wX, Calls Try.prog 29 #[.complex .f64 u v] wX fun e w' => e = .returned (.tuple #[.int .i64 (fint u), .int .i64 (fint v), .bool true]) ∧ wX = w') := fun wX => Pl.rparts_yes u v hp wX
                  obtain ⟨zi, hzi⟩ : ∃ zi, zi = idxF (neA (fint u) (fint v)) q.l := ⟨_, rfl⟩
                  rw [← hzi] at hneg
                  have HRI : Hid (∀ wX, Below w1.heap.size w1 wX → Calls Try.prog 30 #[.agg #[.int .i64 q.N, .int .i64 q.L, .slice q.o.A q.o.n q.o.c], .int .i64 (fint u), .int .i64 (fint v)] wX fun e w' => e = .returned (.int .i64 zi) ∧ Below wX.heap.size wX w') := fun wX hb => by have := rAt_is q.N q.L (fint u) (fint v) q.o q.l wX (HGI.out wX hb); rwa [← hzi] at this
                  have HAC : Hid (∀ wX, Below w1.heap.size w1 wX → Calls Try.prog 31 #[.agg #[.int .i64 q.N, .int .i64 q.L, .slice q.o.A q.o.n q.o.c], .complex .f64 u v] wX (FindTo zeroC6 3 wX)) := fun wX hb => (at_none q.N q.L u v q.o q.l wX (HGI.out wX hb) HM.out hp hf).mono fun e w' h => findTo_err h
                  clear hzi hp hf
                  generalize fint u = ru at HRP HRI
                  generalize fint v = rv at HRP HRI
                  go_upto_region 22 with (go_at_call 29; refine (HRP.out _).mono ?_; rintro e w3 ⟨rfl, rfl⟩)
                  obtain ⟨gw, hgw⟩ : ∃ gw, gw = w4.heap.size := ⟨_, rfl⟩
                  obtain ⟨w5, hw5⟩ : ∃ w5, w5 = w4.alloc (.cells (crtC zeroC6 zeroCA).toArray 45) := ⟨_, rfl⟩
                  obtain ⟨hb5, -, hx5⟩ := boxes1 w4 _ _ hw5
                  rw [← hgw] at hx5
                  have HGE : Hid (w4.heap.size = gw) := hgw.symm
                  have HW5 : Hid (w4.alloc (.cells #[.int .i64 0, .int .i64 0, .slice none 0 0, .slice none 0 0, .int .i64 0, .slice none 0 0] 45) = w5) := hw5.symm
                  rw [HGE.out, HW5.out]
                  have hb15 : Below w1.heap.size w1 w5 := hb14.trans (hb5.mono hb14.size)
                  have HX5 := Lib.hid hx5
                  have HGW1 : Hid (w1.heap.size ≤ gw) := by have := hb14.size; show _ ≤ _; omega
                  clear hgw hw5 hb5 hx5 e0 e1 e2 e3 e4 e5
                  obtain ⟨e0, e1, e2, e3, e4, e5⟩ := HD.out w5 hb15
                  go_upto_region 29 with (go_at_call 30; refine (HRI.out _ hb15).mono ?_; rintro e w6 ⟨rfl, hb56⟩)
                  have hb16 : Below w1.heap.size w1 w6 := hb15.trans (hb56.mono hb15.size)
                  have HW6 : Hid (Box w6 gw (crtC zeroC6 zeroCA)) := HX5.out.below hb56 HX5.out.1
                  clear e0 e1 e2 e3 e4 e5 HRI hb56 hb15 HRP
                  obtain ⟨wb, hwb⟩ : ∃ wb, wb = w6 := ⟨_, rfl⟩
                  have hb1b : Below w1.heap.size w1 wb := by rw [hwb]; exact hb16
                  obtain ⟨c, hc⟩ : ∃ c, c = zeroC6 := ⟨_, rfl⟩
                  obtain ⟨aw, haw⟩ : ∃ aw, aw = zeroCA := ⟨_, rfl⟩
                  have HWBX : Hid (Box wb gw (crtC c aw)) := by show Box _ _ _; rw [hwb, hc, haw]; exact HW6.out
                  have HWC : Hid (CIn wb c aw) := by show CIn _ _ _; rw [hc, haw]; exact cIn_zero _
                  have HFC : Hid (CrtFit c) := by show CrtFit _; rw [hc]; exact fit_zero
                  rw [← hc] at HAC
                  rw [← hwb]
                  clear hwb hc haw HW6 hb16
                  obtain ⟨e0, e1, e2, -, -, -⟩ := HD.out wb hb1b
                  unfold FindTo at HAC
                  go_upto_region 30 with (go_at_call 31; refine (HAC.out _ hb1b).mono ?_; rintro e w8 ⟨ac, rfl, hn8, hb8⟩; dsimp only [crtV])
                  obtain ⟨gx, hgx⟩ : ∃ gx, gx = w8.heap.size := ⟨_, rfl⟩
                  obtain ⟨w10, hw10⟩ : ∃ w10, w10 = w8.alloc (.cells (crtC c ac).toArray 45) := ⟨_, rfl⟩
                  obtain ⟨hb810, -, hx10⟩ := boxes1 w8 _ _ hw10
                  rw [← hgx] at hx10
                  have HGXE : Hid (w8.heap.size = gx) := hgx.symm
                  have HWX : Hid (w8.alloc (.cells #[.int .i64 c.a, .int .i64 c.r, .slice ac.B.A ac.B.n ac.B.c, .slice ac.P.A ac.P.n ac.P.c, .int .i64 c.d, .slice ac.S.A ac.S.n ac.S.c] 45) = w10) := hw10.symm
                  rw [HGXE.out, HWX.out]
                  have hb18 : Below w1.heap.size w1 w8 := hb1b.trans (hb8.mono hb1b.size)
                  have hb110 : Below w1.heap.size w1 w10 := hb18.trans (hb810.mono hb18.size)
                  have hbb10 : Below wb.heap.size wb w10 := hb8.trans (hb810.mono hb8.size)
                  have HN10 : Hid (CNew w1.heap.size w10 c ac) := (hn8.below hb810).more hb1b.size
                  have HNLT : Hid (∀ k, ac.has k → w1.heap.size ≤ k ∧ k < gx) := fun k hk => by have h1 := hn8.lt hk; have := hb1b.size; have h3 : w8.heap.size = gx := hgx.symm; omega
                  have HX10 := Lib.hid hx10
                  obtain ⟨x0, x1, x2, x3, x4, x5⟩ := crt_cells hx10
                  obtain ⟨y0, y1, y2, y3, y4, y5⟩ := crt_cells (HWBX.out.below hbb10 HWBX.out.1)
                  have HEQ : Hid (Calls Try.prog 25 #[.agg #[.int .i64 c.a, .int .i64 c.r, .slice ac.B.A ac.B.n ac.B.c, .slice ac.P.A ac.P.n ac.P.c, .int .i64 c.d, .slice ac.S.A ac.S.n ac.S.c], .agg #[.int .i64 c.a, .int .i64 c.r, .slice aw.B.A aw.B.n aw.B.c, .slice aw.P.A aw.P.n aw.P.c, .int .i64 c.d, .slice aw.S.A aw.S.n aw.S.c]] w10 fun e w' => e = .returned (.bool true) ∧ Below w10.heap.size w10 w') := by
                    have := eqC_is c c ac aw w10 HN10.out.in_ HFC.out (HWC.out.below hbb10) HFC.out
                    rwa [decide_eq_true (rfl : c = c)] at this
                  clear e0 e1 e2 hgx hw10 hb810 hx10 hb18 hbb10 hn8 hb8 HAC
                  go_upto_region 32 with (first
                    | (go_at_call 25; refine HEQ.out.mono ?_; rintro e w12 ⟨rfl, hb12⟩)
                    | (go_at_call 15; refine (numY_any _ _).mono ?_; rintro e w11 ⟨rfl, rfl⟩))
                  clear x0 x1 x2 x3 x4 x5 y0 y1 y2 y3 y4 y5 HEQ
                  have hb112 : Below w1.heap.size w1 w12 := hb110.trans (hb12.mono hb110.size)
                  obtain ⟨f0, f1, f2, -, -, -⟩ := HD.out w12 hb112
                  have HCD : Hid (∀ wX, Below w1.heap.size w1 wX → Calls Try.prog 14 #[.agg #[.int .i64 q.N, .int .i64 q.L, .slice q.o.A q.o.n q.o.c]] wX (CopyDagTo q.N q.L q.l wX)) := fun wX hb => copyDag_is q.N q.L q.o q.l wX (HGI.out wX hb)
                  go_upto_region 33 with (go_at_call 14; refine (HCD.out _ hb112).mono ?_; rintro e w13 ⟨od, ms13, rfl, ho13, hm13, hb13⟩; dsimp only [dagV])
                  obtain ⟨gd, hgd⟩ : ∃ gd, gd = w13.heap.size := ⟨_, rfl⟩
                  obtain ⟨w14, hw14⟩ : ∃ w14, w14 = w13.alloc (.cells (dagC q.N q.L od).toArray 24) := ⟨_, rfl⟩
                  obtain ⟨hb1314, -, hx14⟩ := boxes1 w13 _ _ hw14
                  rw [← hgd] at hx14
                  have HGDE : Hid (w13.heap.size = gd) := hgd.symm
                  have HW14 : Hid (w13.alloc (.cells #[.int .i64 q.N, .int .i64 q.L, .slice od.A od.n od.c] 24) = w14) := hw14.symm
                  rw [HGDE.out, HW14.out]
                  have hbz : Below w12.heap.size w12 w14 := hb13.trans (hb1314.mono hb13.size)
                  have hb1014 : Below w10.heap.size w10 w14 := hb12.trans (hbz.mono hb12.size)
                  have hb114 : Below w1.heap.size w1 w14 := hb112.trans (hbz.mono hb112.size)
                  have HOD : Hid (OwnY w12.heap.size w14 od ms13) := ho13.below hb1314
                  have HMD : Hid (ms13.map Prod.fst = q.l) := hm13
                  have HX14 := Lib.hid hx14
                  have hcn := HN10.out.below hb1014
                  have hgx12 : gx < w12.heap.size := Nat.lt_of_lt_of_le HX10.out.1 hb12.size
                  have hgxd : gx < gd := by have := hb13.size; omega
                  have HSP := Lib.hid (spoilCert_far c.a c.r c.d ac.B.A ac.B.n ac.B.c c.B ac.P.A ac.P.n ac.P.c c.P ac.S.A ac.S.n ac.S.c c.S w1.heap.size w14 (by have := HFC.out.lB; have := hcn.lb; omega) hcn.b (by have := HFC.out.lP; have := hcn.lp; omega) hcn.p (by have := HFC.out.lS; have := hcn.ls; omega) hcn.s hcn.bp hcn.bs hcn.ps ac.has (fun j hj => hj))
                  obtain ⟨x0, x1, x2, x3, x4, x5⟩ := crt_cells (HX10.out.below hb1014 HX10.out.1)
                  clear f0 f1 f2 hgd hw14 hb1314 hx14 hb13 ho13 hm13 HCD hcn hbz hb1014
                  go_upto_region 34 with (go_at_call 32; refine HSP.out.mono ?_; rintro e w15 ⟨rfl, ht15⟩)
                  have hb115 : Below w1.heap.size w1 w15 := hb114.trans (ht15.below (fun k hk => (HNLT.out k hk).1) hb114.size)
                  obtain ⟨r0, r1, r2⟩ := dag_cells (HX14.out.touch ht15 (fun hk => by have := (HNLT.out _ hk).2; omega))
                  obtain ⟨s0, s1, s2, -, -, -⟩ := HD.out w15 hb115
                  have HED := Lib.hid (eqDagF_is q.N q.L od q.o q.l w15 (copyF_gin (HOD.out.touch ht15 (fun k hk => by have := (HNLT.out _ hk).2; omega)) HMD.out (fun x hx => (HGI.out _ hb115).fit hx) HLL.out) (HGI.out _ hb115))
                  clear x0 x1 x2 x3 x4 x5 ht15 HSP hb114 hb112 hb12 hb110
                  go_wp2_with (go_at_call 18; refine HED.out.mono ?_; rintro e w16 ⟨rfl, hb16⟩)
                  have HB16 : Hid (Below w1.heap.size w1 w16) := hb115.trans (hb16.mono hb115.size)
                  go_roundw
                  case rel => exact ⟨t + 1, by go_num, hlt, HB16.out⟩
                  case measure => simp [intOf]; omega
                · have HRP : Hid (∀ wX, Calls Try.prog 29 #[.complex .f64 u v] wX fun e w' => e = .returned (.tuple #[.int .i64 (fint u), .int .i64 (fint v), .bool true]) ∧ wX = w') := fun wX => Pl.rparts_yes u v hp wX
                  have hkl : posC q.l (fint u) (fint v) < q.l.length := (List.getElem?_eq_some_iff.1 hf).1
                  have hql := (HGI.out _ hb14).len
                  obtain ⟨k, hkk⟩ : ∃ k, k = posC q.l (fint u) (fint v) := ⟨_, rfl⟩
                  rw [← hkk] at hk1 hkl
                  have HRI : Hid (∀ wX, Below w1.heap.size w1 wX → Calls Try.prog 30 #[.agg #[.int .i64 q.N, .int .i64 q.L, .slice q.o.A q.o.n q.o.c], .int .i64 (fint u), .int .i64 (fint v)] wX fun e w' => e = .returned (.int .i64 k) ∧ Below wX.heap.size wX w') := fun wX hb => by have := rAt_is q.N q.L (fint u) (fint v) q.o q.l wX (HGI.out wX hb); rwa [hk1] at this
                  have HAC : Hid (∀ wX, Below w1.heap.size w1 wX → Calls Try.prog 31 #[.agg #[.int .i64 q.N, .int .i64 q.L, .slice q.o.A q.o.n q.o.c], .complex .f64 u v] wX (FindTo c 0 wX)) := fun wX hb => at_ok q.N q.L u v q.o q.l c wX (HGI.out wX hb) HM.out hp hf ⟨her, hea⟩
                  rw [← hkk] at hf
                  obtain ⟨bq, offq, aw, hAq, -, hfitq, hceq⟩ := (HGI.out w1 (Below.refl _ _)).get hf
                  have HFC : Hid (CrtFit c) := hfitq
                  have HAQ := Lib.hid hAq
                  have HCEQ := Lib.hid hceq
                  have k0 : (0 : Int) ≤ (k : Int) := by omega
                  have k1 : (k : Int) < (q.o.n : Int) := by omega
                  have k2 : ¬ ((k : Int) < 0) := by omega
                  clear hkk hk1 hkl hql hfitq hceq hf hAq hp her hea
                  generalize fint u = ru at HRP HRI
                  generalize fint v = rv at HRP HRI
                  go_upto_region 22 with (go_at_call 29; refine (HRP.out _).mono ?_; rintro e w3 ⟨rfl, rfl⟩)
                  obtain ⟨gw, hgw⟩ : ∃ gw, gw = w4.heap.size := ⟨_, rfl⟩
                  obtain ⟨w5, hw5⟩ : ∃ w5, w5 = w4.alloc (.cells (crtC zeroC6 zeroCA).toArray 45) := ⟨_, rfl⟩
                  obtain ⟨hb5, -, hx5⟩ := boxes1 w4 _ _ hw5
                  rw [← hgw] at hx5
                  have HGE : Hid (w4.heap.size = gw) := hgw.symm
                  have HW5 : Hid (w4.alloc (.cells #[.int .i64 0, .int .i64 0, .slice none 0 0, .slice none 0 0, .int .i64 0, .slice none 0 0] 45) = w5) := hw5.symm
                  rw [HGE.out, HW5.out]
                  have hb15 : Below w1.heap.size w1 w5 := hb14.trans (hb5.mono hb14.size)
                  have HX5 := Lib.hid hx5
                  have HGW1 : Hid (w1.heap.size ≤ gw) := by have := hb14.size; show _ ≤ _; omega
                  clear hgw hw5 hb5 hx5 e0 e1 e2 e3 e4 e5
                  obtain ⟨e0, e1, e2, e3, e4, e5⟩ := HD.out w5 hb15
                  go_upto_region 27 with (go_at_call 30; refine (HRI.out _ hb15).mono ?_; rintro e w6 ⟨rfl, hb56⟩)
                  have hb16 : Below w1.heap.size w1 w6 := hb15.trans (hb56.mono hb15.size)
                  have HW6 : Hid (Box w6 gw (crtC zeroC6 zeroCA)) := HX5.out.below hb56 HX5.out.1
                  clear e0 e1 e2 e3 e4 e5 HRI hb56 hb15 HRP
                  obtain ⟨d0, d1, d2, -, -, -⟩ := HD.out w6 hb16
                  rw [HAQ.out] at d2
                  obtain ⟨l0, l1, l2, l3, l4, l5, -⟩ := HCEQ.out w6 hb16
                  go_upto_region 29 with (refine wpList_store_box rfl 45 _ _ rfl gw 0 (crtC c aw) (crtC zeroC6 zeroCA) (crtC c aw) rfl rfl HW6.out (show 0 + 6 ≤ 6 by decide) rfl size_crt rfl ?_)
                  intro wb by9 T9
                  have t9 := T9 (fun k => k = gw) rfl
                  have hb1b : Below w1.heap.size w1 wb := hb16.trans (t9.below (fun k hk => by have e : k = gw := hk; rw [e]; exact HGW1.out) hb16.size)
                  have HWBX : Hid (Box wb gw (crtC c aw)) := by9
                  have HWC : Hid (CIn wb c aw) := (HCEQ.out wb hb1b).in_
                  clear d0 d1 d2 l0 l1 l2 l3 l4 l5 by9 T9 t9 HW6 hb16
                  obtain ⟨e0, e1, e2, -, -, -⟩ := HD.out wb hb1b
                  unfold FindTo at HAC
                  go_upto_region 30 with (go_at_call 31; refine (HAC.out _ hb1b).mono ?_; rintro e w8 ⟨ac, rfl, hn8, hb8⟩; dsimp only [crtV])
                  obtain ⟨gx, hgx⟩ : ∃ gx, gx = w8.heap.size := ⟨_, rfl⟩
                  obtain ⟨w10, hw10⟩ : ∃ w10, w10 = w8.alloc (.cells (crtC c ac).toArray 45) := ⟨_, rfl⟩
                  obtain ⟨hb810, -, hx10⟩ := boxes1 w8 _ _ hw10
                  rw [← hgx] at hx10
                  have HGXE : Hid (w8.heap.size = gx) := hgx.symm
                  have HWX : Hid (w8.alloc (.cells #[.int .i64 c.a, .int .i64 c.r, .slice ac.B.A ac.B.n ac.B.c, .slice ac.P.A ac.P.n ac.P.c, .int .i64 c.d, .slice ac.S.A ac.S.n ac.S.c] 45) = w10) := hw10.symm
                  rw [HGXE.out, HWX.out]
                  have hb18 : Below w1.heap.size w1 w8 := hb1b.trans (hb8.mono hb1b.size)
                  have hb110 : Below w1.heap.size w1 w10 := hb18.trans (hb810.mono hb18.size)
                  have hbb10 : Below wb.heap.size wb w10 := hb8.trans (hb810.mono hb8.size)
                  have HN10 : Hid (CNew w1.heap.size w10 c ac) := (hn8.below hb810).more hb1b.size
                  have HNLT : Hid (∀ k, ac.has k → w1.heap.size ≤ k ∧ k < gx) := fun k hk => by have h1 := hn8.lt hk; have := hb1b.size; have h3 : w8.heap.size = gx := hgx.symm; omega
                  have HX10 := Lib.hid hx10
                  obtain ⟨x0, x1, x2, x3, x4, x5⟩ := crt_cells hx10
                  obtain ⟨y0, y1, y2, y3, y4, y5⟩ := crt_cells (HWBX.out.below hbb10 HWBX.out.1)
                  have HEQ : Hid (Calls Try.prog 25 #[.agg #[.int .i64 c.a, .int .i64 c.r, .slice ac.B.A ac.B.n ac.B.c, .slice ac.P.A ac.P.n ac.P.c, .int .i64 c.d, .slice ac.S.A ac.S.n ac.S.c], .agg #[.int .i64 c.a, .int .i64 c.r, .slice aw.B.A aw.B.n aw.B.c, .slice aw.P.A aw.P.n aw.P.c, .int .i64 c.d, .slice aw.S.A aw.S.n aw.S.c]] w10 fun e w' => e = .returned (.bool true) ∧ Below w10.heap.size w10 w') := by
                    have := eqC_is c c ac aw w10 HN10.out.in_ HFC.out (HWC.out.below hbb10) HFC.out
                    rwa [decide_eq_true (rfl : c = c)] at this
                  clear e0 e1 e2 hgx hw10 hb810 hx10 hb18 hbb10 hn8 hb8 HAC
                  go_upto_region 32 with (first
                    | (go_at_call 25; refine HEQ.out.mono ?_; rintro e w12 ⟨rfl, hb12⟩)
                    | (go_at_call 15; refine (numY_any _ _).mono ?_; rintro e w11 ⟨rfl, rfl⟩))
                  clear x0 x1 x2 x3 x4 x5 y0 y1 y2 y3 y4 y5 HEQ
                  have hb112 : Below w1.heap.size w1 w12 := hb110.trans (hb12.mono hb110.size)
                  obtain ⟨f0, f1, f2, -, -, -⟩ := HD.out w12 hb112
                  have HCD : Hid (∀ wX, Below w1.heap.size w1 wX → Calls Try.prog 14 #[.agg #[.int .i64 q.N, .int .i64 q.L, .slice q.o.A q.o.n q.o.c]] wX (CopyDagTo q.N q.L q.l wX)) := fun wX hb => copyDag_is q.N q.L q.o q.l wX (HGI.out wX hb)
                  go_upto_region 33 with (go_at_call 14; refine (HCD.out _ hb112).mono ?_; rintro e w13 ⟨od, ms13, rfl, ho13, hm13, hb13⟩; dsimp only [dagV])
                  obtain ⟨gd, hgd⟩ : ∃ gd, gd = w13.heap.size := ⟨_, rfl⟩
                  obtain ⟨w14, hw14⟩ : ∃ w14, w14 = w13.alloc (.cells (dagC q.N q.L od).toArray 24) := ⟨_, rfl⟩
                  obtain ⟨hb1314, -, hx14⟩ := boxes1 w13 _ _ hw14
                  rw [← hgd] at hx14
                  have HGDE : Hid (w13.heap.size = gd) := hgd.symm
                  have HW14 : Hid (w13.alloc (.cells #[.int .i64 q.N, .int .i64 q.L, .slice od.A od.n od.c] 24) = w14) := hw14.symm
                  rw [HGDE.out, HW14.out]
                  have hbz : Below w12.heap.size w12 w14 := hb13.trans (hb1314.mono hb13.size)
                  have hb1014 : Below w10.heap.size w10 w14 := hb12.trans (hbz.mono hb12.size)
                  have hb114 : Below w1.heap.size w1 w14 := hb112.trans (hbz.mono hb112.size)
                  have HOD : Hid (OwnY w12.heap.size w14 od ms13) := ho13.below hb1314
                  have HMD : Hid (ms13.map Prod.fst = q.l) := hm13
                  have HX14 := Lib.hid hx14
                  have hcn := HN10.out.below hb1014
                  have hgx12 : gx < w12.heap.size := Nat.lt_of_lt_of_le HX10.out.1 hb12.size
                  have hgxd : gx < gd := by have := hb13.size; omega
                  have HSP := Lib.hid (spoilCert_far c.a c.r c.d ac.B.A ac.B.n ac.B.c c.B ac.P.A ac.P.n ac.P.c c.P ac.S.A ac.S.n ac.S.c c.S w1.heap.size w14 (by have := HFC.out.lB; have := hcn.lb; omega) hcn.b (by have := HFC.out.lP; have := hcn.lp; omega) hcn.p (by have := HFC.out.lS; have := hcn.ls; omega) hcn.s hcn.bp hcn.bs hcn.ps ac.has (fun j hj => hj))
                  obtain ⟨x0, x1, x2, x3, x4, x5⟩ := crt_cells (HX10.out.below hb1014 HX10.out.1)
                  clear f0 f1 f2 hgd hw14 hb1314 hx14 hb13 ho13 hm13 HCD hcn hbz hb1014
                  go_upto_region 34 with (go_at_call 32; refine HSP.out.mono ?_; rintro e w15 ⟨rfl, ht15⟩)
                  have hb115 : Below w1.heap.size w1 w15 := hb114.trans (ht15.below (fun k hk => (HNLT.out k hk).1) hb114.size)
                  obtain ⟨r0, r1, r2⟩ := dag_cells (HX14.out.touch ht15 (fun hk => by have := (HNLT.out _ hk).2; omega))
                  obtain ⟨s0, s1, s2, -, -, -⟩ := HD.out w15 hb115
                  have HED := Lib.hid (eqDagF_is q.N q.L od q.o q.l w15 (copyF_gin (HOD.out.touch ht15 (fun k hk => by have := (HNLT.out _ hk).2; omega)) HMD.out (fun x hx => (HGI.out _ hb115).fit hx) HLL.out) (HGI.out _ hb115))
                  clear x0 x1 x2 x3 x4 x5 ht15 HSP hb114 hb112 hb12 hb110
                  go_wp2_with (go_at_call 18; refine HED.out.mono ?_; rintro e w16 ⟨rfl, hb16⟩)
                  have HB16 : Hid (Below w1.heap.size w1 w16) := hb115.trans (hb16.mono hb115.size)
                  go_roundw
                  case rel => exact ⟨t + 1, by go_num, hlt, HB16.out⟩
                  case measure => simp [intOf]; omega
            · obtain rfl : t = q.op.n := by omega
              have i1 : ¬ ((q.op.n : Int) < (q.op.n : Int)) := by omega
              have hbr := HB.out.trans (HBT.out.mono (Nat.le_of_lt hgs))
              have hsr := HBT.out.size
              clear hlt
              go_wp2_with (go_at_call 21; refine (wakesY_any _).mono ?_; rintro e w5 ⟨rfl, hb5⟩)
              go_ret
              exact ⟨rfl, hbr.trans (hb5.mono (by omega))⟩
    · have HM : Hid (¬ MayG q.N q.L q.l) := hm
      clear hm
      go_wp2_with fail
      go_loopw [4] (fun i wr => ∃ t : Nat, i = .int .i64 t ∧ t ≤ q.oi.n ∧ Hid (Below w1.heap.size w1 wr)) (fun i _ => q.oi.n - (intOf i).toNat)
      case atStart => exact ⟨0, rfl, Nat.zero_le _, HB13.out⟩
      case round =>
        clear a0 a1 a2 a3 a4 a5 e0 e1 e2 e3 e4 e5
        obtain ⟨t, rfl, ht, HBT⟩ := hrel
        obtain ⟨e0, e1, e2, e3, e4, e5⟩ := HD.out wr HBT.out
        by_cases hlt : t < q.oi.n
        · have i0 : (0 : Int) ≤ (t : Int) := by omega
          have i1 : (t : Int) < (q.oi.n : Int) := by omega
          obtain ⟨za, hza⟩ : ∃ z, q.zs[t]? = some z := ⟨_, List.getElem?_eq_getElem (by rw [HLI.out]; exact hlt)⟩
          have HSI := Lib.hid (HQ.out w1 HB.out).i
          obtain ⟨b, off, hA, hbl, hcell⟩ := HSI.out.rd.open_ (by rw [i64s_length, HLI.out]; omega)
          have hca := hcell t (.int .i64 za) (by simp [i64s, hza])
          have HALL : Hid (∀ wX, Below w1.heap.size w1 wX → wX.cell? ⟨g, 0, none⟩ = some (.int .i64 q.N) ∧ wX.cell? ⟨g, 1, none⟩ = some (.int .i64 q.L) ∧ wX.cell? ⟨g, 2, none⟩ = some (.slice q.o.A q.o.n q.o.c) ∧ wX.cell? ⟨g, 4, none⟩ = some (.slice (some ⟨b, off, none⟩) q.oi.n q.oi.c) ∧ wX.cell? ⟨b, off + t, none⟩ = some (.int .i64 za)) := fun wX hb => by
            obtain ⟨c0, c1, c2, -, c4, -⟩ := HD.out wX hb
            rw [hA] at c4
            exact ⟨c0, c1, c2, c4, (hb.cell (p := ⟨b, off + t, none⟩) hbl).trans hca⟩
          clear hza hcell hA HSI hca
          go_upto_region 8 with fail
          clear e0 e1 e2 e3 e4 e5
          obtain ⟨gw, hgw⟩ : ∃ gw, gw = wr.heap.size := ⟨_, rfl⟩
          obtain ⟨w5, hw5⟩ : ∃ w5, w5 = wr.alloc (.cells (crtC zeroC6 zeroCA).toArray 45) := ⟨_, rfl⟩
          obtain ⟨hb5, -, hx5⟩ := boxes1 wr _ _ hw5
          rw [← hgw] at hx5
          have HGE : Hid (wr.heap.size = gw) := hgw.symm
          have HW5 : Hid (wr.alloc (.cells #[.int .i64 0, .int .i64 0, .slice none 0 0, .slice none 0 0, .int .i64 0, .slice none 0 0] 45) = w5) := hw5.symm
          rw [HGE.out, HW5.out]
          have hb15 : Below w1.heap.size w1 w5 := HBT.out.trans (hb5.mono HBT.out.size)
          have HX5 := Lib.hid hx5
          have HGW1 : Hid (w1.heap.size ≤ gw) := by have := HBT.out.size; show _ ≤ _; omega
          clear hgw hw5 hb5 hx5
          obtain ⟨zi, hzi⟩ : ∃ zi, zi = idxF (neD za) q.l := ⟨_, rfl⟩
          have HRI : Hid (∀ wX, Below w1.heap.size w1 wX → Calls Try.prog 27 #[.agg #[.int .i64 q.N, .int .i64 q.L, .slice q.o.A q.o.n q.o.c], .int .i64 za] wX (Tells wX.heap.size wX (.int .i64 zi))) := fun wX hb => by have := rFind_is q.N q.L za q.o q.l wX (HGI.out wX hb); rwa [← hzi] at this
          have HFI : Hid (∀ wX, Below w1.heap.size w1 wX → Calls Try.prog 28 #[.agg #[.int .i64 q.N, .int .i64 q.L, .slice q.o.A q.o.n q.o.c], .int .i64 za] wX (FindTo zeroC6 1 wX)) := fun wX hb => (find_bad q.N q.L za q.o q.l wX (HGI.out wX hb) HM.out).mono fun e w' h => findTo_err h
          clear hzi
          have p0 : ∀ z : Calm w5, z.val.cell? ⟨g, 0, none⟩ = some (.int .i64 q.N) := fun z => (HALL.out z.val (hb15.trans (z.ok.mono hb15.size))).1
          have p1 : ∀ z : Calm w5, z.val.cell? ⟨g, 1, none⟩ = some (.int .i64 q.L) := fun z => (HALL.out z.val (hb15.trans (z.ok.mono hb15.size))).2.1
          have p2 : ∀ z : Calm w5, z.val.cell? ⟨g, 2, none⟩ = some (.slice q.o.A q.o.n q.o.c) := fun z => (HALL.out z.val (hb15.trans (z.ok.mono hb15.size))).2.2.1
          have p3 : ∀ z : Calm w5, z.val.cell? ⟨g, 4, none⟩ = some (.slice (some ⟨b, off, none⟩) q.oi.n q.oi.c) := fun z => (HALL.out z.val (hb15.trans (z.ok.mono hb15.size))).2.2.2.1
          have p4 : ∀ z : Calm w5, z.val.cell? ⟨b, off + t, none⟩ = some (.int .i64 za) := fun z => (HALL.out z.val (hb15.trans (z.ok.mono hb15.size))).2.2.2.2
          refine wp_region_calm (by kernel_rfl) (by kernel_rfl) ?_
          repeat (go_big_quiet_step ((go_at_call 27; exact calm_tells (HRI.out _ (hb15.trans ((Calm.ok _).mono hb15.size))))))
          refine wpQuiet_nil ?_
          rintro _ ⟨z, rfl⟩
          obtain ⟨w6, hwz⟩ : ∃ wz, wz = z.val := ⟨_, rfl⟩
          have hb56 : Below w5.heap.size w5 w6 := by rw [hwz]; exact z.ok
          rw [← hwz]
          have hb16 : Below w1.heap.size w1 w6 := hb15.trans (hb56.mono hb15.size)
          have HW6 : Hid (Box w6 gw (crtC zeroC6 zeroCA)) := HX5.out.below hb56 HX5.out.1
          clear hwz z p0 p1 p2 p3 p4 HRI hb56
          obtain ⟨wb, hwb⟩ : ∃ wb, wb = w6 := ⟨_, rfl⟩
          have hb1b : Below w1.heap.size w1 wb := by rw [hwb]; exact hb16
          obtain ⟨c, hc⟩ : ∃ c, c = zeroC6 := ⟨_, rfl⟩
          obtain ⟨aw, haw⟩ : ∃ aw, aw = zeroCA := ⟨_, rfl⟩
          have HWBX : Hid (Box wb gw (crtC c aw)) := by show Box _ _ _; rw [hwb, hc, haw]; exact HW6.out
          have HWC : Hid (CIn wb c aw) := by show CIn _ _ _; rw [hc, haw]; exact cIn_zero _
          have HFC : Hid (CrtFit c) := by show CrtFit _; rw [hc]; exact fit_zero
          rw [← hc] at HFI
          rw [← hwb]
          clear hwb hc haw HW6 hb16
          go_upto_region 13 with fail
          have KEEP : Hid (∀ X, Below wb.heap.size wb X → X.cell? ⟨g, 0, none⟩ = some (.int .i64 q.N) ∧ X.cell? ⟨g, 1, none⟩ = some (.int .i64 q.L) ∧ X.cell? ⟨g, 2, none⟩ = some (.slice q.o.A q.o.n q.o.c) ∧ X.cell? ⟨g, 4, none⟩ = some (.slice (some ⟨b, off, none⟩) q.oi.n q.oi.c) ∧ X.cell? ⟨b, off + t, none⟩ = some (.int .i64 za)) := fun X hb => HALL.out X (hb1b.trans (hb.mono hb1b.size))
          obtain ⟨e0, e1, e2, e4, ec⟩ := KEEP.out wb (Below.refl _ _)
          unfold FindTo at HFI
          go_region_held3 (fun X => X.cell? ⟨g, 0, none⟩ = some (.int .i64 q.N) ∧ X.cell? ⟨g, 1, none⟩ = some (.int .i64 q.L) ∧ X.cell? ⟨g, 2, none⟩ = some (.slice q.o.A q.o.n q.o.c) ∧ X.cell? ⟨g, 4, none⟩ = some (.slice (some ⟨b, off, none⟩) q.oi.n q.oi.c) ∧ X.cell? ⟨b, off + t, none⟩ = some (.int .i64 za))
            ((refine KEEP.out _ ?_; first
              | with_reducible exact (Below.refl _ _)
              | with_reducible exact (Below.refl _ _).drew
              | with_reducible exact ((Below.refl _ _).alloc (Nat.le_refl _) _)
              | with_reducible exact ((Below.refl _ _).alloc (Nat.le_refl _) _).drew
              | with_reducible exact hbk8
              | with_reducible exact (hbk8.alloc hbk8.size _)
              | exact hbk9 _ _ _ _ _ _))
            (first
              | (go_at_call 28; refine (HFI.out _ ?_).mono ?_
                 · exact hb1b.trans ((Below.refl _ _).drew.mono hb1b.size)
                 rintro e w8 ⟨ac, rfl, hn8, hb8⟩; dsimp only [crtV]
                 have hbk8 : Below wb.heap.size wb w8 := (Below.refl _ _).drew.trans (hb8.mono (by simp)))
              | (go_at_call 28; refine (HFI.out _ ?_).mono ?_
                 · exact hb1b.trans (((Below.refl _ _).alloc (Nat.le_refl _) _).drew.mono hb1b.size)
                 rintro e w8 ⟨ac, rfl, hn8, hb8⟩; dsimp only [crtV]
                 have hbk8 : Below wb.heap.size wb w8 := ((Below.refl _ _).alloc (Nat.le_refl _) _).drew.trans (hb8.mono (by simp))
                 have hbk9 : ∀ v0 v1 v2 v3 v4 v5, Below wb.heap.size wb ((((((w8.setCell ⟨wb.heap.size, 0, none⟩ v0).setCell ⟨wb.heap.size, 1, none⟩ v1).setCell ⟨wb.heap.size, 2, none⟩ v2).setCell ⟨wb.heap.size, 3, none⟩ v3).setCell ⟨wb.heap.size, 4, none⟩ v4).setCell ⟨wb.heap.size, 5, none⟩ v5) := fun v0 v1 v2 v3 v4 v5 => ((((((hbk8.setCell (p := ⟨wb.heap.size, 0, none⟩) (Nat.le_refl _) v0).setCell (p := ⟨wb.heap.size, 1, none⟩) (Nat.le_refl _) v1).setCell (p := ⟨wb.heap.size, 2, none⟩) (Nat.le_refl _) v2).setCell (p := ⟨wb.heap.size, 3, none⟩) (Nat.le_refl _) v3).setCell (p := ⟨wb.heap.size, 4, none⟩) (Nat.le_refl _) v4).setCell (p := ⟨wb.heap.size, 5, none⟩) (Nat.le_refl _) v5)
                 have hbx : Box w8 wb.heap.size (crtC zeroC6 zeroCA) := ((box_new wb (crtC zeroC6 zeroCA) 45).below (Below.refl (wb.heap.size + 1) _).drew (Nat.lt_succ_self _)).below hb8 (by simp)
                 obtain ⟨b0, b1, b2, b3, b4, b5⟩ := crt_cells hbx
                 have f0 := (hbx.2 0 _ rfl).2
                 have f1 := (hbx.2 1 _ rfl).2
                 have f2 := (hbx.2 2 _ rfl).2
                 have f3 := (hbx.2 3 _ rfl).2
                 have f4 := (hbx.2 4 _ rfl).2
                 have f5 := (hbx.2 5 _ rfl).2))
          all_goals clear e0 e1 e2 e4 ec KEEP
          all_goals first
            | (obtain ⟨w10, hw10⟩ : ∃ w10, w10 = w8.alloc (.cells (crtC c ac).toArray 45) := ⟨_, rfl⟩
               have HWT : Hid (w8.alloc (.cells #[.int .i64 c.a, .int .i64 c.r, .slice ac.B.A ac.B.n ac.B.c, .slice ac.P.A ac.P.n ac.P.c, .int .i64 c.d, .slice ac.S.A ac.S.n ac.S.c] 45) = w10) := hw10.symm
               rw [HWT.out]
               have hb810 : Below w8.heap.size w8 w10 := by rw [hw10]; exact (Below.refl _ _).alloc (Nat.le_refl _) _
               have hbb10 : Below wb.heap.size wb w10 := hbk8.trans (hb810.mono hbk8.size)
               have hxb : Box w10 w8.heap.size (crtC c ac) := by rw [hw10]; exact box_new _ _ _
               obtain ⟨x0, x1, x2, x3, x4, x5⟩ := crt_cells hxb
               have HCX : Hid (CIn w10 c ac) := hn8.in_.below hb810
               clear hw10 hxb hb810 hb8 hn8)
            | (obtain ⟨w10, hw10⟩ : ∃ w10, w10 = ((((((w8.setCell ⟨wb.heap.size, 0, none⟩ (.int .i64 c.a)).setCell ⟨wb.heap.size, 1, none⟩ (.int .i64 c.r)).setCell ⟨wb.heap.size, 2, none⟩ (.slice ac.B.A ac.B.n ac.B.c)).setCell ⟨wb.heap.size, 3, none⟩ (.slice ac.P.A ac.P.n ac.P.c)).setCell ⟨wb.heap.size, 4, none⟩ (.int .i64 c.d)).setCell ⟨wb.heap.size, 5, none⟩ (.slice ac.S.A ac.S.n ac.S.c)) := ⟨_, rfl⟩
               have HWT : Hid (((((((w8.setCell ⟨wb.heap.size, 0, none⟩ (.int .i64 c.a)).setCell ⟨wb.heap.size, 1, none⟩ (.int .i64 c.r)).setCell ⟨wb.heap.size, 2, none⟩ (.slice ac.B.A ac.B.n ac.B.c)).setCell ⟨wb.heap.size, 3, none⟩ (.slice ac.P.A ac.P.n ac.P.c)).setCell ⟨wb.heap.size, 4, none⟩ (.int .i64 c.d)).setCell ⟨wb.heap.size, 5, none⟩ (.slice ac.S.A ac.S.n ac.S.c)) = w10) := hw10.symm
               rw [HWT.out]
               have hbb10 : Below wb.heap.size wb w10 := by rw [hw10]; exact hbk9 _ _ _ _ _ _
               have ht8 : Touch (fun k => k = wb.heap.size) w8 w10 := by rw [hw10]; exact (Touch.set (F := fun k => k = wb.heap.size) (Touch.set (F := fun k => k = wb.heap.size) (Touch.set (F := fun k => k = wb.heap.size) (Touch.set (F := fun k => k = wb.heap.size) (Touch.set (F := fun k => k = wb.heap.size) (Touch.set (F := fun k => k = wb.heap.size) (Touch.refl _ _) (.inl rfl) _) (.inl rfl) _) (.inl rfl) _) (.inl rfl) _) (.inl rfl) _) (.inl rfl) _)
               have hxb : Box w10 wb.heap.size (crtC c ac) := by rw [hw10]; exact ((((((hbx.set (j := 0) (show 0 < 6 by decide)).set (j := 1) (show 1 < 6 by decide)).set (j := 2) (show 2 < 6 by decide)).set (j := 3) (show 3 < 6 by decide)).set (j := 4) (show 4 < 6 by decide)).set (j := 5) (show 5 < 6 by decide))
               obtain ⟨x0, x1, x2, x3, x4, x5⟩ := crt_cells hxb
               have HCX : Hid (CIn w10 c ac) := (hn8.touch ht8 (fun k hk hh => by have e : k = wb.heap.size := hk; have := (hn8.lt hh).2; simp at this; omega)).in_
               clear hw10 hxb hb8 hbk9 hbx b0 b1 b2 b3 b4 b5 f0 f1 f2 f3 f4 f5 ht8 hn8)
          all_goals
            have hb110 : Below w1.heap.size w1 w10 := hb1b.trans (hbb10.mono hb1b.size)
            obtain ⟨y0, y1, y2, y3, y4, y5⟩ := crt_cells (HWBX.out.below hbb10 HWBX.out.1)
            have HEQ : Hid (Calls Try.prog 25 #[.agg #[.int .i64 c.a, .int .i64 c.r, .slice ac.B.A ac.B.n ac.B.c, .slice ac.P.A ac.P.n ac.P.c, .int .i64 c.d, .slice ac.S.A ac.S.n ac.S.c], .agg #[.int .i64 c.a, .int .i64 c.r, .slice aw.B.A aw.B.n aw.B.c, .slice aw.P.A aw.P.n aw.P.c, .int .i64 c.d, .slice aw.S.A aw.S.n aw.S.c]] w10 fun e w' => e = .returned (.bool true) ∧ Below w10.heap.size w10 w') := by
              have := eqC_is c c ac aw w10 HCX.out HFC.out (HWC.out.below hbb10) HFC.out
              rwa [decide_eq_true (rfl : c = c)] at this
            go_wp2_with (first
              | (go_at_call 25; refine HEQ.out.mono ?_; rintro e w12 ⟨rfl, hb12⟩)
              | (go_at_call 15; refine (numY_any _ _).mono ?_; rintro e w11 ⟨rfl, rfl⟩))
            have HB14 : Hid (Below w1.heap.size w1 w12) := hb110.trans (hb12.mono hb110.size)
            go_roundw
            case rel => exact ⟨t + 1, by go_num, hlt, HB14.out⟩
            case measure => simp [intOf]; omega
        · obtain rfl : t = q.oi.n := by omega
          have i1 : ¬ ((q.oi.n : Int) < (q.oi.n : Int)) := by omega
          clear hlt
          go_wp2_with fail
          go_loopw [10] (fun i wr => ∃ t : Nat, i = .int .i64 t ∧ t ≤ q.op.n ∧ Hid (Below w1.heap.size w1 wr)) (fun i _ => q.op.n - (intOf i).toNat)
          case atStart => exact ⟨0, rfl, Nat.zero_le _, HBT.out⟩
          case round =>
            clear HBT e0 e1 e2 e3 e4 e5
            obtain ⟨t, rfl, ht, HBT⟩ := hrel
            obtain ⟨e0, e1, e2, e3, e4, e5⟩ := HD.out wr HBT.out
            by_cases hlt : t < q.op.n
            · have i0 : (0 : Int) ≤ (t : Int) := by omega
              have i1 : (t : Int) < (q.op.n : Int) := by omega
              obtain ⟨⟨u, v⟩, huv⟩ : ∃ p, q.ps[t]? = some p := ⟨_, List.getElem?_eq_getElem (by rw [HLP.out]; exact hlt)⟩
              have HSP0 := Lib.hid (HQ.out w1 HB.out).p
              obtain ⟨q1, q2⟩ := pair_at huv
              obtain ⟨b, off, hA, hbl, hcell⟩ := HSP0.out.rd.open_ (by have := (List.getElem?_eq_some_iff.1 q1).1; omega)
              have hc1 := hcell _ _ q1
              have hc2 := hcell _ _ q2
              have HALL : Hid (∀ wX, Below w1.heap.size w1 wX → wX.cell? ⟨g, 5, none⟩ = some (.slice (some ⟨b, off, none⟩) q.op.n q.op.c) ∧ wX.cell? ⟨b, off + t * 2, none⟩ = some (.float .f64 u) ∧ wX.cell? ⟨b, off + t * 2 + 1, none⟩ = some (.float .f64 v)) := fun wX hb => by
                obtain ⟨-, -, -, -, -, c5⟩ := HD.out wX hb
                rw [hA] at c5
                exact ⟨c5, (hb.cell (p := ⟨b, off + t * 2, none⟩) hbl).trans hc1, (hb.cell (p := ⟨b, off + (t * 2 + 1), none⟩) hbl).trans hc2⟩
              have hb1r := HBT.out
              clear huv q1 q2 hcell hA HSP0 hc1 hc2 e0 e1 e2 e3 e4 e5
              obtain ⟨e5, e6, e7⟩ := HALL.out wr hb1r
              go_upto_region 19 with fail
              go_quiet (fail)
              obtain ⟨w4, hw4⟩ : ∃ w4, w4 = wr.drewN nq := ⟨_, rfl⟩
              have hb14 : Below w1.heap.size w1 w4 := by rw [hw4]; exact hb1r.trans ⟨rfl, rfl, rfl, Nat.le_refl _, fun _ _ => rfl⟩
              rw [← hw4]
              clear hw4 e5 e6 e7 hb1r HALL hbl
              obtain ⟨e0, e1, e2, e3, e4, e5⟩ := HD.out w4 hb14
              obtain ⟨r2, a2, ok, HRP⟩ : ∃ (r2 a2 : Int) (ok : Bool), Hid (∀ wX, Calls Try.prog 29 #[.complex .f64 u v] wX fun e w' => e = .returned (.tuple #[.int .i64 r2, .int .i64 a2, .bool ok]) ∧ wX = w') := by
                cases hp : Pl.isP u v
                · exact ⟨0, 0, false, fun wX => Pl.rparts_no u v hp wX⟩
                · exact ⟨fint u, fint v, true, fun wX => Pl.rparts_yes u v hp wX⟩
              obtain ⟨zi, hzi⟩ : ∃ zi, zi = idxF (neA r2 a2) q.l := ⟨_, rfl⟩
              have HRI : Hid (∀ wX, Below w1.heap.size w1 wX → Calls Try.prog 30 #[.agg #[.int .i64 q.N, .int .i64 q.L, .slice q.o.A q.o.n q.o.c], .int .i64 r2, .int .i64 a2] wX fun e w' => e = .returned (.int .i64 zi) ∧ Below wX.heap.size wX w') := fun wX hb => by have := rAt_is q.N q.L r2 a2 q.o q.l wX (HGI.out wX hb); rwa [← hzi] at this
              have HAC : Hid (∀ wX, Below w1.heap.size w1 wX → Calls Try.prog 31 #[.agg #[.int .i64 q.N, .int .i64 q.L, .slice q.o.A q.o.n q.o.c], .complex .f64 u v] wX (FindTo zeroC6 1 wX)) := fun wX hb => (at_bad q.N q.L u v q.o q.l wX (HGI.out wX hb) HM.out).mono fun e w' h => findTo_err h
              clear hzi
              go_upto_region 22 with (go_at_call 29; refine (HRP.out _).mono ?_; rintro e w3 ⟨rfl, rfl⟩)
              obtain ⟨gw, hgw⟩ : ∃ gw, gw = w4.heap.size := ⟨_, rfl⟩
              obtain ⟨w5, hw5⟩ : ∃ w5, w5 = w4.alloc (.cells (crtC zeroC6 zeroCA).toArray 45) := ⟨_, rfl⟩
              obtain ⟨hb5, -, hx5⟩ := boxes1 w4 _ _ hw5
              rw [← hgw] at hx5
              have HGE : Hid (w4.heap.size = gw) := hgw.symm
              have HW5 : Hid (w4.alloc (.cells #[.int .i64 0, .int .i64 0, .slice none 0 0, .slice none 0 0, .int .i64 0, .slice none 0 0] 45) = w5) := hw5.symm
              rw [HGE.out, HW5.out]
              have hb15 : Below w1.heap.size w1 w5 := hb14.trans (hb5.mono hb14.size)
              have HX5 := Lib.hid hx5
              have HGW1 : Hid (w1.heap.size ≤ gw) := by have := hb14.size; show _ ≤ _; omega
              clear hgw hw5 hb5 hx5 e0 e1 e2 e3 e4 e5
              obtain ⟨e0, e1, e2, e3, e4, e5⟩ := HD.out w5 hb15
              go_upto_region 29 with (go_at_call 30; refine (HRI.out _ hb15).mono ?_; rintro e w6 ⟨rfl, hb56⟩)
              have hb16 : Below w1.heap.size w1 w6 := hb15.trans (hb56.mono hb15.size)
              have HW6 : Hid (Box w6 gw (crtC zeroC6 zeroCA)) := HX5.out.below hb56 HX5.out.1
              clear e0 e1 e2 e3 e4 e5 HRI hb56 hb15 HRP
              obtain ⟨wb, hwb⟩ : ∃ wb, wb = w6 := ⟨_, rfl⟩
              have hb1b : Below w1.heap.size w1 wb := by rw [hwb]; exact hb16
              obtain ⟨c, hc⟩ : ∃ c, c = zeroC6 := ⟨_, rfl⟩
              obtain ⟨aw, haw⟩ : ∃ aw, aw = zeroCA := ⟨_, rfl⟩
              have HWBX : Hid (Box wb gw (crtC c aw)) := by show Box _ _ _; rw [hwb, hc, haw]; exact HW6.out
              have HWC : Hid (CIn wb c aw) := by show CIn _ _ _; rw [hc, haw]; exact cIn_zero _
              have HFC : Hid (CrtFit c) := by show CrtFit _; rw [hc]; exact fit_zero
              rw [← hc] at HAC
              rw [← hwb]
              clear hwb hc haw HW6 hb16
              obtain ⟨e0, e1, e2, -, -, -⟩ := HD.out wb hb1b
              unfold FindTo at HAC
              go_upto_region 30 with (go_at_call 31; refine (HAC.out _ hb1b).mono ?_; rintro e w8 ⟨ac, rfl, hn8, hb8⟩; dsimp only [crtV])
              obtain ⟨gx, hgx⟩ : ∃ gx, gx = w8.heap.size := ⟨_, rfl⟩
              obtain ⟨w10, hw10⟩ : ∃ w10, w10 = w8.alloc (.cells (crtC c ac).toArray 45) := ⟨_, rfl⟩
              obtain ⟨hb810, -, hx10⟩ := boxes1 w8 _ _ hw10
              rw [← hgx] at hx10
              have HGXE : Hid (w8.heap.size = gx) := hgx.symm
              have HWX : Hid (w8.alloc (.cells #[.int .i64 c.a, .int .i64 c.r, .slice ac.B.A ac.B.n ac.B.c, .slice ac.P.A ac.P.n ac.P.c, .int .i64 c.d, .slice ac.S.A ac.S.n ac.S.c] 45) = w10) := hw10.symm
              rw [HGXE.out, HWX.out]
              have hb18 : Below w1.heap.size w1 w8 := hb1b.trans (hb8.mono hb1b.size)
              have hb110 : Below w1.heap.size w1 w10 := hb18.trans (hb810.mono hb18.size)
              have hbb10 : Below wb.heap.size wb w10 := hb8.trans (hb810.mono hb8.size)
              have HN10 : Hid (CNew w1.heap.size w10 c ac) := (hn8.below hb810).more hb1b.size
              have HNLT : Hid (∀ k, ac.has k → w1.heap.size ≤ k ∧ k < gx) := fun k hk => by have h1 := hn8.lt hk; have := hb1b.size; have h3 : w8.heap.size = gx := hgx.symm; omega
              have HX10 := Lib.hid hx10
              obtain ⟨x0, x1, x2, x3, x4, x5⟩ := crt_cells hx10
              obtain ⟨y0, y1, y2, y3, y4, y5⟩ := crt_cells (HWBX.out.below hbb10 HWBX.out.1)
              have HEQ : Hid (Calls Try.prog 25 #[.agg #[.int .i64 c.a, .int .i64 c.r, .slice ac.B.A ac.B.n ac.B.c, .slice ac.P.A ac.P.n ac.P.c, .int .i64 c.d, .slice ac.S.A ac.S.n ac.S.c], .agg #[.int .i64 c.a, .int .i64 c.r, .slice aw.B.A aw.B.n aw.B.c, .slice aw.P.A aw.P.n aw.P.c, .int .i64 c.d, .slice aw.S.A aw.S.n aw.S.c]] w10 fun e w' => e = .returned (.bool true) ∧ Below w10.heap.size w10 w') := by
                have := eqC_is c c ac aw w10 HN10.out.in_ HFC.out (HWC.out.below hbb10) HFC.out
                rwa [decide_eq_true (rfl : c = c)] at this
              clear e0 e1 e2 hgx hw10 hb810 hx10 hb18 hbb10 hn8 hb8 HAC
              go_upto_region 32 with (first
                | (go_at_call 25; refine HEQ.out.mono ?_; rintro e w12 ⟨rfl, hb12⟩)
                | (go_at_call 15; refine (numY_any _ _).mono ?_; rintro e w11 ⟨rfl, rfl⟩))
              clear x0 x1 x2 x3 x4 x5 y0 y1 y2 y3 y4 y5 HEQ
              have hb112 : Below w1.heap.size w1 w12 := hb110.trans (hb12.mono hb110.size)
              obtain ⟨f0, f1, f2, -, -, -⟩ := HD.out w12 hb112
              have HCD : Hid (∀ wX, Below w1.heap.size w1 wX → Calls Try.prog 14 #[.agg #[.int .i64 q.N, .int .i64 q.L, .slice q.o.A q.o.n q.o.c]] wX (CopyDagTo q.N q.L q.l wX)) := fun wX hb => copyDag_is q.N q.L q.o q.l wX (HGI.out wX hb)
              go_upto_region 33 with (go_at_call 14; refine (HCD.out _ hb112).mono ?_; rintro e w13 ⟨od, ms13, rfl, ho13, hm13, hb13⟩; dsimp only [dagV])
              obtain ⟨gd, hgd⟩ : ∃ gd, gd = w13.heap.size := ⟨_, rfl⟩
              obtain ⟨w14, hw14⟩ : ∃ w14, w14 = w13.alloc (.cells (dagC q.N q.L od).toArray 24) := ⟨_, rfl⟩
              obtain ⟨hb1314, -, hx14⟩ := boxes1 w13 _ _ hw14
              rw [← hgd] at hx14
              have HGDE : Hid (w13.heap.size = gd) := hgd.symm
              have HW14 : Hid (w13.alloc (.cells #[.int .i64 q.N, .int .i64 q.L, .slice od.A od.n od.c] 24) = w14) := hw14.symm
              rw [HGDE.out, HW14.out]
              have hbz : Below w12.heap.size w12 w14 := hb13.trans (hb1314.mono hb13.size)
              have hb1014 : Below w10.heap.size w10 w14 := hb12.trans (hbz.mono hb12.size)
              have hb114 : Below w1.heap.size w1 w14 := hb112.trans (hbz.mono hb112.size)
              have HOD : Hid (OwnY w12.heap.size w14 od ms13) := ho13.below hb1314
              have HMD : Hid (ms13.map Prod.fst = q.l) := hm13
              have HX14 := Lib.hid hx14
              have hcn := HN10.out.below hb1014
              have hgx12 : gx < w12.heap.size := Nat.lt_of_lt_of_le HX10.out.1 hb12.size
              have hgxd : gx < gd := by have := hb13.size; omega
              have HSP := Lib.hid (spoilCert_far c.a c.r c.d ac.B.A ac.B.n ac.B.c c.B ac.P.A ac.P.n ac.P.c c.P ac.S.A ac.S.n ac.S.c c.S w1.heap.size w14 (by have := HFC.out.lB; have := hcn.lb; omega) hcn.b (by have := HFC.out.lP; have := hcn.lp; omega) hcn.p (by have := HFC.out.lS; have := hcn.ls; omega) hcn.s hcn.bp hcn.bs hcn.ps ac.has (fun j hj => hj))
              obtain ⟨x0, x1, x2, x3, x4, x5⟩ := crt_cells (HX10.out.below hb1014 HX10.out.1)
              clear f0 f1 f2 hgd hw14 hb1314 hx14 hb13 ho13 hm13 HCD hcn hbz hb1014
              go_upto_region 34 with (go_at_call 32; refine HSP.out.mono ?_; rintro e w15 ⟨rfl, ht15⟩)
              have hb115 : Below w1.heap.size w1 w15 := hb114.trans (ht15.below (fun k hk => (HNLT.out k hk).1) hb114.size)
              obtain ⟨r0, r1, r2⟩ := dag_cells (HX14.out.touch ht15 (fun hk => by have := (HNLT.out _ hk).2; omega))
              obtain ⟨s0, s1, s2, -, -, -⟩ := HD.out w15 hb115
              have HED := Lib.hid (eqDagF_is q.N q.L od q.o q.l w15 (copyF_gin (HOD.out.touch ht15 (fun k hk => by have := (HNLT.out _ hk).2; omega)) HMD.out (fun x hx => (HGI.out _ hb115).fit hx) HLL.out) (HGI.out _ hb115))
              clear x0 x1 x2 x3 x4 x5 ht15 HSP hb114 hb112 hb12 hb110
              go_wp2_with (go_at_call 18; refine HED.out.mono ?_; rintro e w16 ⟨rfl, hb16⟩)
              have HB16 : Hid (Below w1.heap.size w1 w16) := hb115.trans (hb16.mono hb115.size)
              go_roundw
              case rel => exact ⟨t + 1, by go_num, hlt, HB16.out⟩
              case measure => simp [intOf]; omega
            · obtain rfl : t = q.op.n := by omega
              have i1 : ¬ ((q.op.n : Int) < (q.op.n : Int)) := by omega
              have hbr := HB.out.trans (HBT.out.mono (Nat.le_of_lt hgs))
              have hsr := HBT.out.size
              clear hlt
              go_wp2_with (go_at_call 21; refine (wakesY_any _).mono ?_; rintro e w5 ⟨rfl, hb5⟩)
              go_ret
              exact ⟨rfl, hbr.trans (hb5.mono (by omega))⟩
  · go_wp2_with fail
    go_ret
    exact ⟨rfl, HB.out.trans (hb2.mono (Nat.le_of_lt hgs))⟩

end Go.Proofs.Ytfldfillcmamcaa
