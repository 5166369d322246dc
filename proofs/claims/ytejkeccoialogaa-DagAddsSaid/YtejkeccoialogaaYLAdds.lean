/-
  The walk of 'DagAdds'.
-/
import Derived.Test.YtejkeccoialogaaYNew
import Derived.Test.YtejkeccoialogaaYRRnd
import Derived.Test.YtejkeccoialogaaYAddP
import Derived.Test.YtejkeccoialogaaCalm
import Derived.Deep.RegionHeld3
namespace Go.Proofs.Ytejkeccoialogaa
open Go.RowKit

theorem gin_ownA {l : List CrtD} {B : Nat} {w : World} {o : Ad} {ms : List (CrtD × CrtA)} (h : OwnY B w o ms) (hm : ms.map Prod.fst = l) (hf : ∀ x ∈ l, CrtFit x) (hl : l.length ≤ 1000000) : GIn w o l := by
  have h1 : ms.length = l.length := by rw [← hm, List.length_map]
  exact ⟨ms, h.in_ (fun x hx => hf x.1 (by rw [← hm]; exact List.mem_map_of_mem hx)) (by omega), hm⟩
theorem eqDagA_is (N L : Int) (o o' : Ad) (l : List CrtD) (w : World) (h : GIn w o l) (h' : GIn w o' l) :
    Calls Try.prog 17 #[dagV N L o, dagV N L o'] w (Tells w.heap.size w (.bool true)) := by
  have := eqDag_is N L o l N L o' l w h h'
  rwa [decide_eq_true (And.intro rfl (And.intro rfl rfl))] at this
theorem eqCA_is (x : CrtD) (a a' : CrtA) (w : World) (hi : CIn w x a) (hj : CIn w x a') (hf : CrtFit x) : Calls Try.prog 18 #[crtV x a, crtV x a'] w (Tells w.heap.size w (.bool true)) := by
  have := eqC_is x x a a' w hi hf hj hf
  rwa [decide_eq_true rfl] at this
theorem numA_tells (n : Int) (w : World) : Calls Try.prog 16 #[.int .i64 n] w (Tells w.heap.size w (.int .i64 n)) :=
  (numY_any n w).mono fun e w' ⟨he, hw⟩ => ⟨he, by rw [← hw]; exact Below.refl _ _⟩
theorem fit_addC {l : List CrtD} {x : CrtD} (h : ∀ y ∈ l, CrtFit y) (hx : CrtFit x) : ∀ y ∈ addC l x, CrtFit y := fun y hy => by
  rcases mem_addC.1 hy with rfl | hy
  · exact hx
  · exact h y hy

set_option maxRecDepth 100000 in
set_option maxHeartbeats 8000000 in
theorem dagAdds_walk (q : AskD) (w : World) (h : AskIn w q) : Calls Try.prog 3 #[askV q] w fun e w' => e = .returned (.bool true) ∧ Below w.heap.size w w' := by
  obtain ⟨g, hg⟩ : ∃ g, g = w.heap.size := ⟨_, rfl⟩
  obtain ⟨w1, hw1⟩ : ∃ w1, w1 = w.alloc (.cells (askC q).toArray 28) := ⟨_, rfl⟩
  obtain ⟨hb1, hsz, hx0⟩ := boxes1 w _ _ hw1
  rw [← hg] at hb1 hsz hx0
  have HG : Hid (w.heap.size = g) := hg.symm
  have HW : Hid (w.alloc (.cells #[.int .i64 q.N, .int .i64 q.L, .slice q.o.A q.o.n q.o.c, .slice q.oc.A q.oc.n q.oc.c, .slice q.oi.A q.oi.n q.oi.c, .slice q.op.A q.op.n q.op.c] 28) = w1) := hw1.symm
  have HB := Lib.hid hb1
  have HX := Lib.hid hx0
  have HQ : Hid (∀ wX, Below g w wX → AskIn wX q) := fun wX hb => h.below (by rw [← hg]; exact hb)
  have HH := Lib.hid (heavy_is q w1 (h.below (by rw [← hg]; exact hb1)))
  have HD : Hid (∀ wX, Below w1.heap.size w1 wX → wX.cell? ⟨g, 0, none⟩ = some (.int .i64 q.N) ∧ wX.cell? ⟨g, 1, none⟩ = some (.int .i64 q.L) ∧ wX.cell? ⟨g, 2, none⟩ = some (.slice q.o.A q.o.n q.o.c) ∧ wX.cell? ⟨g, 3, none⟩ = some (.slice q.oc.A q.oc.n q.oc.c) ∧ wX.cell? ⟨g, 4, none⟩ = some (.slice q.oi.A q.oi.n q.oi.c) ∧ wX.cell? ⟨g, 5, none⟩ = some (.slice q.op.A q.op.n q.op.c)) := fun wX hb => ask_cells (HX.out.below hb HX.out.1)
  obtain ⟨a0, a1, a2, a3, a4, a5⟩ := ask_cells hx0
  have hgs := hx0.1
  clear hg hw1 hb1 hsz hx0 h
  rw [HG.out]
  unfold askV at HH ⊢
  go_enter Try.func3, Try.ntmps3
  go_upto_region 1 with fail
  rw [HG.out, HW.out]
  go_wp2_with (go_at_call 10; refine HH.out.mono ?_; rintro e w2 ⟨b, rfl, hlight, hb2⟩; obtain ⟨e0, e1, e2, e3, e4, e5⟩ := HD.out w2 hb2; cases b)
  · have hbw2 := HB.out.trans (hb2.mono (Nat.le_of_lt hgs))
    have HGI : Hid (∀ wX, Below w1.heap.size w1 wX → GIn wX q.o q.l) := fun wX hb => (HQ.out wX (HB.out.trans (hb.mono (Nat.le_of_lt hgs)))).d.gin (hlight (by simp)).d (by decide)
    have HGC : Hid (∀ wX, Below w1.heap.size w1 wX → GIn wX q.oc q.lc) := fun wX hb => (HQ.out wX (HB.out.trans (hb.mono (Nat.le_of_lt hgs)))).c.gin (hlight (by simp)).c (by decide)
    have hn40 : q.oi.n ≤ 40 := by have := (hlight (by simp)).i; have := (HQ.out _ hbw2).i.len; omega
    have hp40 : q.op.n ≤ 40 := by have := (hlight (by simp)).p; have := (HQ.out _ hbw2).p.len; omega
    have hc40 : q.oc.n ≤ 40 := by have := (hlight (by simp)).c.1; have := (HQ.out _ hbw2).c.row.len; omega
    have HLI : Hid (q.zs.length = q.oi.n) := (HQ.out _ hbw2).i.len
    have HLC : Hid (q.lc.length = q.oc.n) := (HGC.out _ hb2).len
    have HLL : Hid (q.l.length ≤ 1000000) := by have := (HGI.out _ hb2).len; have := (HGI.out _ hb2).few; show _ ≤ _; omega
    have HB12 := Lib.hid hb2
    have HL80 : Hid (q.l.length ≤ 80 + 0) := by show _ ≤ _; have := (hlight (by simp)).d.1; rw [AskD.l, List.length_map]; exact this
    clear hlight HH
    have HCD : Hid (∀ wX, Below w1.heap.size w1 wX → Calls Try.prog 11 #[.agg #[.int .i64 q.N, .int .i64 q.L, .slice q.o.A q.o.n q.o.c]] wX (CopyDagTo q.N q.L q.l wX)) := fun wX hb => copyDag_is q.N q.L q.o q.l wX (HGI.out wX hb)
    go_upto_region 4 with (go_at_call 11; refine (HCD.out _ hb2).mono ?_; rintro e w3 ⟨od0, ms0, rfl, ho0, hm0, hb3⟩; dsimp only [dagV])
    obtain ⟨gd, hgd⟩ : ∃ gd, gd = w3.heap.size := ⟨_, rfl⟩
    obtain ⟨w4, hw4⟩ : ∃ w4, w4 = w3.alloc (.cells (dagC q.N q.L od0).toArray 24) := ⟨_, rfl⟩
    obtain ⟨hb34, -, hx4⟩ := boxes1 w3 _ _ hw4
    rw [← hgd] at hx4
    have HGDE : Hid (w3.heap.size = gd) := hgd.symm
    have HW4 : Hid (w3.alloc (.cells #[.int .i64 q.N, .int .i64 q.L, .slice od0.A od0.n od0.c] 24) = w4) := hw4.symm
    rw [HGDE.out, HW4.out]
    have hb13 : Below w1.heap.size w1 w3 := hb2.trans (hb3.mono hb2.size)
    have hb14 : Below w1.heap.size w1 w4 := hb13.trans (hb34.mono hb13.size)
    have HGd1 : Hid (w1.heap.size ≤ gd) := by show _ ≤ _; rw [hgd]; exact hb13.size
    have HF0 : Hid (∀ y ∈ q.l, CrtFit y) := fun y hy => (HGI.out _ hb2).fit hy
    have hg4 : GIn w4 od0 q.l := (gin_ownA ho0 hm0 HF0.out HLL.out).below hb34
    have HCY := Lib.hid (chkY_is q.N q.L od0 q.l w4 hg4)
    unfold dagV at HCY
    have HX4 := Lib.hid hx4
    have HG4 := Lib.hid hg4
    obtain ⟨d0, d1, d2⟩ := dag_cells hx4
    clear e0 e1 e2 e3 e4 e5 hgd hw4 hb34 hx4 ho0 hm0 hb3 hb2 hb13 hg4 HCD
    go_upto_region 5 with (go_at_call 12; refine HCY.out.mono ?_; rintro e w5 ⟨z, rfl, hz, hb5⟩)
    have HX5 : Hid (Box w5 gd (dagC q.N q.L od0)) := HX4.out.below hb5 HX4.out.1
    have HG5 : Hid (GIn w5 od0 q.l) := HG4.out.below hb5
    have HB5 : Hid (Below w1.heap.size w1 w5) := hb14.trans (hb5.mono hb14.size)
    clear d0 d1 d2 hb5 hb14 HCY HX4 HG4
    rcases hz with ⟨hm, rfl⟩ | ⟨hm, rfl⟩
    · have HM : Hid (MayG q.N q.L q.l) := hm
      clear hm
      go_wp2_with fail
      go_loopw [5] (fun i wr => ∃ (t : Nat) (od : Ad) (ld : List CrtD), i = .int .i64 t ∧ t ≤ q.oc.n ∧ Hid (Box wr gd (dagC q.N q.L od)) ∧ Hid (GIn wr od ld) ∧ Hid (ld.length ≤ 80 + t) ∧ Hid (∀ y ∈ ld, CrtFit y) ∧ Hid (MayG q.N q.L ld) ∧ Hid (Below w1.heap.size w1 wr)) (fun i _ => q.oc.n - (intOf i).toNat)
      case atStart => exact ⟨0, od0, q.l, rfl, Nat.zero_le _, HX5.out, HG5.out, HL80.out, HF0.out, HM.out, HB5.out⟩
      case round =>
        clear a0 a1 a2 a3 a4 a5
        obtain ⟨t, od, ld, rfl, ht, HXd, HGd, HLD, HFIT, HMD, HB1r⟩ := hrel
        obtain ⟨e0, e1, e2, e3, e4, e5⟩ := HD.out wr HB1r.out
        by_cases hlt : t < q.oc.n
        · have i0 : (0 : Int) ≤ (t : Int) := by omega
          have i1 : (t : Int) < (q.oc.n : Int) := by omega
          obtain ⟨x, hx⟩ : ∃ x, q.lc[t]? = some x := ⟨_, List.getElem?_eq_getElem (by rw [HLC.out]; exact hlt)⟩
          obtain ⟨b, off, ax, hA, hbl, hfx, hce⟩ := (HGC.out w1 (Below.refl _ _)).get hx
          have HNB : Hid (b < w1.heap.size) := hbl
          have HFX := Lib.hid hfx
          have HCX : Hid (∀ wX, Below wr.heap.size wr wX → CIn wX x ax) := fun wX hb => (hce wX (HB1r.out.trans (hb.mono HB1r.out.size))).in_
          have HALL : Hid (∀ wX, Below wr.heap.size wr wX → wX.cell? ⟨gd, 0, none⟩ = some (.int .i64 q.N) ∧ wX.cell? ⟨gd, 1, none⟩ = some (.int .i64 q.L) ∧ wX.cell? ⟨gd, 2, none⟩ = some (.slice od.A od.n od.c) ∧ wX.cell? ⟨g, 3, none⟩ = some (.slice (some ⟨b, off, none⟩) q.oc.n q.oc.c) ∧ wX.cell? ⟨b, off + t * 6, none⟩ = some (.int .i64 x.a) ∧ wX.cell? ⟨b, off + t * 6 + 1, none⟩ = some (.int .i64 x.r) ∧ wX.cell? ⟨b, off + t * 6 + 2, none⟩ = some (.slice ax.B.A ax.B.n ax.B.c) ∧ wX.cell? ⟨b, off + t * 6 + 3, none⟩ = some (.slice ax.P.A ax.P.n ax.P.c) ∧ wX.cell? ⟨b, off + t * 6 + 4, none⟩ = some (.int .i64 x.d) ∧ wX.cell? ⟨b, off + t * 6 + 5, none⟩ = some (.slice ax.S.A ax.S.n ax.S.c)) := fun wX hb => by
            have hb1 := HB1r.out.trans (hb.mono HB1r.out.size)
            obtain ⟨c0, c1, c2, c3, c4, c5, -⟩ := hce wX hb1
            obtain ⟨k0, k1, k2⟩ := dag_cells (HXd.out.below hb HXd.out.1)
            have k3 := (HD.out wX hb1).2.2.2.1
            rw [hA] at k3
            exact ⟨k0, k1, k2, k3, c0, c1, c2, c3, c4, c5⟩
          have HCP : Hid (∀ wX, Below wr.heap.size wr wX → Calls Try.prog 11 #[.agg #[.int .i64 q.N, .int .i64 q.L, .slice od.A od.n od.c]] wX (CopyDagTo q.N q.L ld wX)) := fun wX hb => copyDag_is q.N q.L od ld wX (HGd.out.below hb)
          have HCC : Hid (∀ wX, Below wr.heap.size wr wX → Calls Try.prog 14 #[.agg #[.int .i64 x.a, .int .i64 x.r, .slice ax.B.A ax.B.n ax.B.c, .slice ax.P.A ax.P.n ax.P.c, .int .i64 x.d, .slice ax.S.A ax.S.n ax.S.c]] wX (CopyNew x wX)) := fun wX hb => copyCN_is x ax wX (HCX.out wX hb) HFX.out
          have hld : ld.length ≤ 200 := by have := HLD.out; omega
          clear hx hA hfx hce hbl
          have hld6 : ld.length < 65536 := by omega
          rcases add_both (x := x) HMD.out HFX.out hld6 with ⟨z, hz, HAC, HAP⟩ | ⟨hmw, HAC, HAP⟩
          · have HADD := Lib.hid HAC
            have HPG : Hid (∀ w, GIn w od ld → CIn w x ax → _) := fun w h1 h2 => HAP od ax w h1 h2
            have jz0 : (z == 0) = false := by simp [hz]
            have jz1 : (z != 0) = true := by simp [hz]
            clear HAC HAP hz
            unfold dagV crtV at HPG
            unfold RAddErr at HPG
            go_upto_region 10 with fail
            obtain ⟨gw, hgw⟩ : ∃ gw, gw = wr.heap.size := ⟨_, rfl⟩
            obtain ⟨wa, hwa⟩ : ∃ wa, wa = wr.alloc (.cells (dagC 0 0 noAd).toArray 24) := ⟨_, rfl⟩
            obtain ⟨hbra, hsa, hxa⟩ := boxes1 wr _ _ hwa
            rw [← hgw] at hxa
            have HGWE : Hid (wr.heap.size = gw) := hgw.symm
            have HGW0 : Hid (gw = wr.heap.size) := hgw
            have HWA : Hid (wr.alloc (.cells #[.int .i64 0, .int .i64 0, .slice none 0 0] 24) = wa) := hwa.symm
            rw [HGWE.out, HWA.out]
            have HXA := Lib.hid hxa
            clear hgw hwa hsa hxa e0 e1 e2 e3 e4 e5
            have HBB := Lib.hid hbra
            have KEEP : Hid (∀ wX, Below wa.heap.size wa wX → wX.cell? ⟨gd, 0, none⟩ = some (.int .i64 q.N) ∧ wX.cell? ⟨gd, 1, none⟩ = some (.int .i64 q.L) ∧ wX.cell? ⟨gd, 2, none⟩ = some (.slice od.A od.n od.c) ∧ wX.cell? ⟨g, 3, none⟩ = some (.slice (some ⟨b, off, none⟩) q.oc.n q.oc.c) ∧ wX.cell? ⟨b, off + t * 6, none⟩ = some (.int .i64 x.a) ∧ wX.cell? ⟨b, off + t * 6 + 1, none⟩ = some (.int .i64 x.r) ∧ wX.cell? ⟨b, off + t * 6 + 2, none⟩ = some (.slice ax.B.A ax.B.n ax.B.c) ∧ wX.cell? ⟨b, off + t * 6 + 3, none⟩ = some (.slice ax.P.A ax.P.n ax.P.c) ∧ wX.cell? ⟨b, off + t * 6 + 4, none⟩ = some (.int .i64 x.d) ∧ wX.cell? ⟨b, off + t * 6 + 5, none⟩ = some (.slice ax.S.A ax.S.n ax.S.c)) := fun wX hb => HALL.out wX (HBB.out.trans (hb.mono HBB.out.size))
            have HFAR : Hid (∀ (w2 : World) (u0 u1 u2 : Value), Below wa.heap.size wa w2 → (((w2.setCell ⟨gw, 0, none⟩ u0).setCell ⟨gw, 1, none⟩ u1).setCell ⟨gw, 2, none⟩ u2).cell? ⟨gd, 0, none⟩ = some (.int .i64 q.N) ∧ (((w2.setCell ⟨gw, 0, none⟩ u0).setCell ⟨gw, 1, none⟩ u1).setCell ⟨gw, 2, none⟩ u2).cell? ⟨gd, 1, none⟩ = some (.int .i64 q.L) ∧ (((w2.setCell ⟨gw, 0, none⟩ u0).setCell ⟨gw, 1, none⟩ u1).setCell ⟨gw, 2, none⟩ u2).cell? ⟨gd, 2, none⟩ = some (.slice od.A od.n od.c) ∧ (((w2.setCell ⟨gw, 0, none⟩ u0).setCell ⟨gw, 1, none⟩ u1).setCell ⟨gw, 2, none⟩ u2).cell? ⟨g, 3, none⟩ = some (.slice (some ⟨b, off, none⟩) q.oc.n q.oc.c) ∧ (((w2.setCell ⟨gw, 0, none⟩ u0).setCell ⟨gw, 1, none⟩ u1).setCell ⟨gw, 2, none⟩ u2).cell? ⟨b, off + t * 6, none⟩ = some (.int .i64 x.a) ∧ (((w2.setCell ⟨gw, 0, none⟩ u0).setCell ⟨gw, 1, none⟩ u1).setCell ⟨gw, 2, none⟩ u2).cell? ⟨b, off + t * 6 + 1, none⟩ = some (.int .i64 x.r) ∧ (((w2.setCell ⟨gw, 0, none⟩ u0).setCell ⟨gw, 1, none⟩ u1).setCell ⟨gw, 2, none⟩ u2).cell? ⟨b, off + t * 6 + 2, none⟩ = some (.slice ax.B.A ax.B.n ax.B.c) ∧ (((w2.setCell ⟨gw, 0, none⟩ u0).setCell ⟨gw, 1, none⟩ u1).setCell ⟨gw, 2, none⟩ u2).cell? ⟨b, off + t * 6 + 3, none⟩ = some (.slice ax.P.A ax.P.n ax.P.c) ∧ (((w2.setCell ⟨gw, 0, none⟩ u0).setCell ⟨gw, 1, none⟩ u1).setCell ⟨gw, 2, none⟩ u2).cell? ⟨b, off + t * 6 + 4, none⟩ = some (.int .i64 x.d) ∧ (((w2.setCell ⟨gw, 0, none⟩ u0).setCell ⟨gw, 1, none⟩ u1).setCell ⟨gw, 2, none⟩ u2).cell? ⟨b, off + t * 6 + 5, none⟩ = some (.slice ax.S.A ax.S.n ax.S.c)) := fun w2 u0 u1 u2 hb => by
              have ht : Touch (fun k => k = gw) w2 (((w2.setCell ⟨gw, 0, none⟩ u0).setCell ⟨gw, 1, none⟩ u1).setCell ⟨gw, 2, none⟩ u2) := Touch.set (F := fun k => k = gw) (Touch.set (F := fun k => k = gw) (Touch.set (F := fun k => k = gw) (Touch.refl _ _) (.inl rfl) _) (.inl rfl) _) (.inl rfl) _
              have hw2 : wr.heap.size ≤ w2.heap.size := by have := HBB.out.size; have := hb.size; omega
              have e1 : ∀ b' o', b' < wr.heap.size → (((w2.setCell ⟨gw, 0, none⟩ u0).setCell ⟨gw, 1, none⟩ u1).setCell ⟨gw, 2, none⟩ u2).cell? ⟨b', o', none⟩ = w2.cell? ⟨b', o', none⟩ := fun b' o' hl => ht.cell (b := b') (o := o') (by omega) (fun e => by have e : b' = gw := e; have := HGW0.out; omega)
              have l1 : g < wr.heap.size := by have := HB1r.out.size; omega
              have l2 : gd < wr.heap.size := HXd.out.1
              have l3 : b < wr.heap.size := by have := HNB.out; have := HB1r.out.size; omega
              obtain ⟨k0, k1, k2, k3, k4, k5, k6, k7, k8, k9⟩ := KEEP.out w2 hb
              exact ⟨(e1 _ _ l2).trans k0, (e1 _ _ l2).trans k1, (e1 _ _ l2).trans k2, (e1 _ _ l1).trans k3, (e1 _ _ l3).trans k4, (e1 _ _ l3).trans k5, (e1 _ _ l3).trans k6, (e1 _ _ l3).trans k7, (e1 _ _ l3).trans k8, (e1 _ _ l3).trans k9⟩
            obtain ⟨e0, e1, e2, e3, e4, e5, e6, e7, e8, e9⟩ := KEEP.out wa (Below.refl _ _)
            go_region_held3 (fun wX => wX.cell? ⟨gd, 0, none⟩ = some (.int .i64 q.N) ∧ wX.cell? ⟨gd, 1, none⟩ = some (.int .i64 q.L) ∧ wX.cell? ⟨gd, 2, none⟩ = some (.slice od.A od.n od.c) ∧ wX.cell? ⟨g, 3, none⟩ = some (.slice (some ⟨b, off, none⟩) q.oc.n q.oc.c) ∧ wX.cell? ⟨b, off + t * 6, none⟩ = some (.int .i64 x.a) ∧ wX.cell? ⟨b, off + t * 6 + 1, none⟩ = some (.int .i64 x.r) ∧ wX.cell? ⟨b, off + t * 6 + 2, none⟩ = some (.slice ax.B.A ax.B.n ax.B.c) ∧ wX.cell? ⟨b, off + t * 6 + 3, none⟩ = some (.slice ax.P.A ax.P.n ax.P.c) ∧ wX.cell? ⟨b, off + t * 6 + 4, none⟩ = some (.int .i64 x.d) ∧ wX.cell? ⟨b, off + t * 6 + 5, none⟩ = some (.slice ax.S.A ax.S.n ax.S.c))
              (first
                | (refine KEEP.out _ ?_; first
                  | with_reducible exact (Below.refl _ _)
                  | with_reducible exact (Below.refl _ _).drew
                  | with_reducible exact hbb2)
                | exact HFAR.out _ _ _ _ hbb2)
              (first
                | (go_at_call 13; refine (HPG.out _ ?_ ?_).mono ?_
                   · exact HGd.out.below (HBB.out.trans ((Below.refl _ _).drew.mono HBB.out.size))
                   · exact HCX.out _ (HBB.out.trans ((Below.refl _ _).drew.mono HBB.out.size))
                   rintro e w2p ⟨rfl, hb2p⟩
                   have hbb2 : Below wa.heap.size wa w2p := (Below.refl _ _).drew.trans (hb2p.mono (by simp))
                   dsimp only [dagV]
                   have hxw2 := HXA.out.below hbb2 HXA.out.1
                   obtain ⟨v0, v1, v2⟩ := dag_cells hxw2
                   have f0 := (hxw2.2 0 _ rfl).2
                   have f1 := (hxw2.2 1 _ rfl).2
                   have f2 := (hxw2.2 2 _ rfl).2))
            all_goals
              obtain ⟨w3p, hw3p⟩ : ∃ w3p, w3p = ((w2p.setCell ⟨gw, 0, none⟩ (.int .i64 q.N)).setCell ⟨gw, 1, none⟩ (.int .i64 q.L)).setCell ⟨gw, 2, none⟩ (.slice od.A od.n od.c) := ⟨_, rfl⟩
              rw [← hw3p]
              have hx3p : Box w3p gw (dagC q.N q.L od) := by rw [hw3p]; exact ((hxw2.set (j := 0) (show 0 < 3 by decide)).set (j := 1) (show 1 < 3 by decide)).set (j := 2) (show 2 < 3 by decide)
              have t3p : Touch (fun k => k = gw) w2p w3p := by rw [hw3p]; exact Touch.set (F := fun k => k = gw) (Touch.set (F := fun k => k = gw) (Touch.set (F := fun k => k = gw) (Touch.refl _ _) (.inl rfl) _) (.inl rfl) _) (.inl rfl) _
              have hbr3 : Below wr.heap.size wr w3p := (HBB.out.trans (hbb2.mono HBB.out.size)).trans (t3p.below (fun k hk => by have e : k = gw := hk; have := HGW0.out; omega) (by have := HBB.out.size; have := hbb2.size; omega))
              clear hw3p t3p hxw2 v0 v1 v2 f0 f1 f2 hbb2 hb2p KEEP HFAR
              obtain ⟨v0, v1, v2⟩ := dag_cells hx3p
              have f0 := (hx3p.2 0 _ rfl).2
              have f1 := (hx3p.2 1 _ rfl).2
              have f2 := (hx3p.2 2 _ rfl).2
              go_upto_region 13 with fail
              obtain ⟨wb, hwb⟩ : ∃ wb, wb = ((w3p.setCell ⟨gw, 0, none⟩ (.int .i64 0)).setCell ⟨gw, 1, none⟩ (.int .i64 0)).setCell ⟨gw, 2, none⟩ (.slice none 0 0) := ⟨_, rfl⟩
              rw [← hwb]
              have HXW : Hid (Box wb gw (dagC 0 0 noAd)) := by show Box _ _ _; rw [hwb]; exact ((hx3p.set (j := 0) (show 0 < 3 by decide)).set (j := 1) (show 1 < 3 by decide)).set (j := 2) (show 2 < 3 by decide)
              have hbrb : Below wr.heap.size wr wb := by rw [hwb]; exact ((hbr3.setCell (Nat.le_of_eq HGW0.out.symm) _).setCell (Nat.le_of_eq HGW0.out.symm) _).setCell (Nat.le_of_eq HGW0.out.symm) _
              clear hwb hx3p hbr3 v0 v1 v2 f0 f1 f2
              have HALLb : Hid (∀ wX, Below wb.heap.size wb wX → wX.cell? ⟨gd, 0, none⟩ = some (.int .i64 q.N) ∧ wX.cell? ⟨gd, 1, none⟩ = some (.int .i64 q.L) ∧ wX.cell? ⟨gd, 2, none⟩ = some (.slice od.A od.n od.c) ∧ wX.cell? ⟨g, 3, none⟩ = some (.slice (some ⟨b, off, none⟩) q.oc.n q.oc.c) ∧ wX.cell? ⟨b, off + t * 6, none⟩ = some (.int .i64 x.a) ∧ wX.cell? ⟨b, off + t * 6 + 1, none⟩ = some (.int .i64 x.r) ∧ wX.cell? ⟨b, off + t * 6 + 2, none⟩ = some (.slice ax.B.A ax.B.n ax.B.c) ∧ wX.cell? ⟨b, off + t * 6 + 3, none⟩ = some (.slice ax.P.A ax.P.n ax.P.c) ∧ wX.cell? ⟨b, off + t * 6 + 4, none⟩ = some (.int .i64 x.d) ∧ wX.cell? ⟨b, off + t * 6 + 5, none⟩ = some (.slice ax.S.A ax.S.n ax.S.c)) := fun wX hb => HALL.out wX (hbrb.trans (hb.mono hbrb.size))
              obtain ⟨e0, e1, e2, e3, e4, e5, e6, e7, e8, e9⟩ := HALLb.out wb (Below.refl _ _)
              go_upto_region 14 with (go_at_call 11; refine (HCP.out _ hbrb).mono ?_; rintro e w5 ⟨oi, msi, rfl, hoi, hmi, hb5⟩; dsimp only [dagV])
              obtain ⟨gi, hgi⟩ : ∃ gi, gi = w5.heap.size := ⟨_, rfl⟩
              obtain ⟨w6, hw6⟩ : ∃ w6, w6 = w5.alloc (.cells (dagC q.N q.L oi).toArray 24) := ⟨_, rfl⟩
              obtain ⟨hb56, hs56, hx6⟩ := boxes1 w5 _ _ hw6
              rw [← hgi] at hx6 hs56
              have HGIE : Hid (w5.heap.size = gi) := hgi.symm
              have HW6 : Hid (w5.alloc (.cells #[.int .i64 q.N, .int .i64 q.L, .slice oi.A oi.n oi.c] 24) = w6) := hw6.symm
              rw [HGIE.out, HW6.out]
              have hbb6 : Below wb.heap.size wb w6 := hb5.trans (hb56.mono hb5.size)
              have HGIN : Hid (GIn w6 oi ld) := (gin_ownA hoi hmi HFIT.out (by omega)).below hb56
              have HXI := Lib.hid hx6
              have HSI : Hid (w6.heap.size = gi + 1 ∧ wb.heap.size ≤ gi) := ⟨hs56, by rw [hgi]; exact hb5.size⟩
              clear hgi hw6 hb56 hs56 hx6 hb5 hoi hmi e0 e1 e2 e3 e4 e5 e6 e7 e8 e9
              obtain ⟨e0, e1, e2, e3, e4, e5, e6, e7, e8, e9⟩ := HALLb.out w6 hbb6
              go_upto_region 15 with (go_at_call 14; refine (HCC.out _ (hbrb.trans (hbb6.mono hbrb.size))).mono ?_; rintro e w7 ⟨ac, rfl, hnc, hb7⟩; dsimp only [crtV])
              obtain ⟨gc, hgc⟩ : ∃ gc, gc = w7.heap.size := ⟨_, rfl⟩
              obtain ⟨w8, hw8⟩ : ∃ w8, w8 = w7.alloc (.cells (crtC x ac).toArray 37) := ⟨_, rfl⟩
              obtain ⟨hb78, hs78, hx8⟩ := boxes1 w7 _ _ hw8
              rw [← hgc] at hx8 hs78
              have HGCE : Hid (w7.heap.size = gc) := hgc.symm
              have HW8 : Hid (w7.alloc (.cells #[.int .i64 x.a, .int .i64 x.r, .slice ac.B.A ac.B.n ac.B.c, .slice ac.P.A ac.P.n ac.P.c, .int .i64 x.d, .slice ac.S.A ac.S.n ac.S.c] 37) = w8) := hw8.symm
              rw [HGCE.out, HW8.out]
              have hb68 : Below w6.heap.size w6 w8 := hb7.trans (hb78.mono hb7.size)
              have hbb8 : Below wb.heap.size wb w8 := hbb6.trans (hb68.mono hbb6.size)
              have hbr8 : Below wr.heap.size wr w8 := hbrb.trans (hbb8.mono hbrb.size)
              have HCIN : Hid (CIn w8 x ac) := hnc.in_.below hb78
              have HGI8 : Hid (GIn w8 oi ld) := HGIN.out.below hb68
              have HALL8 : Hid (∀ wX, Below w8.heap.size w8 wX → wX.cell? ⟨gd, 0, none⟩ = some (.int .i64 q.N) ∧ wX.cell? ⟨gd, 1, none⟩ = some (.int .i64 q.L) ∧ wX.cell? ⟨gd, 2, none⟩ = some (.slice od.A od.n od.c) ∧ wX.cell? ⟨g, 3, none⟩ = some (.slice (some ⟨b, off, none⟩) q.oc.n q.oc.c) ∧ wX.cell? ⟨b, off + t * 6, none⟩ = some (.int .i64 x.a) ∧ wX.cell? ⟨b, off + t * 6 + 1, none⟩ = some (.int .i64 x.r) ∧ wX.cell? ⟨b, off + t * 6 + 2, none⟩ = some (.slice ax.B.A ax.B.n ax.B.c) ∧ wX.cell? ⟨b, off + t * 6 + 3, none⟩ = some (.slice ax.P.A ax.P.n ax.P.c) ∧ wX.cell? ⟨b, off + t * 6 + 4, none⟩ = some (.int .i64 x.d) ∧ wX.cell? ⟨b, off + t * 6 + 5, none⟩ = some (.slice ax.S.A ax.S.n ax.S.c) ∧ wX.cell? ⟨gw, 0, none⟩ = some (.int .i64 0) ∧ wX.cell? ⟨gw, 1, none⟩ = some (.int .i64 0) ∧ wX.cell? ⟨gw, 2, none⟩ = some (.slice none 0 0) ∧ wX.cell? ⟨gi, 0, none⟩ = some (.int .i64 q.N) ∧ wX.cell? ⟨gi, 1, none⟩ = some (.int .i64 q.L) ∧ wX.cell? ⟨gi, 2, none⟩ = some (.slice oi.A oi.n oi.c) ∧ wX.cell? ⟨gc, 0, none⟩ = some (.int .i64 x.a) ∧ wX.cell? ⟨gc, 1, none⟩ = some (.int .i64 x.r) ∧ wX.cell? ⟨gc, 2, none⟩ = some (.slice ac.B.A ac.B.n ac.B.c) ∧ wX.cell? ⟨gc, 3, none⟩ = some (.slice ac.P.A ac.P.n ac.P.c) ∧ wX.cell? ⟨gc, 4, none⟩ = some (.int .i64 x.d) ∧ wX.cell? ⟨gc, 5, none⟩ = some (.slice ac.S.A ac.S.n ac.S.c)) := fun wX hb => by
                obtain ⟨m0, m1, m2, m3, m4, m5, m6, m7, m8, m9⟩ := HALLb.out wX (hbb8.trans (hb.mono hbb8.size))
                obtain ⟨k0, k1, k2⟩ := dag_cells ((HXW.out.below (hbb8.trans (hb.mono hbb8.size)) HXW.out.1))
                obtain ⟨i0, i1, i2⟩ := dag_cells ((HXI.out.below (hb68.trans (hb.mono hb68.size)) HXI.out.1))
                obtain ⟨c0, c1, c2, c3, c4, c5⟩ := crt_cells (hx8.below hb hx8.1)
                exact ⟨m0, m1, m2, m3, m4, m5, m6, m7, m8, m9, k0, k1, k2, i0, i1, i2, c0, c1, c2, c3, c4, c5⟩
              have HB8 := Lib.hid hbr8
              clear hgc hw8 hb78 hs78 hx8 hb7 hnc hb68 hbb6 e0 e1 e2 e3 e4 e5 e6 e7 e8 e9
              obtain ⟨e0, e1, e2, e3, e4, e5, e6, e7, e8, e9, e10, e11, e12, e13, e14, e15, e16, e17, e18, e19, e20, e21⟩ := HALL8.out w8 (Below.refl _ _)
              have HAD := Lib.hid (HADD.out oi ac w8 HGI8.out HCIN.out)
              unfold dagV crtV at HAD
              go_upto_region 16 with (go_at_call 15; refine HAD.out.mono ?_; rintro e w9 ⟨rfl, hb9⟩; dsimp only [dagV, noAd])
              obtain ⟨gx, hgx⟩ : ∃ gx, gx = w9.heap.size := ⟨_, rfl⟩
              obtain ⟨w10, hw10⟩ : ∃ w10, w10 = w9.alloc (.cells (dagC 0 0 noAd).toArray 24) := ⟨_, rfl⟩
              obtain ⟨hb910, -, hx10⟩ := boxes1 w9 _ _ hw10
              rw [← hgx] at hx10
              have HGXE : Hid (w9.heap.size = gx) := hgx.symm
              have HW10 : Hid (w9.alloc (.cells #[.int .i64 0, .int .i64 0, .slice none 0 0] 24) = w10) := hw10.symm
              rw [HGXE.out, HW10.out]
              have hb810 : Below w8.heap.size w8 w10 := hb9.trans (hb910.mono hb9.size)
              have HE1 : Hid (∀ wX, Below w10.heap.size w10 wX → Calls Try.prog 17 #[.agg #[.int .i64 0, .int .i64 0, .slice none 0 0], .agg #[.int .i64 0, .int .i64 0, .slice none 0 0]] wX (Tells wX.heap.size wX (.bool true))) := fun wX hb => eqDagA_is 0 0 noAd noAd [] wX (gIn_none _) (gIn_none _)
              have HE2 : Hid (∀ wX, Below w8.heap.size w8 wX → Calls Try.prog 17 #[.agg #[.int .i64 q.N, .int .i64 q.L, .slice oi.A oi.n oi.c], .agg #[.int .i64 q.N, .int .i64 q.L, .slice od.A od.n od.c]] wX (Tells wX.heap.size wX (.bool true))) := fun wX hb => eqDagA_is q.N q.L oi od ld wX (HGI8.out.below hb) (HGd.out.below (HB8.out.trans (hb.mono HB8.out.size)))
              have HE3 : Hid (∀ wX, Below w8.heap.size w8 wX → Calls Try.prog 18 #[.agg #[.int .i64 x.a, .int .i64 x.r, .slice ac.B.A ac.B.n ac.B.c, .slice ac.P.A ac.P.n ac.P.c, .int .i64 x.d, .slice ac.S.A ac.S.n ac.S.c], .agg #[.int .i64 x.a, .int .i64 x.r, .slice ax.B.A ax.B.n ax.B.c, .slice ax.P.A ax.P.n ax.P.c, .int .i64 x.d, .slice ax.S.A ax.S.n ax.S.c]] wX (Tells wX.heap.size wX (.bool true))) := fun wX hb => eqCA_is x ac ax wX (HCIN.out.below hb) (HCX.out wX (HB8.out.trans (hb.mono HB8.out.size))) HFX.out
              have HX10 := Lib.hid hx10
              have HB810 := Lib.hid hb810
              clear hgx hw10 hb910 hx10 hb9 e0 e1 e2 e3 e4 e5 e6 e7 e8 e9 e10 e11 e12 e13 e14 e15 e16 e17 e18 e19 e20 e21
              have p0 : ∀ z : Calm w10, z.val.cell? ⟨gd, 0, none⟩ = some (.int .i64 q.N) := fun z => (HALL8.out z.val (HB810.out.trans (z.ok.mono HB810.out.size))).1
              have p1 : ∀ z : Calm w10, z.val.cell? ⟨gd, 1, none⟩ = some (.int .i64 q.L) := fun z => (HALL8.out z.val (HB810.out.trans (z.ok.mono HB810.out.size))).2.1
              have p2 : ∀ z : Calm w10, z.val.cell? ⟨gd, 2, none⟩ = some (.slice od.A od.n od.c) := fun z => (HALL8.out z.val (HB810.out.trans (z.ok.mono HB810.out.size))).2.2.1
              have p3 : ∀ z : Calm w10, z.val.cell? ⟨g, 3, none⟩ = some (.slice (some ⟨b, off, none⟩) q.oc.n q.oc.c) := fun z => (HALL8.out z.val (HB810.out.trans (z.ok.mono HB810.out.size))).2.2.2.1
              have p4 : ∀ z : Calm w10, z.val.cell? ⟨b, off + t * 6, none⟩ = some (.int .i64 x.a) := fun z => (HALL8.out z.val (HB810.out.trans (z.ok.mono HB810.out.size))).2.2.2.2.1
              have p5 : ∀ z : Calm w10, z.val.cell? ⟨b, off + t * 6 + 1, none⟩ = some (.int .i64 x.r) := fun z => (HALL8.out z.val (HB810.out.trans (z.ok.mono HB810.out.size))).2.2.2.2.2.1
              have p6 : ∀ z : Calm w10, z.val.cell? ⟨b, off + t * 6 + 2, none⟩ = some (.slice ax.B.A ax.B.n ax.B.c) := fun z => (HALL8.out z.val (HB810.out.trans (z.ok.mono HB810.out.size))).2.2.2.2.2.2.1
              have p7 : ∀ z : Calm w10, z.val.cell? ⟨b, off + t * 6 + 3, none⟩ = some (.slice ax.P.A ax.P.n ax.P.c) := fun z => (HALL8.out z.val (HB810.out.trans (z.ok.mono HB810.out.size))).2.2.2.2.2.2.2.1
              have p8 : ∀ z : Calm w10, z.val.cell? ⟨b, off + t * 6 + 4, none⟩ = some (.int .i64 x.d) := fun z => (HALL8.out z.val (HB810.out.trans (z.ok.mono HB810.out.size))).2.2.2.2.2.2.2.2.1
              have p9 : ∀ z : Calm w10, z.val.cell? ⟨b, off + t * 6 + 5, none⟩ = some (.slice ax.S.A ax.S.n ax.S.c) := fun z => (HALL8.out z.val (HB810.out.trans (z.ok.mono HB810.out.size))).2.2.2.2.2.2.2.2.2.1
              have p10 : ∀ z : Calm w10, z.val.cell? ⟨gw, 0, none⟩ = some (.int .i64 0) := fun z => (HALL8.out z.val (HB810.out.trans (z.ok.mono HB810.out.size))).2.2.2.2.2.2.2.2.2.2.1
              have p11 : ∀ z : Calm w10, z.val.cell? ⟨gw, 1, none⟩ = some (.int .i64 0) := fun z => (HALL8.out z.val (HB810.out.trans (z.ok.mono HB810.out.size))).2.2.2.2.2.2.2.2.2.2.2.1
              have p12 : ∀ z : Calm w10, z.val.cell? ⟨gw, 2, none⟩ = some (.slice none 0 0) := fun z => (HALL8.out z.val (HB810.out.trans (z.ok.mono HB810.out.size))).2.2.2.2.2.2.2.2.2.2.2.2.1
              have p13 : ∀ z : Calm w10, z.val.cell? ⟨gi, 0, none⟩ = some (.int .i64 q.N) := fun z => (HALL8.out z.val (HB810.out.trans (z.ok.mono HB810.out.size))).2.2.2.2.2.2.2.2.2.2.2.2.2.1
              have p14 : ∀ z : Calm w10, z.val.cell? ⟨gi, 1, none⟩ = some (.int .i64 q.L) := fun z => (HALL8.out z.val (HB810.out.trans (z.ok.mono HB810.out.size))).2.2.2.2.2.2.2.2.2.2.2.2.2.2.1
              have p15 : ∀ z : Calm w10, z.val.cell? ⟨gi, 2, none⟩ = some (.slice oi.A oi.n oi.c) := fun z => (HALL8.out z.val (HB810.out.trans (z.ok.mono HB810.out.size))).2.2.2.2.2.2.2.2.2.2.2.2.2.2.2.1
              have p16 : ∀ z : Calm w10, z.val.cell? ⟨gc, 0, none⟩ = some (.int .i64 x.a) := fun z => (HALL8.out z.val (HB810.out.trans (z.ok.mono HB810.out.size))).2.2.2.2.2.2.2.2.2.2.2.2.2.2.2.2.1
              have p17 : ∀ z : Calm w10, z.val.cell? ⟨gc, 1, none⟩ = some (.int .i64 x.r) := fun z => (HALL8.out z.val (HB810.out.trans (z.ok.mono HB810.out.size))).2.2.2.2.2.2.2.2.2.2.2.2.2.2.2.2.2.1
              have p18 : ∀ z : Calm w10, z.val.cell? ⟨gc, 2, none⟩ = some (.slice ac.B.A ac.B.n ac.B.c) := fun z => (HALL8.out z.val (HB810.out.trans (z.ok.mono HB810.out.size))).2.2.2.2.2.2.2.2.2.2.2.2.2.2.2.2.2.2.1
              have p19 : ∀ z : Calm w10, z.val.cell? ⟨gc, 3, none⟩ = some (.slice ac.P.A ac.P.n ac.P.c) := fun z => (HALL8.out z.val (HB810.out.trans (z.ok.mono HB810.out.size))).2.2.2.2.2.2.2.2.2.2.2.2.2.2.2.2.2.2.2.1
              have p20 : ∀ z : Calm w10, z.val.cell? ⟨gc, 4, none⟩ = some (.int .i64 x.d) := fun z => (HALL8.out z.val (HB810.out.trans (z.ok.mono HB810.out.size))).2.2.2.2.2.2.2.2.2.2.2.2.2.2.2.2.2.2.2.2.1
              have p21 : ∀ z : Calm w10, z.val.cell? ⟨gc, 5, none⟩ = some (.slice ac.S.A ac.S.n ac.S.c) := fun z => (HALL8.out z.val (HB810.out.trans (z.ok.mono HB810.out.size))).2.2.2.2.2.2.2.2.2.2.2.2.2.2.2.2.2.2.2.2.2
              have y0 : ∀ z : Calm w10, z.val.cell? ⟨gx, 0, none⟩ = some (.int .i64 0) := fun z => (dag_cells (HX10.out.below z.ok HX10.out.1)).1
              have y1 : ∀ z : Calm w10, z.val.cell? ⟨gx, 1, none⟩ = some (.int .i64 0) := fun z => (dag_cells (HX10.out.below z.ok HX10.out.1)).2.1
              have y2 : ∀ z : Calm w10, z.val.cell? ⟨gx, 2, none⟩ = some (.slice none 0 0) := fun z => (dag_cells (HX10.out.below z.ok HX10.out.1)).2.2
              refine wp_region_calm (by kernel_rfl) (by kernel_rfl) ?_
              repeat (go_big_quiet_step (first
                | (go_at_call 16; exact calm_tells (numA_tells _ _))
                | (go_at_call 17; with_reducible exact calm_tells (HE1.out _ (Calm.ok _)))
                | (go_at_call 17; with_reducible exact calm_tells (HE2.out _ (HB810.out.trans ((Calm.ok _).mono HB810.out.size))))
                | (go_at_call 18; with_reducible exact calm_tells (HE3.out _ (HB810.out.trans ((Calm.ok _).mono HB810.out.size))))))
              refine wpQuiet_nil ?_
              rintro _ ⟨z, rfl⟩
              obtain ⟨w11, hwz⟩ : ∃ wz, wz = z.val := ⟨_, rfl⟩
              have hb1011 : Below w10.heap.size w10 w11 := by rw [hwz]; exact z.ok
              rw [← hwz]
              clear hwz z p0 p1 p2 p3 p4 p5 p6 p7 p8 p9 p10 p11 p12 p13 p14 p15 p16 p17 p18 p19 p20 p21 y0 y1 y2
              have hb811 : Below w8.heap.size w8 w11 := HB810.out.trans (hb1011.mono HB810.out.size)
              obtain ⟨x0, x1, x2⟩ := dag_cells (HX10.out.below hb1011 HX10.out.1)
              have HSP := Lib.hid (spoilCerts_any w8.heap.size noAd [] w11 (ownY_none _ _) (fun y hy => by simp at hy) (by simp) hb811.size)
              unfold noAd at HSP
              go_upto_region 19 with (go_at_call 19; refine HSP.out.mono ?_; rintro e w12 ⟨rfl, hb12⟩)
              have hb812 : Below w8.heap.size w8 w12 := hb811.trans hb12
              clear x0 x1 x2 hb12 hb1011 hb811
              have p0 : ∀ z : Calm w12, z.val.cell? ⟨gd, 0, none⟩ = some (.int .i64 q.N) := fun z => (HALL8.out z.val (hb812.trans (z.ok.mono hb812.size))).1
              have p1 : ∀ z : Calm w12, z.val.cell? ⟨gd, 1, none⟩ = some (.int .i64 q.L) := fun z => (HALL8.out z.val (hb812.trans (z.ok.mono hb812.size))).2.1
              have p2 : ∀ z : Calm w12, z.val.cell? ⟨gd, 2, none⟩ = some (.slice od.A od.n od.c) := fun z => (HALL8.out z.val (hb812.trans (z.ok.mono hb812.size))).2.2.1
              have p3 : ∀ z : Calm w12, z.val.cell? ⟨g, 3, none⟩ = some (.slice (some ⟨b, off, none⟩) q.oc.n q.oc.c) := fun z => (HALL8.out z.val (hb812.trans (z.ok.mono hb812.size))).2.2.2.1
              have p4 : ∀ z : Calm w12, z.val.cell? ⟨b, off + t * 6, none⟩ = some (.int .i64 x.a) := fun z => (HALL8.out z.val (hb812.trans (z.ok.mono hb812.size))).2.2.2.2.1
              have p5 : ∀ z : Calm w12, z.val.cell? ⟨b, off + t * 6 + 1, none⟩ = some (.int .i64 x.r) := fun z => (HALL8.out z.val (hb812.trans (z.ok.mono hb812.size))).2.2.2.2.2.1
              have p6 : ∀ z : Calm w12, z.val.cell? ⟨b, off + t * 6 + 2, none⟩ = some (.slice ax.B.A ax.B.n ax.B.c) := fun z => (HALL8.out z.val (hb812.trans (z.ok.mono hb812.size))).2.2.2.2.2.2.1
              have p7 : ∀ z : Calm w12, z.val.cell? ⟨b, off + t * 6 + 3, none⟩ = some (.slice ax.P.A ax.P.n ax.P.c) := fun z => (HALL8.out z.val (hb812.trans (z.ok.mono hb812.size))).2.2.2.2.2.2.2.1
              have p8 : ∀ z : Calm w12, z.val.cell? ⟨b, off + t * 6 + 4, none⟩ = some (.int .i64 x.d) := fun z => (HALL8.out z.val (hb812.trans (z.ok.mono hb812.size))).2.2.2.2.2.2.2.2.1
              have p9 : ∀ z : Calm w12, z.val.cell? ⟨b, off + t * 6 + 5, none⟩ = some (.slice ax.S.A ax.S.n ax.S.c) := fun z => (HALL8.out z.val (hb812.trans (z.ok.mono hb812.size))).2.2.2.2.2.2.2.2.2.1
              have p10 : ∀ z : Calm w12, z.val.cell? ⟨gw, 0, none⟩ = some (.int .i64 0) := fun z => (HALL8.out z.val (hb812.trans (z.ok.mono hb812.size))).2.2.2.2.2.2.2.2.2.2.1
              have p11 : ∀ z : Calm w12, z.val.cell? ⟨gw, 1, none⟩ = some (.int .i64 0) := fun z => (HALL8.out z.val (hb812.trans (z.ok.mono hb812.size))).2.2.2.2.2.2.2.2.2.2.2.1
              have p12 : ∀ z : Calm w12, z.val.cell? ⟨gw, 2, none⟩ = some (.slice none 0 0) := fun z => (HALL8.out z.val (hb812.trans (z.ok.mono hb812.size))).2.2.2.2.2.2.2.2.2.2.2.2.1
              have p13 : ∀ z : Calm w12, z.val.cell? ⟨gi, 0, none⟩ = some (.int .i64 q.N) := fun z => (HALL8.out z.val (hb812.trans (z.ok.mono hb812.size))).2.2.2.2.2.2.2.2.2.2.2.2.2.1
              have p14 : ∀ z : Calm w12, z.val.cell? ⟨gi, 1, none⟩ = some (.int .i64 q.L) := fun z => (HALL8.out z.val (hb812.trans (z.ok.mono hb812.size))).2.2.2.2.2.2.2.2.2.2.2.2.2.2.1
              have p15 : ∀ z : Calm w12, z.val.cell? ⟨gi, 2, none⟩ = some (.slice oi.A oi.n oi.c) := fun z => (HALL8.out z.val (hb812.trans (z.ok.mono hb812.size))).2.2.2.2.2.2.2.2.2.2.2.2.2.2.2.1
              have p16 : ∀ z : Calm w12, z.val.cell? ⟨gc, 0, none⟩ = some (.int .i64 x.a) := fun z => (HALL8.out z.val (hb812.trans (z.ok.mono hb812.size))).2.2.2.2.2.2.2.2.2.2.2.2.2.2.2.2.1
              have p17 : ∀ z : Calm w12, z.val.cell? ⟨gc, 1, none⟩ = some (.int .i64 x.r) := fun z => (HALL8.out z.val (hb812.trans (z.ok.mono hb812.size))).2.2.2.2.2.2.2.2.2.2.2.2.2.2.2.2.2.1
              have p18 : ∀ z : Calm w12, z.val.cell? ⟨gc, 2, none⟩ = some (.slice ac.B.A ac.B.n ac.B.c) := fun z => (HALL8.out z.val (hb812.trans (z.ok.mono hb812.size))).2.2.2.2.2.2.2.2.2.2.2.2.2.2.2.2.2.2.1
              have p19 : ∀ z : Calm w12, z.val.cell? ⟨gc, 3, none⟩ = some (.slice ac.P.A ac.P.n ac.P.c) := fun z => (HALL8.out z.val (hb812.trans (z.ok.mono hb812.size))).2.2.2.2.2.2.2.2.2.2.2.2.2.2.2.2.2.2.2.1
              have p20 : ∀ z : Calm w12, z.val.cell? ⟨gc, 4, none⟩ = some (.int .i64 x.d) := fun z => (HALL8.out z.val (hb812.trans (z.ok.mono hb812.size))).2.2.2.2.2.2.2.2.2.2.2.2.2.2.2.2.2.2.2.2.1
              have p21 : ∀ z : Calm w12, z.val.cell? ⟨gc, 5, none⟩ = some (.slice ac.S.A ac.S.n ac.S.c) := fun z => (HALL8.out z.val (hb812.trans (z.ok.mono hb812.size))).2.2.2.2.2.2.2.2.2.2.2.2.2.2.2.2.2.2.2.2.2
              refine wp_region_calm (by kernel_rfl) (by kernel_rfl) ?_
              repeat (go_big_quiet_step (first
                | (go_at_call 17; with_reducible exact calm_tells (HE2.out _ (hb812.trans ((Calm.ok _).mono hb812.size))))
                | (go_at_call 18; with_reducible exact calm_tells (HE3.out _ (hb812.trans ((Calm.ok _).mono hb812.size))))))
              refine wpQuiet_nil ?_
              rintro _ ⟨z, rfl⟩
              obtain ⟨w13, hwz⟩ : ∃ wz, wz = z.val := ⟨_, rfl⟩
              have hb813 : Below w8.heap.size w8 w13 := by rw [hwz]; exact hb812.trans (z.ok.mono hb812.size)
              rw [← hwz]
              clear hwz z p0 p1 p2 p3 p4 p5 p6 p7 p8 p9 p10 p11 p12 p13 p14 p15 p16 p17 p18 p19 p20 p21
              have HBR13 : Hid (Below wr.heap.size wr w13) := HB8.out.trans (hb813.mono HB8.out.size)
              have HB15 : Hid (Below w1.heap.size w1 w13) := HB1r.out.trans (HBR13.out.mono HB1r.out.size)
              go_wp2_with fail
              go_roundw
              case rel => exact ⟨t + 1, od, ld, by go_num, hlt, HXd.out.below HBR13.out HXd.out.1, HGd.out.below HBR13.out, by show _ ≤ _; have := HLD.out; omega, HFIT.out, HMD.out, HB15.out⟩
              case measure => simp [intOf]; omega
          · obtain ⟨lw, hlw⟩ : ∃ lw, lw = addC ld x := ⟨_, rfl⟩
            have HMW : Hid (MayG q.N q.L lw) := by show MayG _ _ _; rw [hlw]; exact hmw
            have HLDN : Hid (lw.length ≤ 80 + (t + 1)) := by show _ ≤ _; rw [hlw, len_addC]; have := HLD.out; omega
            have HLW : Hid (lw.length ≤ 1000000) := by have := HLDN.out; show _ ≤ _; omega
            have HFIW : Hid (∀ y ∈ lw, CrtFit y) := by show ∀ y ∈ lw, _; rw [hlw]; exact fit_addC HFIT.out HFX.out
            rw [← hlw] at HAC HAP
            have HADD := Lib.hid HAC
            have HPG : Hid (∀ w, GIn w od ld → CIn w x ax → _) := fun w h1 h2 => HAP od ax w h1 h2
            clear HAC HAP hmw hlw
            unfold dagV crtV at HPG
            go_upto_region 10 with fail
            obtain ⟨gw, hgw⟩ : ∃ gw, gw = wr.heap.size := ⟨_, rfl⟩
            obtain ⟨wa, hwa⟩ : ∃ wa, wa = wr.alloc (.cells (dagC 0 0 noAd).toArray 24) := ⟨_, rfl⟩
            obtain ⟨hbra, hsa, hxa⟩ := boxes1 wr _ _ hwa
            rw [← hgw] at hxa
            have HGWE : Hid (wr.heap.size = gw) := hgw.symm
            have HGW0 : Hid (gw = wr.heap.size) := hgw
            have HWA : Hid (wr.alloc (.cells #[.int .i64 0, .int .i64 0, .slice none 0 0] 24) = wa) := hwa.symm
            rw [HGWE.out, HWA.out]
            have HXA := Lib.hid hxa
            clear hgw hwa hsa hxa e0 e1 e2 e3 e4 e5
            have HBB := Lib.hid hbra
            have KEEP : Hid (∀ wX, Below wa.heap.size wa wX → wX.cell? ⟨gd, 0, none⟩ = some (.int .i64 q.N) ∧ wX.cell? ⟨gd, 1, none⟩ = some (.int .i64 q.L) ∧ wX.cell? ⟨gd, 2, none⟩ = some (.slice od.A od.n od.c) ∧ wX.cell? ⟨g, 3, none⟩ = some (.slice (some ⟨b, off, none⟩) q.oc.n q.oc.c) ∧ wX.cell? ⟨b, off + t * 6, none⟩ = some (.int .i64 x.a) ∧ wX.cell? ⟨b, off + t * 6 + 1, none⟩ = some (.int .i64 x.r) ∧ wX.cell? ⟨b, off + t * 6 + 2, none⟩ = some (.slice ax.B.A ax.B.n ax.B.c) ∧ wX.cell? ⟨b, off + t * 6 + 3, none⟩ = some (.slice ax.P.A ax.P.n ax.P.c) ∧ wX.cell? ⟨b, off + t * 6 + 4, none⟩ = some (.int .i64 x.d) ∧ wX.cell? ⟨b, off + t * 6 + 5, none⟩ = some (.slice ax.S.A ax.S.n ax.S.c)) := fun wX hb => HALL.out wX (HBB.out.trans (hb.mono HBB.out.size))
            have HFAR : Hid (∀ (w2 : World) (u0 u1 u2 : Value), Below wa.heap.size wa w2 → (((w2.setCell ⟨gw, 0, none⟩ u0).setCell ⟨gw, 1, none⟩ u1).setCell ⟨gw, 2, none⟩ u2).cell? ⟨gd, 0, none⟩ = some (.int .i64 q.N) ∧ (((w2.setCell ⟨gw, 0, none⟩ u0).setCell ⟨gw, 1, none⟩ u1).setCell ⟨gw, 2, none⟩ u2).cell? ⟨gd, 1, none⟩ = some (.int .i64 q.L) ∧ (((w2.setCell ⟨gw, 0, none⟩ u0).setCell ⟨gw, 1, none⟩ u1).setCell ⟨gw, 2, none⟩ u2).cell? ⟨gd, 2, none⟩ = some (.slice od.A od.n od.c) ∧ (((w2.setCell ⟨gw, 0, none⟩ u0).setCell ⟨gw, 1, none⟩ u1).setCell ⟨gw, 2, none⟩ u2).cell? ⟨g, 3, none⟩ = some (.slice (some ⟨b, off, none⟩) q.oc.n q.oc.c) ∧ (((w2.setCell ⟨gw, 0, none⟩ u0).setCell ⟨gw, 1, none⟩ u1).setCell ⟨gw, 2, none⟩ u2).cell? ⟨b, off + t * 6, none⟩ = some (.int .i64 x.a) ∧ (((w2.setCell ⟨gw, 0, none⟩ u0).setCell ⟨gw, 1, none⟩ u1).setCell ⟨gw, 2, none⟩ u2).cell? ⟨b, off + t * 6 + 1, none⟩ = some (.int .i64 x.r) ∧ (((w2.setCell ⟨gw, 0, none⟩ u0).setCell ⟨gw, 1, none⟩ u1).setCell ⟨gw, 2, none⟩ u2).cell? ⟨b, off + t * 6 + 2, none⟩ = some (.slice ax.B.A ax.B.n ax.B.c) ∧ (((w2.setCell ⟨gw, 0, none⟩ u0).setCell ⟨gw, 1, none⟩ u1).setCell ⟨gw, 2, none⟩ u2).cell? ⟨b, off + t * 6 + 3, none⟩ = some (.slice ax.P.A ax.P.n ax.P.c) ∧ (((w2.setCell ⟨gw, 0, none⟩ u0).setCell ⟨gw, 1, none⟩ u1).setCell ⟨gw, 2, none⟩ u2).cell? ⟨b, off + t * 6 + 4, none⟩ = some (.int .i64 x.d) ∧ (((w2.setCell ⟨gw, 0, none⟩ u0).setCell ⟨gw, 1, none⟩ u1).setCell ⟨gw, 2, none⟩ u2).cell? ⟨b, off + t * 6 + 5, none⟩ = some (.slice ax.S.A ax.S.n ax.S.c)) := fun w2 u0 u1 u2 hb => by
              have ht : Touch (fun k => k = gw) w2 (((w2.setCell ⟨gw, 0, none⟩ u0).setCell ⟨gw, 1, none⟩ u1).setCell ⟨gw, 2, none⟩ u2) := Touch.set (F := fun k => k = gw) (Touch.set (F := fun k => k = gw) (Touch.set (F := fun k => k = gw) (Touch.refl _ _) (.inl rfl) _) (.inl rfl) _) (.inl rfl) _
              have hw2 : wr.heap.size ≤ w2.heap.size := by have := HBB.out.size; have := hb.size; omega
              have e1 : ∀ b' o', b' < wr.heap.size → (((w2.setCell ⟨gw, 0, none⟩ u0).setCell ⟨gw, 1, none⟩ u1).setCell ⟨gw, 2, none⟩ u2).cell? ⟨b', o', none⟩ = w2.cell? ⟨b', o', none⟩ := fun b' o' hl => ht.cell (b := b') (o := o') (by omega) (fun e => by have e : b' = gw := e; have := HGW0.out; omega)
              have l1 : g < wr.heap.size := by have := HB1r.out.size; omega
              have l2 : gd < wr.heap.size := HXd.out.1
              have l3 : b < wr.heap.size := by have := HNB.out; have := HB1r.out.size; omega
              obtain ⟨k0, k1, k2, k3, k4, k5, k6, k7, k8, k9⟩ := KEEP.out w2 hb
              exact ⟨(e1 _ _ l2).trans k0, (e1 _ _ l2).trans k1, (e1 _ _ l2).trans k2, (e1 _ _ l1).trans k3, (e1 _ _ l3).trans k4, (e1 _ _ l3).trans k5, (e1 _ _ l3).trans k6, (e1 _ _ l3).trans k7, (e1 _ _ l3).trans k8, (e1 _ _ l3).trans k9⟩
            obtain ⟨e0, e1, e2, e3, e4, e5, e6, e7, e8, e9⟩ := KEEP.out wa (Below.refl _ _)
            go_region_held3 (fun wX => wX.cell? ⟨gd, 0, none⟩ = some (.int .i64 q.N) ∧ wX.cell? ⟨gd, 1, none⟩ = some (.int .i64 q.L) ∧ wX.cell? ⟨gd, 2, none⟩ = some (.slice od.A od.n od.c) ∧ wX.cell? ⟨g, 3, none⟩ = some (.slice (some ⟨b, off, none⟩) q.oc.n q.oc.c) ∧ wX.cell? ⟨b, off + t * 6, none⟩ = some (.int .i64 x.a) ∧ wX.cell? ⟨b, off + t * 6 + 1, none⟩ = some (.int .i64 x.r) ∧ wX.cell? ⟨b, off + t * 6 + 2, none⟩ = some (.slice ax.B.A ax.B.n ax.B.c) ∧ wX.cell? ⟨b, off + t * 6 + 3, none⟩ = some (.slice ax.P.A ax.P.n ax.P.c) ∧ wX.cell? ⟨b, off + t * 6 + 4, none⟩ = some (.int .i64 x.d) ∧ wX.cell? ⟨b, off + t * 6 + 5, none⟩ = some (.slice ax.S.A ax.S.n ax.S.c))
              (first
                | (refine KEEP.out _ ?_; first
                  | with_reducible exact (Below.refl _ _)
                  | with_reducible exact (Below.refl _ _).drew
                  | with_reducible exact hbb2)
                | exact HFAR.out _ _ _ _ hbb2)
              (first
                | (go_at_call 13; refine (HPG.out _ ?_ ?_).mono ?_
                   · exact HGd.out.below (HBB.out.trans ((Below.refl _ _).drew.mono HBB.out.size))
                   · exact HCX.out _ (HBB.out.trans ((Below.refl _ _).drew.mono HBB.out.size))
                   rintro e w2p ⟨ow, msw, rfl, how, hmw2, hb2p⟩
                   have hbb2 : Below wa.heap.size wa w2p := (Below.refl _ _).drew.trans (hb2p.mono (by simp))
                   dsimp only [dagV]
                   have hxw2 := HXA.out.below hbb2 HXA.out.1
                   obtain ⟨v0, v1, v2⟩ := dag_cells hxw2
                   have f0 := (hxw2.2 0 _ rfl).2
                   have f1 := (hxw2.2 1 _ rfl).2
                   have f2 := (hxw2.2 2 _ rfl).2))
            all_goals
              obtain ⟨w3p, hw3p⟩ : ∃ w3p, w3p = ((w2p.setCell ⟨gw, 0, none⟩ (.int .i64 q.N)).setCell ⟨gw, 1, none⟩ (.int .i64 q.L)).setCell ⟨gw, 2, none⟩ (.slice ow.A ow.n ow.c) := ⟨_, rfl⟩
              rw [← hw3p]
              have hx3p : Box w3p gw (dagC q.N q.L ow) := by rw [hw3p]; exact ((hxw2.set (j := 0) (show 0 < 3 by decide)).set (j := 1) (show 1 < 3 by decide)).set (j := 2) (show 2 < 3 by decide)
              have t3p : Touch (fun k => k = gw) w2p w3p := by rw [hw3p]; exact Touch.set (F := fun k => k = gw) (Touch.set (F := fun k => k = gw) (Touch.set (F := fun k => k = gw) (Touch.refl _ _) (.inl rfl) _) (.inl rfl) _) (.inl rfl) _
              have hbr3 : Below wr.heap.size wr w3p := (HBB.out.trans (hbb2.mono HBB.out.size)).trans (t3p.below (fun k hk => by have e : k = gw := hk; have := HGW0.out; omega) (by have := HBB.out.size; have := hbb2.size; omega))
              have hgw2 := hxw2.1
              have hbz : wa.heap.size ≤ w2p.heap.size := hbb2.size
              have hga := HXA.out.1
              have how3 := how.touch t3p (fun k hk => by have e : k = gw := hk; simp; omega)
              obtain ⟨wb, rfl⟩ : ∃ wb, wb = w3p := ⟨_, rfl⟩
              have HXW := Lib.hid hx3p
              have hbrb := hbr3
              have HGW : Hid (∀ wX, Below wb.heap.size wb wX → GIn wX ow lw) := fun wX hb => (gin_ownA how3 hmw2 HFIW.out HLW.out).below hb
              clear hw3p t3p hxw2 v0 v1 v2 f0 f1 f2 hbb2 hb2p KEEP HFAR hx3p hbr3 how3 hgw2 hbz hga how hmw2
              go_upto_region 13 with fail
              have HALLb : Hid (∀ wX, Below wb.heap.size wb wX → wX.cell? ⟨gd, 0, none⟩ = some (.int .i64 q.N) ∧ wX.cell? ⟨gd, 1, none⟩ = some (.int .i64 q.L) ∧ wX.cell? ⟨gd, 2, none⟩ = some (.slice od.A od.n od.c) ∧ wX.cell? ⟨g, 3, none⟩ = some (.slice (some ⟨b, off, none⟩) q.oc.n q.oc.c) ∧ wX.cell? ⟨b, off + t * 6, none⟩ = some (.int .i64 x.a) ∧ wX.cell? ⟨b, off + t * 6 + 1, none⟩ = some (.int .i64 x.r) ∧ wX.cell? ⟨b, off + t * 6 + 2, none⟩ = some (.slice ax.B.A ax.B.n ax.B.c) ∧ wX.cell? ⟨b, off + t * 6 + 3, none⟩ = some (.slice ax.P.A ax.P.n ax.P.c) ∧ wX.cell? ⟨b, off + t * 6 + 4, none⟩ = some (.int .i64 x.d) ∧ wX.cell? ⟨b, off + t * 6 + 5, none⟩ = some (.slice ax.S.A ax.S.n ax.S.c)) := fun wX hb => HALL.out wX (hbrb.trans (hb.mono hbrb.size))
              obtain ⟨e0, e1, e2, e3, e4, e5, e6, e7, e8, e9⟩ := HALLb.out wb (Below.refl _ _)
              go_upto_region 14 with (go_at_call 11; refine (HCP.out _ hbrb).mono ?_; rintro e w5 ⟨oi, msi, rfl, hoi, hmi, hb5⟩; dsimp only [dagV])
              obtain ⟨gi, hgi⟩ : ∃ gi, gi = w5.heap.size := ⟨_, rfl⟩
              obtain ⟨w6, hw6⟩ : ∃ w6, w6 = w5.alloc (.cells (dagC q.N q.L oi).toArray 24) := ⟨_, rfl⟩
              obtain ⟨hb56, hs56, hx6⟩ := boxes1 w5 _ _ hw6
              rw [← hgi] at hx6 hs56
              have HGIE : Hid (w5.heap.size = gi) := hgi.symm
              have HW6 : Hid (w5.alloc (.cells #[.int .i64 q.N, .int .i64 q.L, .slice oi.A oi.n oi.c] 24) = w6) := hw6.symm
              rw [HGIE.out, HW6.out]
              have hbb6 : Below wb.heap.size wb w6 := hb5.trans (hb56.mono hb5.size)
              have HGIN : Hid (GIn w6 oi ld) := (gin_ownA hoi hmi HFIT.out (by omega)).below hb56
              have HXI := Lib.hid hx6
              have HSI : Hid (w6.heap.size = gi + 1 ∧ wb.heap.size ≤ gi) := ⟨hs56, by rw [hgi]; exact hb5.size⟩
              clear hgi hw6 hb56 hs56 hx6 hb5 hoi hmi e0 e1 e2 e3 e4 e5 e6 e7 e8 e9
              obtain ⟨e0, e1, e2, e3, e4, e5, e6, e7, e8, e9⟩ := HALLb.out w6 hbb6
              go_upto_region 15 with (go_at_call 14; refine (HCC.out _ (hbrb.trans (hbb6.mono hbrb.size))).mono ?_; rintro e w7 ⟨ac, rfl, hnc, hb7⟩; dsimp only [crtV])
              obtain ⟨gc, hgc⟩ : ∃ gc, gc = w7.heap.size := ⟨_, rfl⟩
              obtain ⟨w8, hw8⟩ : ∃ w8, w8 = w7.alloc (.cells (crtC x ac).toArray 37) := ⟨_, rfl⟩
              obtain ⟨hb78, hs78, hx8⟩ := boxes1 w7 _ _ hw8
              rw [← hgc] at hx8 hs78
              have HGCE : Hid (w7.heap.size = gc) := hgc.symm
              have HW8 : Hid (w7.alloc (.cells #[.int .i64 x.a, .int .i64 x.r, .slice ac.B.A ac.B.n ac.B.c, .slice ac.P.A ac.P.n ac.P.c, .int .i64 x.d, .slice ac.S.A ac.S.n ac.S.c] 37) = w8) := hw8.symm
              rw [HGCE.out, HW8.out]
              have hb68 : Below w6.heap.size w6 w8 := hb7.trans (hb78.mono hb7.size)
              have hbb8 : Below wb.heap.size wb w8 := hbb6.trans (hb68.mono hbb6.size)
              have hbr8 : Below wr.heap.size wr w8 := hbrb.trans (hbb8.mono hbrb.size)
              have HCIN : Hid (CIn w8 x ac) := hnc.in_.below hb78
              have HGI8 : Hid (GIn w8 oi ld) := HGIN.out.below hb68
              have HALL8 : Hid (∀ wX, Below w8.heap.size w8 wX → wX.cell? ⟨gd, 0, none⟩ = some (.int .i64 q.N) ∧ wX.cell? ⟨gd, 1, none⟩ = some (.int .i64 q.L) ∧ wX.cell? ⟨gd, 2, none⟩ = some (.slice od.A od.n od.c) ∧ wX.cell? ⟨g, 3, none⟩ = some (.slice (some ⟨b, off, none⟩) q.oc.n q.oc.c) ∧ wX.cell? ⟨b, off + t * 6, none⟩ = some (.int .i64 x.a) ∧ wX.cell? ⟨b, off + t * 6 + 1, none⟩ = some (.int .i64 x.r) ∧ wX.cell? ⟨b, off + t * 6 + 2, none⟩ = some (.slice ax.B.A ax.B.n ax.B.c) ∧ wX.cell? ⟨b, off + t * 6 + 3, none⟩ = some (.slice ax.P.A ax.P.n ax.P.c) ∧ wX.cell? ⟨b, off + t * 6 + 4, none⟩ = some (.int .i64 x.d) ∧ wX.cell? ⟨b, off + t * 6 + 5, none⟩ = some (.slice ax.S.A ax.S.n ax.S.c) ∧ wX.cell? ⟨gw, 0, none⟩ = some (.int .i64 q.N) ∧ wX.cell? ⟨gw, 1, none⟩ = some (.int .i64 q.L) ∧ wX.cell? ⟨gw, 2, none⟩ = some (.slice ow.A ow.n ow.c) ∧ wX.cell? ⟨gi, 0, none⟩ = some (.int .i64 q.N) ∧ wX.cell? ⟨gi, 1, none⟩ = some (.int .i64 q.L) ∧ wX.cell? ⟨gi, 2, none⟩ = some (.slice oi.A oi.n oi.c) ∧ wX.cell? ⟨gc, 0, none⟩ = some (.int .i64 x.a) ∧ wX.cell? ⟨gc, 1, none⟩ = some (.int .i64 x.r) ∧ wX.cell? ⟨gc, 2, none⟩ = some (.slice ac.B.A ac.B.n ac.B.c) ∧ wX.cell? ⟨gc, 3, none⟩ = some (.slice ac.P.A ac.P.n ac.P.c) ∧ wX.cell? ⟨gc, 4, none⟩ = some (.int .i64 x.d) ∧ wX.cell? ⟨gc, 5, none⟩ = some (.slice ac.S.A ac.S.n ac.S.c)) := fun wX hb => by
                obtain ⟨m0, m1, m2, m3, m4, m5, m6, m7, m8, m9⟩ := HALLb.out wX (hbb8.trans (hb.mono hbb8.size))
                obtain ⟨k0, k1, k2⟩ := dag_cells ((HXW.out.below (hbb8.trans (hb.mono hbb8.size)) HXW.out.1))
                obtain ⟨i0, i1, i2⟩ := dag_cells ((HXI.out.below (hb68.trans (hb.mono hb68.size)) HXI.out.1))
                obtain ⟨c0, c1, c2, c3, c4, c5⟩ := crt_cells (hx8.below hb hx8.1)
                exact ⟨m0, m1, m2, m3, m4, m5, m6, m7, m8, m9, k0, k1, k2, i0, i1, i2, c0, c1, c2, c3, c4, c5⟩
              have HB8 := Lib.hid hbr8
              clear hgc hw8 hb78 hs78 hx8 hb7 hnc hb68 hbb6 e0 e1 e2 e3 e4 e5 e6 e7 e8 e9
              obtain ⟨e0, e1, e2, e3, e4, e5, e6, e7, e8, e9, e10, e11, e12, e13, e14, e15, e16, e17, e18, e19, e20, e21⟩ := HALL8.out w8 (Below.refl _ _)
              have HAD := Lib.hid (HADD.out oi ac w8 HGI8.out HCIN.out)
              unfold dagV crtV at HAD
              go_upto_region 16 with (go_at_call 15; refine HAD.out.mono ?_; rintro e w9 ⟨ox, msx, rfl, hox, hmx, hb9⟩; dsimp only [dagV])
              obtain ⟨gx, hgx⟩ : ∃ gx, gx = w9.heap.size := ⟨_, rfl⟩
              obtain ⟨w10, hw10⟩ : ∃ w10, w10 = w9.alloc (.cells (dagC q.N q.L ox).toArray 24) := ⟨_, rfl⟩
              obtain ⟨hb910, -, hx10⟩ := boxes1 w9 _ _ hw10
              rw [← hgx] at hx10
              have HGXE : Hid (w9.heap.size = gx) := hgx.symm
              have HW10 : Hid (w9.alloc (.cells #[.int .i64 q.N, .int .i64 q.L, .slice ox.A ox.n ox.c] 24) = w10) := hw10.symm
              rw [HGXE.out, HW10.out]
              have hb810 : Below w8.heap.size w8 w10 := hb9.trans (hb910.mono hb9.size)
              have HOX : Hid (∀ wX, Below w10.heap.size w10 wX → OwnY w8.heap.size wX ox msx) := fun wX hb => (hox.below hb910).below hb
              have HGX : Hid (∀ wX, Below w10.heap.size w10 wX → GIn wX ox lw) := fun wX hb => ((gin_ownA hox hmx HFIW.out HLW.out).below hb910).below hb
              have HE1 : Hid (∀ wX, Below w10.heap.size w10 wX → Calls Try.prog 17 #[.agg #[.int .i64 q.N, .int .i64 q.L, .slice ox.A ox.n ox.c], .agg #[.int .i64 q.N, .int .i64 q.L, .slice ow.A ow.n ow.c]] wX (Tells wX.heap.size wX (.bool true))) := fun wX hb => eqDagA_is q.N q.L ox ow lw wX (HGX.out wX hb) (HGW.out wX (hbb8.trans ((hb810.trans (hb.mono hb810.size)).mono hbb8.size)))
              have HMX : Hid (msx.map Prod.fst = lw) := hmx
              have HE2 : Hid (∀ wX, Below w8.heap.size w8 wX → Calls Try.prog 17 #[.agg #[.int .i64 q.N, .int .i64 q.L, .slice oi.A oi.n oi.c], .agg #[.int .i64 q.N, .int .i64 q.L, .slice od.A od.n od.c]] wX (Tells wX.heap.size wX (.bool true))) := fun wX hb => eqDagA_is q.N q.L oi od ld wX (HGI8.out.below hb) (HGd.out.below (HB8.out.trans (hb.mono HB8.out.size)))
              have HE3 : Hid (∀ wX, Below w8.heap.size w8 wX → Calls Try.prog 18 #[.agg #[.int .i64 x.a, .int .i64 x.r, .slice ac.B.A ac.B.n ac.B.c, .slice ac.P.A ac.P.n ac.P.c, .int .i64 x.d, .slice ac.S.A ac.S.n ac.S.c], .agg #[.int .i64 x.a, .int .i64 x.r, .slice ax.B.A ax.B.n ax.B.c, .slice ax.P.A ax.P.n ax.P.c, .int .i64 x.d, .slice ax.S.A ax.S.n ax.S.c]] wX (Tells wX.heap.size wX (.bool true))) := fun wX hb => eqCA_is x ac ax wX (HCIN.out.below hb) (HCX.out wX (HB8.out.trans (hb.mono HB8.out.size))) HFX.out
              have HX10 := Lib.hid hx10
              have HB810 := Lib.hid hb810
              clear hgx hw10 hb910 hx10 hb9 hox hmx e0 e1 e2 e3 e4 e5 e6 e7 e8 e9 e10 e11 e12 e13 e14 e15 e16 e17 e18 e19 e20 e21
              have p0 : ∀ z : Calm w10, z.val.cell? ⟨gd, 0, none⟩ = some (.int .i64 q.N) := fun z => (HALL8.out z.val (HB810.out.trans (z.ok.mono HB810.out.size))).1
              have p1 : ∀ z : Calm w10, z.val.cell? ⟨gd, 1, none⟩ = some (.int .i64 q.L) := fun z => (HALL8.out z.val (HB810.out.trans (z.ok.mono HB810.out.size))).2.1
              have p2 : ∀ z : Calm w10, z.val.cell? ⟨gd, 2, none⟩ = some (.slice od.A od.n od.c) := fun z => (HALL8.out z.val (HB810.out.trans (z.ok.mono HB810.out.size))).2.2.1
              have p3 : ∀ z : Calm w10, z.val.cell? ⟨g, 3, none⟩ = some (.slice (some ⟨b, off, none⟩) q.oc.n q.oc.c) := fun z => (HALL8.out z.val (HB810.out.trans (z.ok.mono HB810.out.size))).2.2.2.1
              have p4 : ∀ z : Calm w10, z.val.cell? ⟨b, off + t * 6, none⟩ = some (.int .i64 x.a) := fun z => (HALL8.out z.val (HB810.out.trans (z.ok.mono HB810.out.size))).2.2.2.2.1
              have p5 : ∀ z : Calm w10, z.val.cell? ⟨b, off + t * 6 + 1, none⟩ = some (.int .i64 x.r) := fun z => (HALL8.out z.val (HB810.out.trans (z.ok.mono HB810.out.size))).2.2.2.2.2.1
              have p6 : ∀ z : Calm w10, z.val.cell? ⟨b, off + t * 6 + 2, none⟩ = some (.slice ax.B.A ax.B.n ax.B.c) := fun z => (HALL8.out z.val (HB810.out.trans (z.ok.mono HB810.out.size))).2.2.2.2.2.2.1
              have p7 : ∀ z : Calm w10, z.val.cell? ⟨b, off + t * 6 + 3, none⟩ = some (.slice ax.P.A ax.P.n ax.P.c) := fun z => (HALL8.out z.val (HB810.out.trans (z.ok.mono HB810.out.size))).2.2.2.2.2.2.2.1
              have p8 : ∀ z : Calm w10, z.val.cell? ⟨b, off + t * 6 + 4, none⟩ = some (.int .i64 x.d) := fun z => (HALL8.out z.val (HB810.out.trans (z.ok.mono HB810.out.size))).2.2.2.2.2.2.2.2.1
              have p9 : ∀ z : Calm w10, z.val.cell? ⟨b, off + t * 6 + 5, none⟩ = some (.slice ax.S.A ax.S.n ax.S.c) := fun z => (HALL8.out z.val (HB810.out.trans (z.ok.mono HB810.out.size))).2.2.2.2.2.2.2.2.2.1
              have p10 : ∀ z : Calm w10, z.val.cell? ⟨gw, 0, none⟩ = some (.int .i64 q.N) := fun z => (HALL8.out z.val (HB810.out.trans (z.ok.mono HB810.out.size))).2.2.2.2.2.2.2.2.2.2.1
              have p11 : ∀ z : Calm w10, z.val.cell? ⟨gw, 1, none⟩ = some (.int .i64 q.L) := fun z => (HALL8.out z.val (HB810.out.trans (z.ok.mono HB810.out.size))).2.2.2.2.2.2.2.2.2.2.2.1
              have p12 : ∀ z : Calm w10, z.val.cell? ⟨gw, 2, none⟩ = some (.slice ow.A ow.n ow.c) := fun z => (HALL8.out z.val (HB810.out.trans (z.ok.mono HB810.out.size))).2.2.2.2.2.2.2.2.2.2.2.2.1
              have p13 : ∀ z : Calm w10, z.val.cell? ⟨gi, 0, none⟩ = some (.int .i64 q.N) := fun z => (HALL8.out z.val (HB810.out.trans (z.ok.mono HB810.out.size))).2.2.2.2.2.2.2.2.2.2.2.2.2.1
              have p14 : ∀ z : Calm w10, z.val.cell? ⟨gi, 1, none⟩ = some (.int .i64 q.L) := fun z => (HALL8.out z.val (HB810.out.trans (z.ok.mono HB810.out.size))).2.2.2.2.2.2.2.2.2.2.2.2.2.2.1
              have p15 : ∀ z : Calm w10, z.val.cell? ⟨gi, 2, none⟩ = some (.slice oi.A oi.n oi.c) := fun z => (HALL8.out z.val (HB810.out.trans (z.ok.mono HB810.out.size))).2.2.2.2.2.2.2.2.2.2.2.2.2.2.2.1
              have p16 : ∀ z : Calm w10, z.val.cell? ⟨gc, 0, none⟩ = some (.int .i64 x.a) := fun z => (HALL8.out z.val (HB810.out.trans (z.ok.mono HB810.out.size))).2.2.2.2.2.2.2.2.2.2.2.2.2.2.2.2.1
              have p17 : ∀ z : Calm w10, z.val.cell? ⟨gc, 1, none⟩ = some (.int .i64 x.r) := fun z => (HALL8.out z.val (HB810.out.trans (z.ok.mono HB810.out.size))).2.2.2.2.2.2.2.2.2.2.2.2.2.2.2.2.2.1
              have p18 : ∀ z : Calm w10, z.val.cell? ⟨gc, 2, none⟩ = some (.slice ac.B.A ac.B.n ac.B.c) := fun z => (HALL8.out z.val (HB810.out.trans (z.ok.mono HB810.out.size))).2.2.2.2.2.2.2.2.2.2.2.2.2.2.2.2.2.2.1
              have p19 : ∀ z : Calm w10, z.val.cell? ⟨gc, 3, none⟩ = some (.slice ac.P.A ac.P.n ac.P.c) := fun z => (HALL8.out z.val (HB810.out.trans (z.ok.mono HB810.out.size))).2.2.2.2.2.2.2.2.2.2.2.2.2.2.2.2.2.2.2.1
              have p20 : ∀ z : Calm w10, z.val.cell? ⟨gc, 4, none⟩ = some (.int .i64 x.d) := fun z => (HALL8.out z.val (HB810.out.trans (z.ok.mono HB810.out.size))).2.2.2.2.2.2.2.2.2.2.2.2.2.2.2.2.2.2.2.2.1
              have p21 : ∀ z : Calm w10, z.val.cell? ⟨gc, 5, none⟩ = some (.slice ac.S.A ac.S.n ac.S.c) := fun z => (HALL8.out z.val (HB810.out.trans (z.ok.mono HB810.out.size))).2.2.2.2.2.2.2.2.2.2.2.2.2.2.2.2.2.2.2.2.2
              have y0 : ∀ z : Calm w10, z.val.cell? ⟨gx, 0, none⟩ = some (.int .i64 q.N) := fun z => (dag_cells (HX10.out.below z.ok HX10.out.1)).1
              have y1 : ∀ z : Calm w10, z.val.cell? ⟨gx, 1, none⟩ = some (.int .i64 q.L) := fun z => (dag_cells (HX10.out.below z.ok HX10.out.1)).2.1
              have y2 : ∀ z : Calm w10, z.val.cell? ⟨gx, 2, none⟩ = some (.slice ox.A ox.n ox.c) := fun z => (dag_cells (HX10.out.below z.ok HX10.out.1)).2.2
              refine wp_region_calm (by kernel_rfl) (by kernel_rfl) ?_
              repeat (go_big_quiet_step (first
                | (go_at_call 16; exact calm_tells (numA_tells _ _))
                | (go_at_call 17; with_reducible exact calm_tells (HE1.out _ (Calm.ok _)))
                | (go_at_call 17; with_reducible exact calm_tells (HE2.out _ (HB810.out.trans ((Calm.ok _).mono HB810.out.size))))
                | (go_at_call 18; with_reducible exact calm_tells (HE3.out _ (HB810.out.trans ((Calm.ok _).mono HB810.out.size))))))
              refine wpQuiet_nil ?_
              rintro _ ⟨z, rfl⟩
              obtain ⟨w11, hwz⟩ : ∃ wz, wz = z.val := ⟨_, rfl⟩
              have hb1011 : Below w10.heap.size w10 w11 := by rw [hwz]; exact z.ok
              rw [← hwz]
              clear hwz z p0 p1 p2 p3 p4 p5 p6 p7 p8 p9 p10 p11 p12 p13 p14 p15 p16 p17 p18 p19 p20 p21 y0 y1 y2
              have hb811 : Below w8.heap.size w8 w11 := HB810.out.trans (hb1011.mono HB810.out.size)
              obtain ⟨x0, x1, x2⟩ := dag_cells (HX10.out.below hb1011 HX10.out.1)
              have HSP := Lib.hid (spoilCerts_any w8.heap.size ox msx w11 (HOX.out w11 hb1011) (fun y hy => HFIW.out y.1 (by rw [← HMX.out]; exact List.mem_map_of_mem hy)) (by have := HLW.out; rw [← HMX.out, List.length_map] at this; exact this) hb811.size)
              go_upto_region 19 with (go_at_call 19; refine HSP.out.mono ?_; rintro e w12 ⟨rfl, hb12⟩)
              have hb812 : Below w8.heap.size w8 w12 := hb811.trans hb12
              clear x0 x1 x2 hb12 hb1011 hb811
              have p0 : ∀ z : Calm w12, z.val.cell? ⟨gd, 0, none⟩ = some (.int .i64 q.N) := fun z => (HALL8.out z.val (hb812.trans (z.ok.mono hb812.size))).1
              have p1 : ∀ z : Calm w12, z.val.cell? ⟨gd, 1, none⟩ = some (.int .i64 q.L) := fun z => (HALL8.out z.val (hb812.trans (z.ok.mono hb812.size))).2.1
              have p2 : ∀ z : Calm w12, z.val.cell? ⟨gd, 2, none⟩ = some (.slice od.A od.n od.c) := fun z => (HALL8.out z.val (hb812.trans (z.ok.mono hb812.size))).2.2.1
              have p3 : ∀ z : Calm w12, z.val.cell? ⟨g, 3, none⟩ = some (.slice (some ⟨b, off, none⟩) q.oc.n q.oc.c) := fun z => (HALL8.out z.val (hb812.trans (z.ok.mono hb812.size))).2.2.2.1
              have p4 : ∀ z : Calm w12, z.val.cell? ⟨b, off + t * 6, none⟩ = some (.int .i64 x.a) := fun z => (HALL8.out z.val (hb812.trans (z.ok.mono hb812.size))).2.2.2.2.1
              have p5 : ∀ z : Calm w12, z.val.cell? ⟨b, off + t * 6 + 1, none⟩ = some (.int .i64 x.r) := fun z => (HALL8.out z.val (hb812.trans (z.ok.mono hb812.size))).2.2.2.2.2.1
              have p6 : ∀ z : Calm w12, z.val.cell? ⟨b, off + t * 6 + 2, none⟩ = some (.slice ax.B.A ax.B.n ax.B.c) := fun z => (HALL8.out z.val (hb812.trans (z.ok.mono hb812.size))).2.2.2.2.2.2.1
              have p7 : ∀ z : Calm w12, z.val.cell? ⟨b, off + t * 6 + 3, none⟩ = some (.slice ax.P.A ax.P.n ax.P.c) := fun z => (HALL8.out z.val (hb812.trans (z.ok.mono hb812.size))).2.2.2.2.2.2.2.1
              have p8 : ∀ z : Calm w12, z.val.cell? ⟨b, off + t * 6 + 4, none⟩ = some (.int .i64 x.d) := fun z => (HALL8.out z.val (hb812.trans (z.ok.mono hb812.size))).2.2.2.2.2.2.2.2.1
              have p9 : ∀ z : Calm w12, z.val.cell? ⟨b, off + t * 6 + 5, none⟩ = some (.slice ax.S.A ax.S.n ax.S.c) := fun z => (HALL8.out z.val (hb812.trans (z.ok.mono hb812.size))).2.2.2.2.2.2.2.2.2.1
              have p10 : ∀ z : Calm w12, z.val.cell? ⟨gw, 0, none⟩ = some (.int .i64 q.N) := fun z => (HALL8.out z.val (hb812.trans (z.ok.mono hb812.size))).2.2.2.2.2.2.2.2.2.2.1
              have p11 : ∀ z : Calm w12, z.val.cell? ⟨gw, 1, none⟩ = some (.int .i64 q.L) := fun z => (HALL8.out z.val (hb812.trans (z.ok.mono hb812.size))).2.2.2.2.2.2.2.2.2.2.2.1
              have p12 : ∀ z : Calm w12, z.val.cell? ⟨gw, 2, none⟩ = some (.slice ow.A ow.n ow.c) := fun z => (HALL8.out z.val (hb812.trans (z.ok.mono hb812.size))).2.2.2.2.2.2.2.2.2.2.2.2.1
              have p13 : ∀ z : Calm w12, z.val.cell? ⟨gi, 0, none⟩ = some (.int .i64 q.N) := fun z => (HALL8.out z.val (hb812.trans (z.ok.mono hb812.size))).2.2.2.2.2.2.2.2.2.2.2.2.2.1
              have p14 : ∀ z : Calm w12, z.val.cell? ⟨gi, 1, none⟩ = some (.int .i64 q.L) := fun z => (HALL8.out z.val (hb812.trans (z.ok.mono hb812.size))).2.2.2.2.2.2.2.2.2.2.2.2.2.2.1
              have p15 : ∀ z : Calm w12, z.val.cell? ⟨gi, 2, none⟩ = some (.slice oi.A oi.n oi.c) := fun z => (HALL8.out z.val (hb812.trans (z.ok.mono hb812.size))).2.2.2.2.2.2.2.2.2.2.2.2.2.2.2.1
              have p16 : ∀ z : Calm w12, z.val.cell? ⟨gc, 0, none⟩ = some (.int .i64 x.a) := fun z => (HALL8.out z.val (hb812.trans (z.ok.mono hb812.size))).2.2.2.2.2.2.2.2.2.2.2.2.2.2.2.2.1
              have p17 : ∀ z : Calm w12, z.val.cell? ⟨gc, 1, none⟩ = some (.int .i64 x.r) := fun z => (HALL8.out z.val (hb812.trans (z.ok.mono hb812.size))).2.2.2.2.2.2.2.2.2.2.2.2.2.2.2.2.2.1
              have p18 : ∀ z : Calm w12, z.val.cell? ⟨gc, 2, none⟩ = some (.slice ac.B.A ac.B.n ac.B.c) := fun z => (HALL8.out z.val (hb812.trans (z.ok.mono hb812.size))).2.2.2.2.2.2.2.2.2.2.2.2.2.2.2.2.2.2.1
              have p19 : ∀ z : Calm w12, z.val.cell? ⟨gc, 3, none⟩ = some (.slice ac.P.A ac.P.n ac.P.c) := fun z => (HALL8.out z.val (hb812.trans (z.ok.mono hb812.size))).2.2.2.2.2.2.2.2.2.2.2.2.2.2.2.2.2.2.2.1
              have p20 : ∀ z : Calm w12, z.val.cell? ⟨gc, 4, none⟩ = some (.int .i64 x.d) := fun z => (HALL8.out z.val (hb812.trans (z.ok.mono hb812.size))).2.2.2.2.2.2.2.2.2.2.2.2.2.2.2.2.2.2.2.2.1
              have p21 : ∀ z : Calm w12, z.val.cell? ⟨gc, 5, none⟩ = some (.slice ac.S.A ac.S.n ac.S.c) := fun z => (HALL8.out z.val (hb812.trans (z.ok.mono hb812.size))).2.2.2.2.2.2.2.2.2.2.2.2.2.2.2.2.2.2.2.2.2
              refine wp_region_calm (by kernel_rfl) (by kernel_rfl) ?_
              repeat (go_big_quiet_step (first
                | (go_at_call 17; with_reducible exact calm_tells (HE2.out _ (hb812.trans ((Calm.ok _).mono hb812.size))))
                | (go_at_call 18; with_reducible exact calm_tells (HE3.out _ (hb812.trans ((Calm.ok _).mono hb812.size))))))
              refine wpQuiet_nil ?_
              rintro _ ⟨z, rfl⟩
              obtain ⟨w13, hwz⟩ : ∃ wz, wz = z.val := ⟨_, rfl⟩
              have hb813 : Below w8.heap.size w8 w13 := by rw [hwz]; exact hb812.trans (z.ok.mono hb812.size)
              rw [← hwz]
              clear hwz z p0 p1 p2 p3 p4 p5 p6 p7 p8 p9 p10 p11 p12 p13 p14 p15 p16 p17 p18 p19 p20 p21
              have HBR13 : Hid (Below wr.heap.size wr w13) := HB8.out.trans (hb813.mono HB8.out.size)
              obtain ⟨e0, e1, e2, e3, e4, e5, e6, e7, e8, e9, e10, e11, e12, e13, e14, e15, e16, e17, e18, e19, e20, e21⟩ := HALL8.out w13 hb813
              have HCW := Lib.hid (copyDag_is q.N q.L ow lw w13 (HGW.out w13 (hbb8.trans (hb813.mono hbb8.size))))
              have hxd13 := HXd.out.below HBR13.out HXd.out.1
              unfold dagV at HCW
              go_wp2_with (first
                | (go_at_call 11; refine HCW.out.mono ?_; rintro e w14 ⟨o14, ms14, rfl, ho14, hm14, hb14⟩; dsimp only [dagV])
                | (refine wpList_store_box rfl 24 _ _ rfl gd 0 (dagC q.N q.L o14) (dagC q.N q.L od) (dagC q.N q.L o14) rfl rfl (hxd13.below hb14 hxd13.1) (show 0 + 3 ≤ 3 by decide) rfl size_dag rfl ?_
                   intro w15 hx15 T15
                   have t15 := T15 (fun k => k = gd) rfl
                   have hgd13 := hxd13.1
                   have ho15 := ho14.touch t15 (fun k hk => by have e : k = gd := hk; omega)
                   have hb15 : Below w1.heap.size w1 w15 := (HB1r.out.trans ((HBR13.out.trans (hb14.mono HBR13.out.size)).mono HB1r.out.size)).trans (t15.below (fun k hk => by have e : k = gd := hk; have := HGd1.out; omega) (by have := HB1r.out.size; have := HBR13.out.size; have := hb14.size; omega))
                   have HGN : Hid (GIn w15 o14 lw) := gin_ownA ho15 hm14 HFIW.out HLW.out
                   have HXN := Lib.hid hx15
                   have HB15 := Lib.hid hb15))
              go_roundw
              case rel => exact ⟨t + 1, o14, lw, by go_num, hlt, HXN.out, HGN.out, HLDN.out, HFIW.out, HMW.out, HB15.out⟩
              case measure => simp [intOf]; omega

        · obtain rfl : t = q.oc.n := by omega
          have i1 : ¬ ((q.oc.n : Int) < (q.oc.n : Int)) := by omega
          have hbr := HB.out.trans (HB1r.out.mono (Nat.le_of_lt hgs))
          have hsr := HB1r.out.size
          clear hlt
          go_wp2_with (go_at_call 20; refine (wakesY_any _).mono ?_; rintro e w5 ⟨rfl, hb5⟩)
          go_ret
          exact ⟨rfl, hbr.trans (hb5.mono (by omega))⟩
    · have HM : Hid (¬ MayG q.N q.L q.l) := hm
      clear hm
      go_wp2_with fail
      go_loopw [5] (fun i wr => ∃ (t : Nat) (od : Ad) (ld : List CrtD), i = .int .i64 t ∧ t ≤ q.oc.n ∧ Hid (Box wr gd (dagC q.N q.L od)) ∧ Hid (GIn wr od ld) ∧ Hid (ld.length ≤ 80 + t) ∧ Hid (∀ y ∈ ld, CrtFit y) ∧ Hid (True ∧ ld = q.l) ∧ Hid (Below w1.heap.size w1 wr)) (fun i _ => q.oc.n - (intOf i).toNat)
      case atStart => exact ⟨0, od0, q.l, rfl, Nat.zero_le _, HX5.out, HG5.out, HL80.out, HF0.out, ⟨trivial, rfl⟩, HB5.out⟩
      case round =>
        clear a0 a1 a2 a3 a4 a5
        obtain ⟨t, od, ld, rfl, ht, HXd, HGd, HLD, HFIT, HMD, HB1r⟩ := hrel
        obtain ⟨e0, e1, e2, e3, e4, e5⟩ := HD.out wr HB1r.out
        by_cases hlt : t < q.oc.n
        · have i0 : (0 : Int) ≤ (t : Int) := by omega
          have i1 : (t : Int) < (q.oc.n : Int) := by omega
          obtain ⟨x, hx⟩ : ∃ x, q.lc[t]? = some x := ⟨_, List.getElem?_eq_getElem (by rw [HLC.out]; exact hlt)⟩
          obtain ⟨b, off, ax, hA, -, hfx, hce⟩ := (HGC.out w1 (Below.refl _ _)).get hx
          have HFX := Lib.hid hfx
          have HCX : Hid (∀ wX, Below wr.heap.size wr wX → CIn wX x ax) := fun wX hb => (hce wX (HB1r.out.trans (hb.mono HB1r.out.size))).in_
          have HALL : Hid (∀ wX, Below wr.heap.size wr wX → wX.cell? ⟨gd, 0, none⟩ = some (.int .i64 q.N) ∧ wX.cell? ⟨gd, 1, none⟩ = some (.int .i64 q.L) ∧ wX.cell? ⟨gd, 2, none⟩ = some (.slice od.A od.n od.c) ∧ wX.cell? ⟨g, 3, none⟩ = some (.slice (some ⟨b, off, none⟩) q.oc.n q.oc.c) ∧ wX.cell? ⟨b, off + t * 6, none⟩ = some (.int .i64 x.a) ∧ wX.cell? ⟨b, off + t * 6 + 1, none⟩ = some (.int .i64 x.r) ∧ wX.cell? ⟨b, off + t * 6 + 2, none⟩ = some (.slice ax.B.A ax.B.n ax.B.c) ∧ wX.cell? ⟨b, off + t * 6 + 3, none⟩ = some (.slice ax.P.A ax.P.n ax.P.c) ∧ wX.cell? ⟨b, off + t * 6 + 4, none⟩ = some (.int .i64 x.d) ∧ wX.cell? ⟨b, off + t * 6 + 5, none⟩ = some (.slice ax.S.A ax.S.n ax.S.c)) := fun wX hb => by
            have hb1 := HB1r.out.trans (hb.mono HB1r.out.size)
            obtain ⟨c0, c1, c2, c3, c4, c5, -⟩ := hce wX hb1
            obtain ⟨k0, k1, k2⟩ := dag_cells (HXd.out.below hb HXd.out.1)
            have k3 := (HD.out wX hb1).2.2.2.1
            rw [hA] at k3
            exact ⟨k0, k1, k2, k3, c0, c1, c2, c3, c4, c5⟩
          have HCP : Hid (∀ wX, Below wr.heap.size wr wX → Calls Try.prog 11 #[.agg #[.int .i64 q.N, .int .i64 q.L, .slice od.A od.n od.c]] wX (CopyDagTo q.N q.L ld wX)) := fun wX hb => copyDag_is q.N q.L od ld wX (HGd.out.below hb)
          have HCC : Hid (∀ wX, Below wr.heap.size wr wX → Calls Try.prog 14 #[.agg #[.int .i64 x.a, .int .i64 x.r, .slice ax.B.A ax.B.n ax.B.c, .slice ax.P.A ax.P.n ax.P.c, .int .i64 x.d, .slice ax.S.A ax.S.n ax.S.c]] wX (CopyNew x wX)) := fun wX hb => copyCN_is x ax wX (HCX.out wX hb) HFX.out
          have hld : ld.length ≤ 200 := by have := HLD.out; omega
          clear hx hA hfx hce
          go_upto_region 13 with fail
          obtain ⟨gw, hgw⟩ : ∃ gw, gw = wr.heap.size := ⟨_, rfl⟩
          obtain ⟨wb, hwb⟩ : ∃ wb, wb = wr.alloc (.cells (dagC 0 0 noAd).toArray 24) := ⟨_, rfl⟩
          obtain ⟨hbrb, hsb, hxb⟩ := boxes1 wr _ _ hwb
          rw [← hgw] at hxb
          have HGWE : Hid (wr.heap.size = gw) := hgw.symm
          have HWB : Hid (wr.alloc (.cells #[.int .i64 0, .int .i64 0, .slice none 0 0] 24) = wb) := hwb.symm
          rw [HGWE.out, HWB.out]
          have HXW := Lib.hid hxb
          clear hgw hwb hsb hxb e0 e1 e2 e3 e4 e5
          have HADD : Hid (∀ (o : Ad) (a : CrtA) (w : World), GIn w o ld → CIn w x a → Calls Try.prog 15 #[dagV q.N q.L o, crtV x a] w (AddErr 1 w)) := fun o a w h1 h2 => add_bad q.N q.L o ld x a w h1 (by rw [HMD.out.2]; exact HM.out)
          have HALLb : Hid (∀ wX, Below wb.heap.size wb wX → wX.cell? ⟨gd, 0, none⟩ = some (.int .i64 q.N) ∧ wX.cell? ⟨gd, 1, none⟩ = some (.int .i64 q.L) ∧ wX.cell? ⟨gd, 2, none⟩ = some (.slice od.A od.n od.c) ∧ wX.cell? ⟨g, 3, none⟩ = some (.slice (some ⟨b, off, none⟩) q.oc.n q.oc.c) ∧ wX.cell? ⟨b, off + t * 6, none⟩ = some (.int .i64 x.a) ∧ wX.cell? ⟨b, off + t * 6 + 1, none⟩ = some (.int .i64 x.r) ∧ wX.cell? ⟨b, off + t * 6 + 2, none⟩ = some (.slice ax.B.A ax.B.n ax.B.c) ∧ wX.cell? ⟨b, off + t * 6 + 3, none⟩ = some (.slice ax.P.A ax.P.n ax.P.c) ∧ wX.cell? ⟨b, off + t * 6 + 4, none⟩ = some (.int .i64 x.d) ∧ wX.cell? ⟨b, off + t * 6 + 5, none⟩ = some (.slice ax.S.A ax.S.n ax.S.c)) := fun wX hb => HALL.out wX (hbrb.trans (hb.mono hbrb.size))
          obtain ⟨e0, e1, e2, e3, e4, e5, e6, e7, e8, e9⟩ := HALLb.out wb (Below.refl _ _)
          go_upto_region 14 with (go_at_call 11; refine (HCP.out _ hbrb).mono ?_; rintro e w5 ⟨oi, msi, rfl, hoi, hmi, hb5⟩; dsimp only [dagV])
          obtain ⟨gi, hgi⟩ : ∃ gi, gi = w5.heap.size := ⟨_, rfl⟩
          obtain ⟨w6, hw6⟩ : ∃ w6, w6 = w5.alloc (.cells (dagC q.N q.L oi).toArray 24) := ⟨_, rfl⟩
          obtain ⟨hb56, hs56, hx6⟩ := boxes1 w5 _ _ hw6
          rw [← hgi] at hx6 hs56
          have HGIE : Hid (w5.heap.size = gi) := hgi.symm
          have HW6 : Hid (w5.alloc (.cells #[.int .i64 q.N, .int .i64 q.L, .slice oi.A oi.n oi.c] 24) = w6) := hw6.symm
          rw [HGIE.out, HW6.out]
          have hbb6 : Below wb.heap.size wb w6 := hb5.trans (hb56.mono hb5.size)
          have HGIN : Hid (GIn w6 oi ld) := (gin_ownA hoi hmi HFIT.out (by omega)).below hb56
          have HXI := Lib.hid hx6
          have HSI : Hid (w6.heap.size = gi + 1 ∧ wb.heap.size ≤ gi) := ⟨hs56, by rw [hgi]; exact hb5.size⟩
          clear hgi hw6 hb56 hs56 hx6 hb5 hoi hmi e0 e1 e2 e3 e4 e5 e6 e7 e8 e9
          obtain ⟨e0, e1, e2, e3, e4, e5, e6, e7, e8, e9⟩ := HALLb.out w6 hbb6
          go_upto_region 15 with (go_at_call 14; refine (HCC.out _ (hbrb.trans (hbb6.mono hbrb.size))).mono ?_; rintro e w7 ⟨ac, rfl, hnc, hb7⟩; dsimp only [crtV])
          obtain ⟨gc, hgc⟩ : ∃ gc, gc = w7.heap.size := ⟨_, rfl⟩
          obtain ⟨w8, hw8⟩ : ∃ w8, w8 = w7.alloc (.cells (crtC x ac).toArray 37) := ⟨_, rfl⟩
          obtain ⟨hb78, hs78, hx8⟩ := boxes1 w7 _ _ hw8
          rw [← hgc] at hx8 hs78
          have HGCE : Hid (w7.heap.size = gc) := hgc.symm
          have HW8 : Hid (w7.alloc (.cells #[.int .i64 x.a, .int .i64 x.r, .slice ac.B.A ac.B.n ac.B.c, .slice ac.P.A ac.P.n ac.P.c, .int .i64 x.d, .slice ac.S.A ac.S.n ac.S.c] 37) = w8) := hw8.symm
          rw [HGCE.out, HW8.out]
          have hb68 : Below w6.heap.size w6 w8 := hb7.trans (hb78.mono hb7.size)
          have hbb8 : Below wb.heap.size wb w8 := hbb6.trans (hb68.mono hbb6.size)
          have hbr8 : Below wr.heap.size wr w8 := hbrb.trans (hbb8.mono hbrb.size)
          have HCIN : Hid (CIn w8 x ac) := hnc.in_.below hb78
          have HGI8 : Hid (GIn w8 oi ld) := HGIN.out.below hb68
          have HALL8 : Hid (∀ wX, Below w8.heap.size w8 wX → wX.cell? ⟨gd, 0, none⟩ = some (.int .i64 q.N) ∧ wX.cell? ⟨gd, 1, none⟩ = some (.int .i64 q.L) ∧ wX.cell? ⟨gd, 2, none⟩ = some (.slice od.A od.n od.c) ∧ wX.cell? ⟨g, 3, none⟩ = some (.slice (some ⟨b, off, none⟩) q.oc.n q.oc.c) ∧ wX.cell? ⟨b, off + t * 6, none⟩ = some (.int .i64 x.a) ∧ wX.cell? ⟨b, off + t * 6 + 1, none⟩ = some (.int .i64 x.r) ∧ wX.cell? ⟨b, off + t * 6 + 2, none⟩ = some (.slice ax.B.A ax.B.n ax.B.c) ∧ wX.cell? ⟨b, off + t * 6 + 3, none⟩ = some (.slice ax.P.A ax.P.n ax.P.c) ∧ wX.cell? ⟨b, off + t * 6 + 4, none⟩ = some (.int .i64 x.d) ∧ wX.cell? ⟨b, off + t * 6 + 5, none⟩ = some (.slice ax.S.A ax.S.n ax.S.c) ∧ wX.cell? ⟨gw, 0, none⟩ = some (.int .i64 0) ∧ wX.cell? ⟨gw, 1, none⟩ = some (.int .i64 0) ∧ wX.cell? ⟨gw, 2, none⟩ = some (.slice none 0 0) ∧ wX.cell? ⟨gi, 0, none⟩ = some (.int .i64 q.N) ∧ wX.cell? ⟨gi, 1, none⟩ = some (.int .i64 q.L) ∧ wX.cell? ⟨gi, 2, none⟩ = some (.slice oi.A oi.n oi.c) ∧ wX.cell? ⟨gc, 0, none⟩ = some (.int .i64 x.a) ∧ wX.cell? ⟨gc, 1, none⟩ = some (.int .i64 x.r) ∧ wX.cell? ⟨gc, 2, none⟩ = some (.slice ac.B.A ac.B.n ac.B.c) ∧ wX.cell? ⟨gc, 3, none⟩ = some (.slice ac.P.A ac.P.n ac.P.c) ∧ wX.cell? ⟨gc, 4, none⟩ = some (.int .i64 x.d) ∧ wX.cell? ⟨gc, 5, none⟩ = some (.slice ac.S.A ac.S.n ac.S.c)) := fun wX hb => by
            obtain ⟨m0, m1, m2, m3, m4, m5, m6, m7, m8, m9⟩ := HALLb.out wX (hbb8.trans (hb.mono hbb8.size))
            obtain ⟨k0, k1, k2⟩ := dag_cells ((HXW.out.below (hbb8.trans (hb.mono hbb8.size)) HXW.out.1))
            obtain ⟨i0, i1, i2⟩ := dag_cells ((HXI.out.below (hb68.trans (hb.mono hb68.size)) HXI.out.1))
            obtain ⟨c0, c1, c2, c3, c4, c5⟩ := crt_cells (hx8.below hb hx8.1)
            exact ⟨m0, m1, m2, m3, m4, m5, m6, m7, m8, m9, k0, k1, k2, i0, i1, i2, c0, c1, c2, c3, c4, c5⟩
          have HB8 := Lib.hid hbr8
          clear hgc hw8 hb78 hs78 hx8 hb7 hnc hb68 hbb6 e0 e1 e2 e3 e4 e5 e6 e7 e8 e9
          obtain ⟨e0, e1, e2, e3, e4, e5, e6, e7, e8, e9, e10, e11, e12, e13, e14, e15, e16, e17, e18, e19, e20, e21⟩ := HALL8.out w8 (Below.refl _ _)
          have HAD := Lib.hid (HADD.out oi ac w8 HGI8.out HCIN.out)
          unfold dagV crtV at HAD
          go_upto_region 16 with (go_at_call 15; refine HAD.out.mono ?_; rintro e w9 ⟨rfl, hb9⟩; dsimp only [dagV, noAd])
          obtain ⟨gx, hgx⟩ : ∃ gx, gx = w9.heap.size := ⟨_, rfl⟩
          obtain ⟨w10, hw10⟩ : ∃ w10, w10 = w9.alloc (.cells (dagC 0 0 noAd).toArray 24) := ⟨_, rfl⟩
          obtain ⟨hb910, -, hx10⟩ := boxes1 w9 _ _ hw10
          rw [← hgx] at hx10
          have HGXE : Hid (w9.heap.size = gx) := hgx.symm
          have HW10 : Hid (w9.alloc (.cells #[.int .i64 0, .int .i64 0, .slice none 0 0] 24) = w10) := hw10.symm
          rw [HGXE.out, HW10.out]
          have hb810 : Below w8.heap.size w8 w10 := hb9.trans (hb910.mono hb9.size)
          have HE1 : Hid (∀ wX, Below w10.heap.size w10 wX → Calls Try.prog 17 #[.agg #[.int .i64 0, .int .i64 0, .slice none 0 0], .agg #[.int .i64 0, .int .i64 0, .slice none 0 0]] wX (Tells wX.heap.size wX (.bool true))) := fun wX hb => eqDagA_is 0 0 noAd noAd [] wX (gIn_none _) (gIn_none _)
          have HE2 : Hid (∀ wX, Below w8.heap.size w8 wX → Calls Try.prog 17 #[.agg #[.int .i64 q.N, .int .i64 q.L, .slice oi.A oi.n oi.c], .agg #[.int .i64 q.N, .int .i64 q.L, .slice od.A od.n od.c]] wX (Tells wX.heap.size wX (.bool true))) := fun wX hb => eqDagA_is q.N q.L oi od ld wX (HGI8.out.below hb) (HGd.out.below (HB8.out.trans (hb.mono HB8.out.size)))
          have HE3 : Hid (∀ wX, Below w8.heap.size w8 wX → Calls Try.prog 18 #[.agg #[.int .i64 x.a, .int .i64 x.r, .slice ac.B.A ac.B.n ac.B.c, .slice ac.P.A ac.P.n ac.P.c, .int .i64 x.d, .slice ac.S.A ac.S.n ac.S.c], .agg #[.int .i64 x.a, .int .i64 x.r, .slice ax.B.A ax.B.n ax.B.c, .slice ax.P.A ax.P.n ax.P.c, .int .i64 x.d, .slice ax.S.A ax.S.n ax.S.c]] wX (Tells wX.heap.size wX (.bool true))) := fun wX hb => eqCA_is x ac ax wX (HCIN.out.below hb) (HCX.out wX (HB8.out.trans (hb.mono HB8.out.size))) HFX.out
          have HX10 := Lib.hid hx10
          have HB810 := Lib.hid hb810
          clear hgx hw10 hb910 hx10 hb9 e0 e1 e2 e3 e4 e5 e6 e7 e8 e9 e10 e11 e12 e13 e14 e15 e16 e17 e18 e19 e20 e21
          have p0 : ∀ z : Calm w10, z.val.cell? ⟨gd, 0, none⟩ = some (.int .i64 q.N) := fun z => (HALL8.out z.val (HB810.out.trans (z.ok.mono HB810.out.size))).1
          have p1 : ∀ z : Calm w10, z.val.cell? ⟨gd, 1, none⟩ = some (.int .i64 q.L) := fun z => (HALL8.out z.val (HB810.out.trans (z.ok.mono HB810.out.size))).2.1
          have p2 : ∀ z : Calm w10, z.val.cell? ⟨gd, 2, none⟩ = some (.slice od.A od.n od.c) := fun z => (HALL8.out z.val (HB810.out.trans (z.ok.mono HB810.out.size))).2.2.1
          have p3 : ∀ z : Calm w10, z.val.cell? ⟨g, 3, none⟩ = some (.slice (some ⟨b, off, none⟩) q.oc.n q.oc.c) := fun z => (HALL8.out z.val (HB810.out.trans (z.ok.mono HB810.out.size))).2.2.2.1
          have p4 : ∀ z : Calm w10, z.val.cell? ⟨b, off + t * 6, none⟩ = some (.int .i64 x.a) := fun z => (HALL8.out z.val (HB810.out.trans (z.ok.mono HB810.out.size))).2.2.2.2.1
          have p5 : ∀ z : Calm w10, z.val.cell? ⟨b, off + t * 6 + 1, none⟩ = some (.int .i64 x.r) := fun z => (HALL8.out z.val (HB810.out.trans (z.ok.mono HB810.out.size))).2.2.2.2.2.1
          have p6 : ∀ z : Calm w10, z.val.cell? ⟨b, off + t * 6 + 2, none⟩ = some (.slice ax.B.A ax.B.n ax.B.c) := fun z => (HALL8.out z.val (HB810.out.trans (z.ok.mono HB810.out.size))).2.2.2.2.2.2.1
          have p7 : ∀ z : Calm w10, z.val.cell? ⟨b, off + t * 6 + 3, none⟩ = some (.slice ax.P.A ax.P.n ax.P.c) := fun z => (HALL8.out z.val (HB810.out.trans (z.ok.mono HB810.out.size))).2.2.2.2.2.2.2.1
          have p8 : ∀ z : Calm w10, z.val.cell? ⟨b, off + t * 6 + 4, none⟩ = some (.int .i64 x.d) := fun z => (HALL8.out z.val (HB810.out.trans (z.ok.mono HB810.out.size))).2.2.2.2.2.2.2.2.1
          have p9 : ∀ z : Calm w10, z.val.cell? ⟨b, off + t * 6 + 5, none⟩ = some (.slice ax.S.A ax.S.n ax.S.c) := fun z => (HALL8.out z.val (HB810.out.trans (z.ok.mono HB810.out.size))).2.2.2.2.2.2.2.2.2.1
          have p10 : ∀ z : Calm w10, z.val.cell? ⟨gw, 0, none⟩ = some (.int .i64 0) := fun z => (HALL8.out z.val (HB810.out.trans (z.ok.mono HB810.out.size))).2.2.2.2.2.2.2.2.2.2.1
          have p11 : ∀ z : Calm w10, z.val.cell? ⟨gw, 1, none⟩ = some (.int .i64 0) := fun z => (HALL8.out z.val (HB810.out.trans (z.ok.mono HB810.out.size))).2.2.2.2.2.2.2.2.2.2.2.1
          have p12 : ∀ z : Calm w10, z.val.cell? ⟨gw, 2, none⟩ = some (.slice none 0 0) := fun z => (HALL8.out z.val (HB810.out.trans (z.ok.mono HB810.out.size))).2.2.2.2.2.2.2.2.2.2.2.2.1
          have p13 : ∀ z : Calm w10, z.val.cell? ⟨gi, 0, none⟩ = some (.int .i64 q.N) := fun z => (HALL8.out z.val (HB810.out.trans (z.ok.mono HB810.out.size))).2.2.2.2.2.2.2.2.2.2.2.2.2.1
          have p14 : ∀ z : Calm w10, z.val.cell? ⟨gi, 1, none⟩ = some (.int .i64 q.L) := fun z => (HALL8.out z.val (HB810.out.trans (z.ok.mono HB810.out.size))).2.2.2.2.2.2.2.2.2.2.2.2.2.2.1
          have p15 : ∀ z : Calm w10, z.val.cell? ⟨gi, 2, none⟩ = some (.slice oi.A oi.n oi.c) := fun z => (HALL8.out z.val (HB810.out.trans (z.ok.mono HB810.out.size))).2.2.2.2.2.2.2.2.2.2.2.2.2.2.2.1
          have p16 : ∀ z : Calm w10, z.val.cell? ⟨gc, 0, none⟩ = some (.int .i64 x.a) := fun z => (HALL8.out z.val (HB810.out.trans (z.ok.mono HB810.out.size))).2.2.2.2.2.2.2.2.2.2.2.2.2.2.2.2.1
          have p17 : ∀ z : Calm w10, z.val.cell? ⟨gc, 1, none⟩ = some (.int .i64 x.r) := fun z => (HALL8.out z.val (HB810.out.trans (z.ok.mono HB810.out.size))).2.2.2.2.2.2.2.2.2.2.2.2.2.2.2.2.2.1
          have p18 : ∀ z : Calm w10, z.val.cell? ⟨gc, 2, none⟩ = some (.slice ac.B.A ac.B.n ac.B.c) := fun z => (HALL8.out z.val (HB810.out.trans (z.ok.mono HB810.out.size))).2.2.2.2.2.2.2.2.2.2.2.2.2.2.2.2.2.2.1
          have p19 : ∀ z : Calm w10, z.val.cell? ⟨gc, 3, none⟩ = some (.slice ac.P.A ac.P.n ac.P.c) := fun z => (HALL8.out z.val (HB810.out.trans (z.ok.mono HB810.out.size))).2.2.2.2.2.2.2.2.2.2.2.2.2.2.2.2.2.2.2.1
          have p20 : ∀ z : Calm w10, z.val.cell? ⟨gc, 4, none⟩ = some (.int .i64 x.d) := fun z => (HALL8.out z.val (HB810.out.trans (z.ok.mono HB810.out.size))).2.2.2.2.2.2.2.2.2.2.2.2.2.2.2.2.2.2.2.2.1
          have p21 : ∀ z : Calm w10, z.val.cell? ⟨gc, 5, none⟩ = some (.slice ac.S.A ac.S.n ac.S.c) := fun z => (HALL8.out z.val (HB810.out.trans (z.ok.mono HB810.out.size))).2.2.2.2.2.2.2.2.2.2.2.2.2.2.2.2.2.2.2.2.2
          have y0 : ∀ z : Calm w10, z.val.cell? ⟨gx, 0, none⟩ = some (.int .i64 0) := fun z => (dag_cells (HX10.out.below z.ok HX10.out.1)).1
          have y1 : ∀ z : Calm w10, z.val.cell? ⟨gx, 1, none⟩ = some (.int .i64 0) := fun z => (dag_cells (HX10.out.below z.ok HX10.out.1)).2.1
          have y2 : ∀ z : Calm w10, z.val.cell? ⟨gx, 2, none⟩ = some (.slice none 0 0) := fun z => (dag_cells (HX10.out.below z.ok HX10.out.1)).2.2
          refine wp_region_calm (by kernel_rfl) (by kernel_rfl) ?_
          repeat (go_big_quiet_step (first
            | (go_at_call 16; exact calm_tells (numA_tells _ _))
            | (go_at_call 17; with_reducible exact calm_tells (HE1.out _ (Calm.ok _)))
            | (go_at_call 17; with_reducible exact calm_tells (HE2.out _ (HB810.out.trans ((Calm.ok _).mono HB810.out.size))))
            | (go_at_call 18; with_reducible exact calm_tells (HE3.out _ (HB810.out.trans ((Calm.ok _).mono HB810.out.size))))))
          refine wpQuiet_nil ?_
          rintro _ ⟨z, rfl⟩
          obtain ⟨w11, hwz⟩ : ∃ wz, wz = z.val := ⟨_, rfl⟩
          have hb1011 : Below w10.heap.size w10 w11 := by rw [hwz]; exact z.ok
          rw [← hwz]
          clear hwz z p0 p1 p2 p3 p4 p5 p6 p7 p8 p9 p10 p11 p12 p13 p14 p15 p16 p17 p18 p19 p20 p21 y0 y1 y2
          have hb811 : Below w8.heap.size w8 w11 := HB810.out.trans (hb1011.mono HB810.out.size)
          obtain ⟨x0, x1, x2⟩ := dag_cells (HX10.out.below hb1011 HX10.out.1)
          have HSP := Lib.hid (spoilCerts_any w8.heap.size noAd [] w11 (ownY_none _ _) (fun y hy => by simp at hy) (by simp) hb811.size)
          unfold noAd at HSP
          go_upto_region 19 with (go_at_call 19; refine HSP.out.mono ?_; rintro e w12 ⟨rfl, hb12⟩)
          have hb812 : Below w8.heap.size w8 w12 := hb811.trans hb12
          clear x0 x1 x2 hb12 hb1011 hb811
          have p0 : ∀ z : Calm w12, z.val.cell? ⟨gd, 0, none⟩ = some (.int .i64 q.N) := fun z => (HALL8.out z.val (hb812.trans (z.ok.mono hb812.size))).1
          have p1 : ∀ z : Calm w12, z.val.cell? ⟨gd, 1, none⟩ = some (.int .i64 q.L) := fun z => (HALL8.out z.val (hb812.trans (z.ok.mono hb812.size))).2.1
          have p2 : ∀ z : Calm w12, z.val.cell? ⟨gd, 2, none⟩ = some (.slice od.A od.n od.c) := fun z => (HALL8.out z.val (hb812.trans (z.ok.mono hb812.size))).2.2.1
          have p3 : ∀ z : Calm w12, z.val.cell? ⟨g, 3, none⟩ = some (.slice (some ⟨b, off, none⟩) q.oc.n q.oc.c) := fun z => (HALL8.out z.val (hb812.trans (z.ok.mono hb812.size))).2.2.2.1
          have p4 : ∀ z : Calm w12, z.val.cell? ⟨b, off + t * 6, none⟩ = some (.int .i64 x.a) := fun z => (HALL8.out z.val (hb812.trans (z.ok.mono hb812.size))).2.2.2.2.1
          have p5 : ∀ z : Calm w12, z.val.cell? ⟨b, off + t * 6 + 1, none⟩ = some (.int .i64 x.r) := fun z => (HALL8.out z.val (hb812.trans (z.ok.mono hb812.size))).2.2.2.2.2.1
          have p6 : ∀ z : Calm w12, z.val.cell? ⟨b, off + t * 6 + 2, none⟩ = some (.slice ax.B.A ax.B.n ax.B.c) := fun z => (HALL8.out z.val (hb812.trans (z.ok.mono hb812.size))).2.2.2.2.2.2.1
          have p7 : ∀ z : Calm w12, z.val.cell? ⟨b, off + t * 6 + 3, none⟩ = some (.slice ax.P.A ax.P.n ax.P.c) := fun z => (HALL8.out z.val (hb812.trans (z.ok.mono hb812.size))).2.2.2.2.2.2.2.1
          have p8 : ∀ z : Calm w12, z.val.cell? ⟨b, off + t * 6 + 4, none⟩ = some (.int .i64 x.d) := fun z => (HALL8.out z.val (hb812.trans (z.ok.mono hb812.size))).2.2.2.2.2.2.2.2.1
          have p9 : ∀ z : Calm w12, z.val.cell? ⟨b, off + t * 6 + 5, none⟩ = some (.slice ax.S.A ax.S.n ax.S.c) := fun z => (HALL8.out z.val (hb812.trans (z.ok.mono hb812.size))).2.2.2.2.2.2.2.2.2.1
          have p10 : ∀ z : Calm w12, z.val.cell? ⟨gw, 0, none⟩ = some (.int .i64 0) := fun z => (HALL8.out z.val (hb812.trans (z.ok.mono hb812.size))).2.2.2.2.2.2.2.2.2.2.1
          have p11 : ∀ z : Calm w12, z.val.cell? ⟨gw, 1, none⟩ = some (.int .i64 0) := fun z => (HALL8.out z.val (hb812.trans (z.ok.mono hb812.size))).2.2.2.2.2.2.2.2.2.2.2.1
          have p12 : ∀ z : Calm w12, z.val.cell? ⟨gw, 2, none⟩ = some (.slice none 0 0) := fun z => (HALL8.out z.val (hb812.trans (z.ok.mono hb812.size))).2.2.2.2.2.2.2.2.2.2.2.2.1
          have p13 : ∀ z : Calm w12, z.val.cell? ⟨gi, 0, none⟩ = some (.int .i64 q.N) := fun z => (HALL8.out z.val (hb812.trans (z.ok.mono hb812.size))).2.2.2.2.2.2.2.2.2.2.2.2.2.1
          have p14 : ∀ z : Calm w12, z.val.cell? ⟨gi, 1, none⟩ = some (.int .i64 q.L) := fun z => (HALL8.out z.val (hb812.trans (z.ok.mono hb812.size))).2.2.2.2.2.2.2.2.2.2.2.2.2.2.1
          have p15 : ∀ z : Calm w12, z.val.cell? ⟨gi, 2, none⟩ = some (.slice oi.A oi.n oi.c) := fun z => (HALL8.out z.val (hb812.trans (z.ok.mono hb812.size))).2.2.2.2.2.2.2.2.2.2.2.2.2.2.2.1
          have p16 : ∀ z : Calm w12, z.val.cell? ⟨gc, 0, none⟩ = some (.int .i64 x.a) := fun z => (HALL8.out z.val (hb812.trans (z.ok.mono hb812.size))).2.2.2.2.2.2.2.2.2.2.2.2.2.2.2.2.1
          have p17 : ∀ z : Calm w12, z.val.cell? ⟨gc, 1, none⟩ = some (.int .i64 x.r) := fun z => (HALL8.out z.val (hb812.trans (z.ok.mono hb812.size))).2.2.2.2.2.2.2.2.2.2.2.2.2.2.2.2.2.1
          have p18 : ∀ z : Calm w12, z.val.cell? ⟨gc, 2, none⟩ = some (.slice ac.B.A ac.B.n ac.B.c) := fun z => (HALL8.out z.val (hb812.trans (z.ok.mono hb812.size))).2.2.2.2.2.2.2.2.2.2.2.2.2.2.2.2.2.2.1
          have p19 : ∀ z : Calm w12, z.val.cell? ⟨gc, 3, none⟩ = some (.slice ac.P.A ac.P.n ac.P.c) := fun z => (HALL8.out z.val (hb812.trans (z.ok.mono hb812.size))).2.2.2.2.2.2.2.2.2.2.2.2.2.2.2.2.2.2.2.1
          have p20 : ∀ z : Calm w12, z.val.cell? ⟨gc, 4, none⟩ = some (.int .i64 x.d) := fun z => (HALL8.out z.val (hb812.trans (z.ok.mono hb812.size))).2.2.2.2.2.2.2.2.2.2.2.2.2.2.2.2.2.2.2.2.1
          have p21 : ∀ z : Calm w12, z.val.cell? ⟨gc, 5, none⟩ = some (.slice ac.S.A ac.S.n ac.S.c) := fun z => (HALL8.out z.val (hb812.trans (z.ok.mono hb812.size))).2.2.2.2.2.2.2.2.2.2.2.2.2.2.2.2.2.2.2.2.2
          refine wp_region_calm (by kernel_rfl) (by kernel_rfl) ?_
          repeat (go_big_quiet_step (first
            | (go_at_call 17; with_reducible exact calm_tells (HE2.out _ (hb812.trans ((Calm.ok _).mono hb812.size))))
            | (go_at_call 18; with_reducible exact calm_tells (HE3.out _ (hb812.trans ((Calm.ok _).mono hb812.size))))))
          refine wpQuiet_nil ?_
          rintro _ ⟨z, rfl⟩
          obtain ⟨w13, hwz⟩ : ∃ wz, wz = z.val := ⟨_, rfl⟩
          have hb813 : Below w8.heap.size w8 w13 := by rw [hwz]; exact hb812.trans (z.ok.mono hb812.size)
          rw [← hwz]
          clear hwz z p0 p1 p2 p3 p4 p5 p6 p7 p8 p9 p10 p11 p12 p13 p14 p15 p16 p17 p18 p19 p20 p21
          have HBR13 : Hid (Below wr.heap.size wr w13) := HB8.out.trans (hb813.mono HB8.out.size)
          have HB15 : Hid (Below w1.heap.size w1 w13) := HB1r.out.trans (HBR13.out.mono HB1r.out.size)
          go_wp2_with fail
          go_roundw
          case rel => exact ⟨t + 1, od, ld, by go_num, hlt, HXd.out.below HBR13.out HXd.out.1, HGd.out.below HBR13.out, by show _ ≤ _; have := HLD.out; omega, HFIT.out, HMD.out, HB15.out⟩
          case measure => simp [intOf]; omega

        · obtain rfl : t = q.oc.n := by omega
          have i1 : ¬ ((q.oc.n : Int) < (q.oc.n : Int)) := by omega
          have hbr := HB.out.trans (HB1r.out.mono (Nat.le_of_lt hgs))
          have hsr := HB1r.out.size
          clear hlt
          go_wp2_with (go_at_call 20; refine (wakesY_any _).mono ?_; rintro e w5 ⟨rfl, hb5⟩)
          go_ret
          exact ⟨rfl, hbr.trans (hb5.mono (by omega))⟩
  · go_wp2_with fail
    go_ret
    exact ⟨rfl, HB.out.trans (hb2.mono (Nat.le_of_lt hgs))⟩

end Go.Proofs.Ytejkeccoialogaa
