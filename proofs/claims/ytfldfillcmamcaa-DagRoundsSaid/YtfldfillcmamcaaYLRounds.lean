/-
  The walk of 'DagRounds'.
-/
import Derived.Test.YtfldfillcmamcaaYNew
import Derived.Test.YtfldfillcmamcaaYRMay
import Derived.Test.YtfldfillcmamcaaYRRnd
import Derived.Test.YtfldfillcmamcaaCalm
import Derived.Deep.RegionHeld3
namespace Go.Proofs.Ytfldfillcmamcaa
open Go.RowKit

theorem clones_gin {l : List CrtD} {B : Nat} {w : World} {o : Ad} {ms : List (CrtD × CrtA)} (h : OwnY B w o ms) (hm : ms.map Prod.fst = l) (hf : ∀ x ∈ l, CrtFit x) (hl : l.length ≤ 1000000) : GIn w o l ∧ ms.length ≤ 1000000 ∧ ∀ x ∈ ms, CrtFit x.1 := by
  have h1 : ms.length = l.length := by rw [← hm, List.length_map]
  have h2 : ∀ x ∈ ms, CrtFit x.1 := fun x hx => hf x.1 (by rw [← hm]; exact List.mem_map_of_mem hx)
  exact ⟨⟨ms, h.in_ h2 (by omega), hm⟩, by omega, h2⟩
theorem inR_len (l : List CrtD) (R : Int) : (inR l R).length ≤ l.length := by unfold inR; exact List.length_filter_le _ _

theorem eqDagT_is (N L : Int) (o o' : Ad) (l : List CrtD) (w : World) (h : GIn w o l) (h' : GIn w o' l) :
    Calls Try.prog 18 #[.agg #[.int .i64 N, .int .i64 L, .slice o.A o.n o.c], .agg #[.int .i64 N, .int .i64 L, .slice o'.A o'.n o'.c]] w fun e w' => e = .returned (.bool true) ∧ Below w.heap.size w w' := by
  have := eqDag_is N L o l N L o' l w h h'
  rwa [decide_eq_true (And.intro rfl (And.intro rfl rfl))] at this

set_option maxRecDepth 100000 in
set_option maxHeartbeats 8000000 in
theorem dagRounds_walk (q : AskD) (w : World) (h : AskIn w q) : Calls Try.prog 6 #[askV q] w fun e w' => e = .returned (.bool true) ∧ Below w.heap.size w w' := by
  obtain ⟨g, hg⟩ : ∃ g, g = w.heap.size := ⟨_, rfl⟩
  obtain ⟨w1, hw1⟩ : ∃ w1, w1 = w.alloc (.cells (askC q).toArray 28) := ⟨_, rfl⟩
  obtain ⟨hb1, hsz, hx0⟩ := boxes1 w _ _ hw1
  rw [← hg] at hb1 hsz hx0
  have HG : Hid (w.heap.size = g) := hg.symm
  have HW : Hid (w.alloc (.cells #[.int .i64 q.N, .int .i64 q.L, .slice q.o.A q.o.n q.o.c, .slice q.oc.A q.oc.n q.oc.c, .slice q.oi.A q.oi.n q.oi.c, .slice q.op.A q.op.n q.op.c] 28) = w1) := hw1.symm
  have HB := Lib.hid hb1
  have HX := Lib.hid hx0
  have HQ : Hid (∀ wX, Below g w wX → AskIn wX q) := fun wX hb => h.below (by rw [← hg]; exact hb)
  have HH := Lib.hid (heavy_is q w1 (h.below (by rw [← hg]; exact hb1)))
  have HD : Hid (∀ wX, Below w1.heap.size w1 wX → wX.cell? ⟨g, 0, none⟩ = some (.int .i64 q.N) ∧ wX.cell? ⟨g, 1, none⟩ = some (.int .i64 q.L) ∧ wX.cell? ⟨g, 2, none⟩ = some (.slice q.o.A q.o.n q.o.c) ∧ wX.cell? ⟨g, 3, none⟩ = some (.slice q.oc.A q.oc.n q.oc.c) ∧ wX.cell? ⟨g, 4, none⟩ = some (.slice q.oi.A q.oi.n q.oi.c) ∧ wX.cell? ⟨g, 5, none⟩ = some (.slice q.op.A q.op.n q.op.c)) := fun wX hb => ask_cells (HX.out.below hb HX.out.1)
  obtain ⟨a0, a1, a2, a3, a4, a5⟩ := ask_cells hx0
  have hgs := hx0.1
  clear hg hw1 hb1 hsz hx0 h
  rw [HG.out]
  unfold askV at HH ⊢
  go_enter Try.func6, Try.ntmps6
  go_upto_region 1 with fail
  rw [HG.out, HW.out]
  go_wp2_with (go_at_call 13; refine HH.out.mono ?_; rintro e w2 ⟨b, rfl, hlight, hb2⟩; obtain ⟨e0, e1, e2, e3, e4, e5⟩ := HD.out w2 hb2; cases b)
  · have hbw2 := HB.out.trans (hb2.mono (Nat.le_of_lt hgs))
    have HGI : Hid (∀ wX, Below w1.heap.size w1 wX → GIn wX q.o q.l) := fun wX hb => (HQ.out wX (HB.out.trans (hb.mono (Nat.le_of_lt hgs)))).d.gin (hlight (by simp)).d (by decide)
    have HGC : Hid (∀ wX, Below w1.heap.size w1 wX → GIn wX q.oc q.lc) := fun wX hb => (HQ.out wX (HB.out.trans (hb.mono (Nat.le_of_lt hgs)))).c.gin (hlight (by simp)).c (by decide)
    have hn40 : q.oi.n ≤ 40 := by have := (hlight (by simp)).i; have := (HQ.out _ hbw2).i.len; omega
    have hp40 : q.op.n ≤ 40 := by have := (hlight (by simp)).p; have := (HQ.out _ hbw2).p.len; omega
    have hc40 : q.oc.n ≤ 40 := by have := (hlight (by simp)).c.1; have := (HQ.out _ hbw2).c.row.len; omega
    have HLI : Hid (q.zs.length = q.oi.n) := (HQ.out _ hbw2).i.len
    have HLC : Hid (q.lc.length = q.oc.n) := (HGC.out _ hb2).len
    have HLL : Hid (q.l.length ≤ 1000000) := by have := (HGI.out _ hb2).len; have := (HGI.out _ hb2).few; show _ ≤ _; omega
    have HB12 := Lib.hid hb2
    clear hlight HH
    have HCY : Hid (∀ wX, Below w1.heap.size w1 wX → Calls Try.prog 17 #[.agg #[.int .i64 q.N, .int .i64 q.L, .slice q.o.A q.o.n q.o.c]] wX (RetChk q.N q.L q.l wX)) := fun wX hb => chkY_is q.N q.L q.o q.l wX (HGI.out wX hb)
    go_upto_region 4 with (go_at_call 17; refine (HCY.out _ hb2).mono ?_; rintro e w3 ⟨z, rfl, hz, hb3⟩)
    have hb13 : Below w1.heap.size w1 w3 := hb2.trans (hb3.mono hb2.size)
    clear e0 e1 e2 e3 e4 e5 hb2 HCY
    obtain ⟨e0, e1, e2, e3, e4, e5⟩ := HD.out w3 hb13
    rcases hz with ⟨hm, rfl⟩ | ⟨hm, rfl⟩
    · have HM : Hid (MayG q.N q.L q.l) := hm
      obtain ⟨tp, htp⟩ : ∃ tp, tp = topC q.l := ⟨_, rfl⟩
      clear hm
      have HTP : Hid (∀ wX, Below w1.heap.size w1 wX → Calls Try.prog 33 #[.agg #[.int .i64 q.N, .int .i64 q.L, .slice q.o.A q.o.n q.o.c]] wX fun e w' => e = .returned (.int .i64 tp) ∧ Below wX.heap.size wX w') := fun wX hb => by have := rTop_is q.N q.L q.o q.l wX (HGI.out wX hb); rwa [← htp] at this
      have HTC : Hid (∀ wX, Below w1.heap.size w1 wX → Calls Try.prog 34 #[.agg #[.int .i64 q.N, .int .i64 q.L, .slice q.o.A q.o.n q.o.c]] wX fun e w' => e = .returned (.tuple #[.int .i64 tp, .int .i64 0]) ∧ Below wX.heap.size wX w') := fun wX hb => by have := top_ok q.N q.L q.o q.l wX (HGI.out wX hb) HM.out; rwa [← htp] at this
      clear htp
      go_wp2_with (first
        | (go_at_call 33; refine (HTP.out _ hb13).mono ?_; rintro e w4 ⟨rfl, hb4⟩; have hb14 := hb13.trans (hb4.mono hb13.size); obtain ⟨f0, f1, f2, f3, f4, f5⟩ := HD.out w4 hb14)
        | (go_at_call 34; refine (HTC.out _ hb14).mono ?_; rintro e w5 ⟨rfl, hb5⟩; have hb15 := hb14.trans (hb5.mono hb14.size))
        | (go_at_call 15; refine (numY_any 0 _).mono ?_; rintro e w9 ⟨rfl, rfl⟩))
      have HB6 : Hid (Below w1.heap.size w1 w5) := hb15
      clear hb15 hb14 hb13 hb4 hb5 hb3 e0 e1 e2 e3 e4 e5 f0 f1 f2 f3 f4 f5 HTP HTC
      go_wp2_with fail
      go_loopw [7] (fun i wr => ∃ t : Nat, i = .int .i64 t ∧ t ≤ q.oi.n ∧ Hid (Below w1.heap.size w1 wr)) (fun i _ => q.oi.n - (intOf i).toNat)
      case atStart => exact ⟨0, rfl, Nat.zero_le _, HB6.out⟩
      case round =>
        clear a0 a1 a2 a3 a4 a5
        obtain ⟨t, rfl, ht, HBT⟩ := hrel
        obtain ⟨e0, e1, e2, e3, e4, e5⟩ := HD.out wr HBT.out
        by_cases hlt : t < q.oi.n
        · have i0 : (0 : Int) ≤ (t : Int) := by omega
          have i1 : (t : Int) < (q.oi.n : Int) := by omega
          obtain ⟨za, hza⟩ : ∃ z, q.zs[t]? = some z := ⟨_, List.getElem?_eq_getElem (by rw [HLI.out]; exact hlt)⟩
          have HSI := Lib.hid (HQ.out w1 HB.out).i
          obtain ⟨b, off, hA, hbl, hcell⟩ := HSI.out.rd.open_ (by rw [i64s_length, HLI.out]; omega)
          have hca := hcell t (.int .i64 za) (by simp [i64s, hza])
          have HALL : Hid (∀ wX, Below w1.heap.size w1 wX → wX.cell? ⟨g, 0, none⟩ = some (.int .i64 q.N) ∧ wX.cell? ⟨g, 1, none⟩ = some (.int .i64 q.L) ∧ wX.cell? ⟨g, 2, none⟩ = some (.slice q.o.A q.o.n q.o.c) ∧ wX.cell? ⟨g, 4, none⟩ = some (.slice (some ⟨b, off, none⟩) q.oi.n q.oi.c) ∧ wX.cell? ⟨b, off + t, none⟩ = some (.int .i64 za)) := fun wX hb => by
            obtain ⟨c0, c1, c2, -, c4, -⟩ := HD.out wX hb
            rw [hA] at c4
            exact ⟨c0, c1, c2, c4, (hb.cell (p := ⟨b, off + t, none⟩) hbl).trans hca⟩
          rw [hA] at e4
          have ec : wr.cell? ⟨b, off + t, none⟩ = some (.int .i64 za) := (HBT.out.cell (p := ⟨b, off + t, none⟩) hbl).trans hca
          clear hza hcell hA HSI hca
          have hb1r := HBT.out
          have HRP : Hid (∀ wX, Below w1.heap.size w1 wX → _) := fun wX hb => rRound_is q.N q.L za q.o q.l wX (HGI.out wX hb)
          have HRC : Hid (∀ wX, Below w1.heap.size w1 wX → _) := fun wX hb => round_ok q.N q.L za q.o q.l wX (HGI.out wX hb) HM.out
          obtain ⟨lr, hlr⟩ : ∃ lr, lr = inR q.l za := ⟨_, rfl⟩
          have HRL : Hid (lr.length ≤ 1000000) := by have := inR_len q.l za; have := HLL.out; show _ ≤ _; rw [hlr]; omega
          have HRF : Hid (∀ x ∈ lr, CrtFit x) := fun x hx => (HGI.out _ HBT.out).fit (by rw [hlr] at hx; exact (mem_inR.1 hx).1)
          unfold RoundOk at HRC
          rw [← hlr] at HRP HRC
          unfold dagV at HRP HRC
          clear hlr
          go_upto_region 15 with fail
          clear e0 e1 e2 e3 e4 e5 ec
          have KEEP : Hid (∀ wX, Below wr.heap.size wr wX → wX.cell? ⟨g, 0, none⟩ = some (.int .i64 q.N) ∧ wX.cell? ⟨g, 1, none⟩ = some (.int .i64 q.L) ∧ wX.cell? ⟨g, 2, none⟩ = some (.slice q.o.A q.o.n q.o.c) ∧ wX.cell? ⟨g, 4, none⟩ = some (.slice (some ⟨b, off, none⟩) q.oi.n q.oi.c) ∧ wX.cell? ⟨b, off + t, none⟩ = some (.int .i64 za)) := fun wX hb => HALL.out wX (hb1r.trans (hb.mono hb1r.size))
          obtain ⟨e0, e1, e2, e4, ec⟩ := KEEP.out wr (Below.refl _ _)
          go_region_held3 (fun wX => wX.cell? ⟨g, 0, none⟩ = some (.int .i64 q.N) ∧ wX.cell? ⟨g, 1, none⟩ = some (.int .i64 q.L) ∧ wX.cell? ⟨g, 2, none⟩ = some (.slice q.o.A q.o.n q.o.c) ∧ wX.cell? ⟨g, 4, none⟩ = some (.slice (some ⟨b, off, none⟩) q.oi.n q.oi.c) ∧ wX.cell? ⟨b, off + t, none⟩ = some (.int .i64 za))
            ((refine KEEP.out _ ?_; first
              | with_reducible exact (Below.refl _ _)
              | with_reducible exact (Below.refl _ _).drew
              | with_reducible exact hbr7))
            (first
              | (go_at_call 35; refine (HRP.out _ ?_).mono ?_
                 · exact hb1r.trans ((Below.refl _ _).drew.mono hb1r.size)
                 rintro e w7 ⟨⟨A8, n8, q8⟩, ms8, rfl, ho8, hm8, hbx8⟩
                 have hbr7 : Below wr.heap.size wr w7 := (Below.refl _ _).drew.trans (hbx8.mono (by simp))))
          clear e0 e1 e2 e4 ec KEEP
          have hb17 : Below w1.heap.size w1 w7 := hb1r.trans (hbr7.mono hb1r.size)
          go_upto_region 16 with fail
          have KEEP : Hid (∀ wX, Below w7.heap.size w7 wX → wX.cell? ⟨g, 0, none⟩ = some (.int .i64 q.N) ∧ wX.cell? ⟨g, 1, none⟩ = some (.int .i64 q.L) ∧ wX.cell? ⟨g, 2, none⟩ = some (.slice q.o.A q.o.n q.o.c) ∧ wX.cell? ⟨g, 4, none⟩ = some (.slice (some ⟨b, off, none⟩) q.oi.n q.oi.c) ∧ wX.cell? ⟨b, off + t, none⟩ = some (.int .i64 za)) := fun wX hb => HALL.out wX (hb17.trans (hb.mono hb17.size))
          obtain ⟨e0, e1, e2, e4, ec⟩ := KEEP.out w7 (Below.refl _ _)
          go_region_held3 (fun wX => wX.cell? ⟨g, 0, none⟩ = some (.int .i64 q.N) ∧ wX.cell? ⟨g, 1, none⟩ = some (.int .i64 q.L) ∧ wX.cell? ⟨g, 2, none⟩ = some (.slice q.o.A q.o.n q.o.c) ∧ wX.cell? ⟨g, 4, none⟩ = some (.slice (some ⟨b, off, none⟩) q.oi.n q.oi.c) ∧ wX.cell? ⟨b, off + t, none⟩ = some (.int .i64 za))
            ((refine KEEP.out _ ?_; first
              | with_reducible exact (Below.refl _ _)
              | with_reducible exact (Below.refl _ _).drew
              | with_reducible exact hb78))
            (first
              | (go_at_call 36; refine (HRC.out _ ?_).mono ?_
                 · exact hb17.trans ((Below.refl _ _).drew.mono hb17.size)
                 rintro e w8 ⟨⟨A9, n9, q9⟩, ms9, rfl, ho9, hm9, hbx9⟩
                 have hb78 : Below w7.heap.size w7 w8 := (Below.refl _ _).drew.trans (hbx9.mono (by simp))))
          clear e0 e1 e2 e4 ec KEEP
          have hb18 : Below w1.heap.size w1 w8 := hb17.trans (hb78.mono hb17.size)
          have HO8 : Hid (OwnY w1.heap.size w8 ⟨A8, n8, q8⟩ ms8) := (ho8.below hb78).more (by have := hb1r.size; simp; omega)
          have HO9 : Hid (OwnY w1.heap.size w8 ⟨A9, n9, q9⟩ ms9) := ho9.more (by have := hb17.size; simp; omega)
          have HM9 : Hid (ms9.map Prod.fst = lr) := hm9
          have HEQ : Hid (Calls Try.prog 37 #[.slice A9 n9 q9, .slice A8 n8 q8] w8 fun e w' => e = .returned (.bool true) ∧ Below w8.heap.size w8 w') := by
            have := eqCerts_is ⟨A9, n9, q9⟩ ⟨A8, n8, q8⟩ lr lr w8 (clones_gin HO9.out hm9 HRF.out HRL.out).1 (clones_gin HO8.out hm8 HRF.out HRL.out).1
            rwa [decide_eq_true rfl] at this
          clear ho8 ho9 hm8 hm9 hbx8 hbx9 HRP HRC hbr7 hb78 HO8
          go_upto_region 19 with (first
            | (go_at_call 15; refine (numY_any 0 _).mono ?_; rintro e w9 ⟨rfl, rfl⟩)
            | (go_at_call 37; refine HEQ.out.mono ?_; rintro e w10 ⟨rfl, hb10⟩))
          have hb110 := hb18.trans (hb10.mono hb18.size)
          have HO9' := HO9
          have HO9 : Hid (OwnY w1.heap.size w10 ⟨A9, n9, q9⟩ ms9) := HO9'.out.below hb10
          clear HO9' hb10 hb18 hb17 HEQ
          obtain ⟨f0, f1, f2, -, -, -⟩ := HD.out w10 hb110
          have HCD : Hid (∀ wX, Below w1.heap.size w1 wX → Calls Try.prog 14 #[.agg #[.int .i64 q.N, .int .i64 q.L, .slice q.o.A q.o.n q.o.c]] wX (CopyDagTo q.N q.L q.l wX)) := fun wX hb => copyDag_is q.N q.L q.o q.l wX (HGI.out wX hb)
          go_upto_region 20 with (go_at_call 14; refine (HCD.out _ hb110).mono ?_; rintro e w12 ⟨od, ms12, rfl, ho12, hm12, hb12⟩; dsimp only [dagV])
          obtain ⟨gd, hgd⟩ : ∃ gd, gd = w12.heap.size := ⟨_, rfl⟩
          obtain ⟨w13, hw13⟩ : ∃ w13, w13 = w12.alloc (.cells (dagC q.N q.L od).toArray 24) := ⟨_, rfl⟩
          obtain ⟨hb1213, -, hx13⟩ := boxes1 w12 _ _ hw13
          rw [← hgd] at hx13
          have HGDE : Hid (w12.heap.size = gd) := hgd.symm
          have HW13 : Hid (w12.alloc (.cells #[.int .i64 q.N, .int .i64 q.L, .slice od.A od.n od.c] 24) = w13) := hw13.symm
          rw [HGDE.out, HW13.out]
          have hbz13 : Below w10.heap.size w10 w13 := hb12.trans (hb1213.mono hb12.size)
          have hb113 : Below w1.heap.size w1 w13 := hb110.trans (hbz13.mono hb110.size)
          have HGO : Hid (GIn w13 od q.l) := ((clones_gin ho12 hm12 (fun x hx => (HGI.out _ hb110).fit hx) HLL.out).1).below hb1213
          have HOD : Hid (OwnY w10.heap.size w13 od ms12) := ho12.below hb1213
          have HX13 := Lib.hid hx13
          have HGDL : Hid (w10.heap.size ≤ gd) := by have := hb12.size; show _ ≤ _; rw [hgd]; exact this
          have HMD : Hid (ms12.map Prod.fst = q.l) := hm12
          clear f0 f1 f2 hgd hw13 hb1213 hx13 hb12 ho12 hm12 HCD
          obtain ⟨-, hl11, hf11⟩ := clones_gin HO9.out HM9.out (fun x hx => HRF.out x hx) HRL.out
          have HSP := Lib.hid (spoilCerts_far w1.heap.size ⟨A9, n9, q9⟩ ms9 w13 (HO9.out.below hbz13) hf11 hl11 hb113.size)
          have HKEEP : Hid (∀ k, rowYHas ⟨A9, n9, q9⟩ ms9 k → w1.heap.size ≤ k ∧ k < w10.heap.size) := by
            show ∀ k, _
            rintro k (hk | ⟨y, hy, hk⟩)
            · have := own_lt HO9.out.row hk; omega
            · have := (HO9.out.sub y hy).lt hk; omega
          clear hl11 hf11
          go_wp2_with (first
            | (go_at_call 26; refine HSP.out.mono ?_; rintro e w14 ⟨rfl, ht14⟩
               have hb114 : Below w1.heap.size w1 w14 := hb113.trans (ht14.below (fun k hk => (HKEEP.out k hk).1) hb113.size)
               obtain ⟨r0, r1, r2⟩ := dag_cells (HX13.out.touch ht14 (fun hk => by have := (HKEEP.out _ hk).2; have := HGDL.out; omega))
               obtain ⟨s0, s1, s2, -, -, -⟩ := HD.out w14 hb114
               have HGO14 : Hid (GIn w14 od q.l) := (clones_gin (HOD.out.touch ht14 (fun k hk => (HKEEP.out k hk).2)) HMD.out (fun x hx => (HGI.out _ hb114).fit hx) HLL.out).1)
            | (go_at_call 18; refine (eqDagT_is q.N q.L od q.o q.l _ HGO14.out (HGI.out _ hb114)).mono ?_; rintro e w15 ⟨rfl, hb15⟩))
          have HB15 : Hid (Below w1.heap.size w1 w15) := hb114.trans (hb15.mono hb114.size)
          go_roundw
          case rel => exact ⟨t + 1, by go_num, hlt, HB15.out⟩
          case measure => simp [intOf]; omega
        · obtain rfl : t = q.oi.n := by omega
          have i1 : ¬ ((q.oi.n : Int) < (q.oi.n : Int)) := by omega
          have hbr := HB.out.trans (HBT.out.mono (Nat.le_of_lt hgs))
          have hsr := HBT.out.size
          clear hlt
          go_wp2_with (go_at_call 21; refine (wakesY_any _).mono ?_; rintro e w5 ⟨rfl, hb5⟩)
          go_ret
          exact ⟨rfl, hbr.trans (hb5.mono (by omega))⟩
    · have HM : Hid (¬ MayG q.N q.L q.l) := hm
      clear hm
      have HTC : Hid (∀ wX, Below w1.heap.size w1 wX → Calls Try.prog 34 #[.agg #[.int .i64 q.N, .int .i64 q.L, .slice q.o.A q.o.n q.o.c]] wX fun e w' => e = .returned (.tuple #[.int .i64 0, .int .i64 1]) ∧ Below wX.heap.size wX w') := fun wX hb => top_bad q.N q.L q.o q.l wX (HGI.out wX hb) HM.out
      go_wp2_with (first
        | (go_at_call 34; refine (HTC.out _ hb13).mono ?_; rintro e w5 ⟨rfl, hb5⟩; have hb15 := hb13.trans (hb5.mono hb13.size))
        | (go_at_call 15; refine (numY_any 1 _).mono ?_; rintro e w9 ⟨rfl, rfl⟩))
      have HB6 : Hid (Below w1.heap.size w1 w5) := hb15
      clear hb15 hb13 hb5 hb3 e0 e1 e2 e3 e4 e5 HTC
      go_wp2_with fail
      go_loopw [7] (fun i wr => ∃ t : Nat, i = .int .i64 t ∧ t ≤ q.oi.n ∧ Hid (Below w1.heap.size w1 wr)) (fun i _ => q.oi.n - (intOf i).toNat)
      case atStart => exact ⟨0, rfl, Nat.zero_le _, HB6.out⟩
      case round =>
        clear a0 a1 a2 a3 a4 a5
        obtain ⟨t, rfl, ht, HBT⟩ := hrel
        obtain ⟨e0, e1, e2, e3, e4, e5⟩ := HD.out wr HBT.out
        by_cases hlt : t < q.oi.n
        · have i0 : (0 : Int) ≤ (t : Int) := by omega
          have i1 : (t : Int) < (q.oi.n : Int) := by omega
          obtain ⟨za, hza⟩ : ∃ z, q.zs[t]? = some z := ⟨_, List.getElem?_eq_getElem (by rw [HLI.out]; exact hlt)⟩
          have HSI := Lib.hid (HQ.out w1 HB.out).i
          obtain ⟨b, off, hA, hbl, hcell⟩ := HSI.out.rd.open_ (by rw [i64s_length, HLI.out]; omega)
          have hca := hcell t (.int .i64 za) (by simp [i64s, hza])
          have HALL : Hid (∀ wX, Below w1.heap.size w1 wX → wX.cell? ⟨g, 0, none⟩ = some (.int .i64 q.N) ∧ wX.cell? ⟨g, 1, none⟩ = some (.int .i64 q.L) ∧ wX.cell? ⟨g, 2, none⟩ = some (.slice q.o.A q.o.n q.o.c) ∧ wX.cell? ⟨g, 4, none⟩ = some (.slice (some ⟨b, off, none⟩) q.oi.n q.oi.c) ∧ wX.cell? ⟨b, off + t, none⟩ = some (.int .i64 za)) := fun wX hb => by
            obtain ⟨c0, c1, c2, -, c4, -⟩ := HD.out wX hb
            rw [hA] at c4
            exact ⟨c0, c1, c2, c4, (hb.cell (p := ⟨b, off + t, none⟩) hbl).trans hca⟩
          rw [hA] at e4
          have ec : wr.cell? ⟨b, off + t, none⟩ = some (.int .i64 za) := (HBT.out.cell (p := ⟨b, off + t, none⟩) hbl).trans hca
          clear hza hcell hA HSI hca
          have hb1r := HBT.out
          have HRC : Hid (∀ wX, Below w1.heap.size w1 wX → _) := fun wX hb => round_bad q.N q.L za q.o q.l wX (HGI.out wX hb) HM.out
          unfold dagV at HRC
          go_upto_region 16 with fail
          clear e0 e1 e2 e3 e4 e5 ec
          have p0 : ∀ z : Calm wr, z.val.cell? ⟨g, 0, none⟩ = some (.int .i64 q.N) := fun z => (HALL.out z.val (hb1r.trans (z.ok.mono hb1r.size))).1
          have p1 : ∀ z : Calm wr, z.val.cell? ⟨g, 1, none⟩ = some (.int .i64 q.L) := fun z => (HALL.out z.val (hb1r.trans (z.ok.mono hb1r.size))).2.1
          have p2 : ∀ z : Calm wr, z.val.cell? ⟨g, 2, none⟩ = some (.slice q.o.A q.o.n q.o.c) := fun z => (HALL.out z.val (hb1r.trans (z.ok.mono hb1r.size))).2.2.1
          have p3 : ∀ z : Calm wr, z.val.cell? ⟨g, 4, none⟩ = some (.slice (some ⟨b, off, none⟩) q.oi.n q.oi.c) := fun z => (HALL.out z.val (hb1r.trans (z.ok.mono hb1r.size))).2.2.2.1
          have p4 : ∀ z : Calm wr, z.val.cell? ⟨b, off + t, none⟩ = some (.int .i64 za) := fun z => (HALL.out z.val (hb1r.trans (z.ok.mono hb1r.size))).2.2.2.2
          refine wp_region_calm (by kernel_rfl) (by kernel_rfl) ?_
          repeat (go_big_quiet_step ((go_at_call 36; exact calm_tells (HRC.out _ (hb1r.trans ((Calm.ok _).mono hb1r.size))))))
          refine wpQuiet_nil ?_
          rintro _ ⟨z, rfl⟩
          obtain ⟨w8, hwz⟩ : ∃ wz, wz = z.val := ⟨_, rfl⟩
          have hb18 : Below w1.heap.size w1 w8 := by rw [hwz]; exact hb1r.trans (z.ok.mono hb1r.size)
          rw [← hwz]
          clear hwz z p0 p1 p2 p3 p4 HRC
          have HEQ : Hid (Calls Try.prog 37 #[.slice none 0 0, .slice none 0 0] w8 fun e w' => e = .returned (.bool true) ∧ Below w8.heap.size w8 w') := by
            have := eqCerts_is noAd noAd [] [] w8 (gIn_none _) (gIn_none _)
            rwa [decide_eq_true rfl] at this
          go_upto_region 19 with (first
            | (go_at_call 15; refine (numY_any 1 _).mono ?_; rintro e w9 ⟨rfl, rfl⟩)
            | (go_at_call 37; refine HEQ.out.mono ?_; rintro e w10 ⟨rfl, hb10⟩))
          have hb110 := hb18.trans (hb10.mono hb18.size)
          clear hb10 hb18 HEQ
          obtain ⟨f0, f1, f2, -, -, -⟩ := HD.out w10 hb110
          have HCD : Hid (∀ wX, Below w1.heap.size w1 wX → Calls Try.prog 14 #[.agg #[.int .i64 q.N, .int .i64 q.L, .slice q.o.A q.o.n q.o.c]] wX (CopyDagTo q.N q.L q.l wX)) := fun wX hb => copyDag_is q.N q.L q.o q.l wX (HGI.out wX hb)
          go_upto_region 20 with (go_at_call 14; refine (HCD.out _ hb110).mono ?_; rintro e w12 ⟨od, ms12, rfl, ho12, hm12, hb12⟩; dsimp only [dagV])
          obtain ⟨gd, hgd⟩ : ∃ gd, gd = w12.heap.size := ⟨_, rfl⟩
          obtain ⟨w13, hw13⟩ : ∃ w13, w13 = w12.alloc (.cells (dagC q.N q.L od).toArray 24) := ⟨_, rfl⟩
          obtain ⟨hb1213, -, hx13⟩ := boxes1 w12 _ _ hw13
          rw [← hgd] at hx13
          have HGDE : Hid (w12.heap.size = gd) := hgd.symm
          have HW13 : Hid (w12.alloc (.cells #[.int .i64 q.N, .int .i64 q.L, .slice od.A od.n od.c] 24) = w13) := hw13.symm
          rw [HGDE.out, HW13.out]
          have hbz13 : Below w10.heap.size w10 w13 := hb12.trans (hb1213.mono hb12.size)
          have hb113 : Below w1.heap.size w1 w13 := hb110.trans (hbz13.mono hb110.size)
          have HGO : Hid (GIn w13 od q.l) := ((clones_gin ho12 hm12 (fun x hx => (HGI.out _ hb110).fit hx) HLL.out).1).below hb1213
          have HOD : Hid (OwnY w10.heap.size w13 od ms12) := ho12.below hb1213
          have HX13 := Lib.hid hx13
          have HGDL : Hid (w10.heap.size ≤ gd) := by have := hb12.size; show _ ≤ _; rw [hgd]; exact this
          clear f0 f1 f2 hgd hw13 hb1213 hx13 hb12 ho12 hm12 HCD
          have HSP := Lib.hid (spoilCerts_any w13.heap.size noAd [] w13 (ownY_none _ _) (fun x hx => by simp at hx) (by simp) (Nat.le_refl _))
          unfold noAd at HSP
          go_wp2_with (first
            | (go_at_call 26; refine HSP.out.mono ?_; rintro e w14 ⟨rfl, hb14⟩; have hb114 := hb113.trans (hb14.mono hb113.size); obtain ⟨r0, r1, r2⟩ := dag_cells (HX13.out.below hb14 HX13.out.1); obtain ⟨s0, s1, s2, -, -, -⟩ := HD.out w14 hb114)
            | (go_at_call 18; refine (eqDagT_is q.N q.L od q.o q.l _ (HGO.out.below hb14) (HGI.out _ hb114)).mono ?_; rintro e w15 ⟨rfl, hb15⟩))
          have HB15 : Hid (Below w1.heap.size w1 w15) := hb114.trans (hb15.mono hb114.size)
          go_roundw
          case rel => exact ⟨t + 1, by go_num, hlt, HB15.out⟩
          case measure => simp [intOf]; omega
        · obtain rfl : t = q.oi.n := by omega
          have i1 : ¬ ((q.oi.n : Int) < (q.oi.n : Int)) := by omega
          have hbr := HB.out.trans (HBT.out.mono (Nat.le_of_lt hgs))
          have hsr := HBT.out.size
          clear hlt
          go_wp2_with (go_at_call 21; refine (wakesY_any _).mono ?_; rintro e w5 ⟨rfl, hb5⟩)
          go_ret
          exact ⟨rfl, hbr.trans (hb5.mono (by omega))⟩
  · go_wp2_with fail
    go_ret
    exact ⟨rfl, HB.out.trans (hb2.mono (Nat.le_of_lt hgs))⟩

end Go.Proofs.Ytfldfillcmamcaa
