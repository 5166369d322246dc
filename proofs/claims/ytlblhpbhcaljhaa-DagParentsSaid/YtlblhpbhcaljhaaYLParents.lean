/-
  The walk of 'DagParents'.
-/
import Derived.Test.YtlblhpbhcaljhaaYNew
import Derived.Test.YtlblhpbhcaljhaaYPar
import Derived.Deep.RegionHeld3
namespace Go.Proofs.Ytlblhpbhcaljhaa
open Go.RowKit

set_option maxRecDepth 100000 in
set_option maxHeartbeats 40000000 in
theorem dagParents_walk (q : AskD) (w : World) (h : AskIn w q) : Calls Try.prog 11 #[askV q] w fun e w' => e = .returned (.bool true) ∧ Below w.heap.size w w' := by
  obtain ⟨g, hg⟩ : ∃ g, g = w.heap.size := ⟨_, rfl⟩
  obtain ⟨w1, hw1⟩ : ∃ w1, w1 = w.alloc (.cells (askC q).toArray 28) := ⟨_, rfl⟩
  obtain ⟨hb1, hsz, hx0⟩ := boxes1 w _ _ hw1
  rw [← hg] at hb1 hsz hx0
  have HG : Hid (w.heap.size = g) := hg.symm
  have HW : Hid (w.alloc (.cells #[.int .i64 q.N, .int .i64 q.L, .slice q.o.A q.o.n q.o.c, .slice q.oc.A q.oc.n q.oc.c, .slice q.oi.A q.oi.n q.oi.c, .slice q.op.A q.op.n q.op.c] 28) = w1) := hw1.symm
  have HB := Lib.hid hb1
  have HX := Lib.hid hx0
  have HQ : Hid (∀ wX, Below g w wX → AskIn wX q) := fun wX hb => h.below (by rw [← hg]; exact hb)
  have HH := Lib.hid (heavy_is q w1 (h.below (by rw [← hg]; exact hb1)))
  have HD : Hid (∀ wX, Below w1.heap.size w1 wX → wX.cell? ⟨g, 0, none⟩ = some (.int .i64 q.N) ∧ wX.cell? ⟨g, 1, none⟩ = some (.int .i64 q.L) ∧ wX.cell? ⟨g, 2, none⟩ = some (.slice q.o.A q.o.n q.o.c)) := fun wX hb => by
    obtain ⟨a0, a1, a2, _⟩ := ask_cells (HX.out.below hb HX.out.1)
    exact ⟨a0, a1, a2⟩
  obtain ⟨a0, a1, a2, a3, a4, a5⟩ := ask_cells hx0
  have hgs := hx0.1
  clear hg hw1 hb1 hsz hx0 h
  rw [HG.out]
  unfold askV at HH ⊢
  go_enter Try.func11, Try.ntmps11
  go_upto_region 1 with fail
  rw [HG.out, HW.out]
  by_cases hmay : MayG q.N q.L q.l
  · have HM := Lib.hid hmay
    clear hmay
    go_wp2_with (go_at_call 12; refine HH.out.mono ?_; rintro e w2 ⟨b, rfl, hlight, hb2⟩; obtain ⟨e0, e1, e2⟩ := HD.out w2 hb2; cases b)
    · have hbw2 := HB.out.trans (hb2.mono (Nat.le_of_lt hgs))
      have HGI : Hid (∀ wX, Below g w wX → GIn wX q.o q.l) := fun wX hb => (HQ.out wX hb).d.gin (hlight (by simp)).d (by decide)
      have HCH := Lib.hid (check_ok (HGI.out _ hbw2) HM.out)
      unfold dagV at HCH
      clear hlight
      go_upto_region 3 with (first
        | (go_at_call 15; refine HCH.out.mono ?_; rintro e w3 ⟨rfl, hb3⟩)
        | (go_at_call 14; refine (numY_any _ _).mono ?_; rintro e w4 ⟨rfl, rfl⟩))
      have hgw2 : g ≤ w2.heap.size := Nat.le_trans (Nat.le_of_lt hgs) hb2.size
      have hb13 := hb2.trans (hb3.mono hb2.size)
      have HB13 := Lib.hid hb13
      have hn80 : q.o.n ≤ 1000000 := (HGI.out _ hbw2).few
      have HLN : Hid (q.l.length = q.o.n) := (HGI.out _ hbw2).len
      have HGET : Hid (∀ (i : Nat) (x : CrtD), q.l[i]? = some x → ∃ (b off : Nat) (a : CrtA), q.o.A = some ⟨b, off, none⟩ ∧ b < w2.heap.size ∧ CrtFit x ∧ ∀ wX, Below w2.heap.size w2 wX → CrtAt wX b off i x a) := fun i x hx => (HGI.out _ hbw2).get hx
      have HB12 := Lib.hid hb2
      have HB23 := Lib.hid hb3
      clear HCH HH
      have HTOP := Lib.hid (top_ok q.N q.L q.o q.l w3 (HGI.out _ (HB.out.trans (hb13.mono (Nat.le_of_lt hgs)))) HM.out)
      unfold dagV at HTOP
      obtain ⟨T, hT⟩ : ∃ T, T = topC q.l := ⟨_, rfl⟩
      have hT0 := top_most HM.out
      rw [← hT] at HTOP hT0
      have HT := Lib.hid hT
      have hL0 := HM.out.l0
      have hL1 := HM.out.l1
      obtain ⟨Q, hQ⟩ : ∃ Q, Q = quoN q.N := ⟨_, rfl⟩
      have HQUO : Hid (∀ wX, Calls Try.prog 45 #[.int .i64 q.N] wX fun e w' => e = .returned (.int .i64 Q) ∧ wX = w') := fun wX => rquo_is q.N Q HM.out.n hQ.symm wX
      have HQE := Lib.hid hQ
      obtain ⟨e30, e31, e32⟩ := HD.out w3 hb13
      clear hT hQ e0 e1 e2 hb13
      go_upto_region 7 with (first
        | (go_at_call 38; refine HTOP.out.mono ?_; rintro e w4 ⟨rfl, hb4⟩; have HB24 : Hid (Below w2.heap.size w2 w4) := HB23.out.trans (hb4.mono HB23.out.size); obtain ⟨e40, e41, e42⟩ := HD.out w4 (HB12.out.trans (HB24.out.mono HB12.out.size)))
        | (go_at_call 14; refine (numY_any _ _).mono ?_; rintro e w5 ⟨rfl, rfl⟩))
      go_loopw [5] (fun i wr => ∃ r : Int, i = .int .i64 r ∧ q.L + 1 ≤ r ∧ r ≤ q.L + 100 ∧ Hid (Below w2.heap.size w2 wr)) (fun i _ => (q.L + 100 - intOf i).toNat)
      case atStart => exact ⟨q.L + 1, by first | rfl | simp, by omega, by omega, HB24.out⟩
      case round =>
        clear e30 e31 e32 e40 e41 e42 a0 a1 a2 a3 a4 a5
        obtain ⟨r, rfl, hr1, hr2, HBR⟩ := hrel
        have hb1r : Below w1.heap.size w1 wr := HB12.out.trans (HBR.out.mono HB12.out.size)
        obtain ⟨e0, e1, e2⟩ := HD.out wr hb1r
        by_cases hlt : r ≤ T
        · by_cases hrl : r < q.L + 100
          · obtain ⟨hc1, hc2, hc3⟩ := round_count HM.out (r := r) (by omega) (by rw [← HT.out]; exact hlt)
            rw [← HT.out, ← HQE.out] at hc3
            have HRD := Lib.hid (round_ok q.N q.L r q.o q.l wr (HGI.out _ (HB.out.trans (hb1r.mono (Nat.le_of_lt hgs)))) HM.out)
            unfold dagV at HRD
            have HC1 := Lib.hid hc1
            have HC2 := Lib.hid hc2
            have HC3 := Lib.hid hc3
            clear hc1 hc2 hc3
            go_upto_region 10 with (go_at_call 40; refine HRD.out.mono ?_; rintro e w5 ⟨⟨A5, n5, q5⟩, ms5, rfl, ho5, hm5, hb5⟩)
            have hfit5 : ∀ x ∈ inR q.l r, CrtFit x := fun x hx => (HGI.out _ (HB.out.trans (hb1r.mono (Nat.le_of_lt hgs)))).fit (mem_inR.1 hx).1
            have hl5 : ms5.length = (inR q.l r).length := by rw [← hm5, List.length_map]
            have hn5 : n5 = (inR q.l r).length := by rw [← hl5]; exact ho5.len.symm
            have hc1 := HC1.out
            have hc2 := HC2.out
            have hc3 := HC3.out
            rw [← hn5] at hc1 hc2 hc3
            have hN16 := HM.out.pos
            have HG5 : Hid (∀ wX, Below w5.heap.size w5 wX → GIn wX ⟨A5, n5, q5⟩ (inR q.l r)) := fun wX hb => ⟨ms5, (ho5.in_ (fun x hx => hfit5 x.1 (by rw [← hm5]; exact List.mem_map_of_mem hx)) (by rw [hl5, ← hn5]; omega)).below hb, hm5⟩
            have HN5 := Lib.hid hn5
            clear hfit5 hl5 hn5 ho5 hm5
            have hs5 := hb5.size
            have hsr := HBR.out.size
            have HB25 : Hid (Below w2.heap.size w2 w5) := HBR.out.trans (hb5.mono hsr)
            have hb15 : Below w1.heap.size w1 w5 := HB12.out.trans (HB25.out.mono HB12.out.size)
            clear e0 e1 e2
            obtain ⟨e50, e51, e52⟩ := HD.out w5 hb15
            have j1 : ((n5 : Int) == 0) = false := by simp; omega
            have i3 : ¬ (q.N < (n5 : Int)) := by omega
            obtain ⟨hN1, hN2, hN3⟩ := hN16
            have HSTEP : r < T ∧ ¬ ((n5 : Int) < Q) ∨ ¬ (r < T) := by
              by_cases h : r < T
              · exact .inl ⟨h, by have := hc3 h; omega⟩
              · exact .inr h
            clear hc3
            rcases HSTEP with ⟨i4, i5⟩ | i4
            all_goals
              go_upto_region 13 with (first
                | (go_at_call 14; refine (numY_any _ _).mono ?_; rintro e w6 ⟨rfl, rfl⟩)
                | (go_at_call 45; refine (HQUO.out _).mono ?_; rintro e w6 ⟨rfl, rfl⟩))
              clear e50 e51 e52
              go_loopw [8] (fun i wr => ∃ t : Nat, i = .int .i64 t ∧ t ≤ n5 ∧ Hid (Below w5.heap.size w5 wr)) (fun i _ => n5 - (intOf i).toNat)
              case atStart => exact ⟨0, rfl, Nat.zero_le _, Below.refl _ _⟩
              case round =>
                obtain ⟨t, rfl, ht, HB6⟩ := hrel
                have hb16 : Below w1.heap.size w1 wr := hb15.trans (HB6.out.mono hb15.size)
                obtain ⟨e60, e61, e62⟩ := HD.out wr hb16
                by_cases hrb : q.L + 1 < r
                · by_cases htl : t < n5
                  · obtain ⟨x, hx⟩ : ∃ x, (inR q.l r)[t]? = some x := ⟨_, List.getElem?_eq_getElem (by rw [← HN5.out]; exact htl)⟩
                    obtain ⟨b, off, a, hA, hbl, -, hce⟩ := (HG5.out _ (Below.refl _ _)).get hx
                    obtain ⟨hxl, hxr⟩ := mem_inR.1 (List.mem_of_getElem? hx)
                    obtain ⟨-, -, -, -, hxq⟩ := ok_hdr (HM.out.of_mem hxl).1
                    have hxq := hxq (by omega)
                    rw [← HQE.out] at hxq
                    have HPAR : Hid (∀ p ∈ x.P, ∃ y, y.r = r - 1 ∧ q.l[cutF (neD p) q.l]? = some y) := fun p hp => by
                      obtain ⟨y, h1, h2, h3⟩ := parent_in HM.out hxl (by omega) hp
                      exact ⟨y, by rw [(mem_inR.1 h1).2, hxr], h3⟩
                    obtain ⟨aB, ⟨PA, Pn, Pc⟩, aS⟩ := a
                    have HCE := Lib.hid hce
                    simp only at hA
                    have HA := Lib.hid hA
                    have hPn : x.P.length = Pn := (hce _ (Below.refl _ _)).in_.p.len
                    have hPf : Pn ≤ 100000 := by rw [← hPn]; exact ((HG5.out _ (Below.refl _ _)).fit (List.mem_of_getElem? hx)).lP
                    rw [hPn] at hxq
                    have HPN := Lib.hid hPn
                    clear hx hxl hxr hce hPn hA
                    rw [HA.out]
                    have i6 : (t : Int) < (n5 : Int) := by omega
                    have i7 : (0 : Int) ≤ (t : Int) := by omega
                    go_upto_region 17 with fail
                    clear e60 e61 e62
                    go_loopw [9, 10] (fun nv kv wr => ∃ k : Nat, nv = .int .i64 k ∧ kv = .int .i64 k ∧ k ≤ Pn ∧ Hid (Below w5.heap.size w5 wr)) (fun _ i _ => Pn - (intOf i).toNat)
                    case atStart => exact ⟨0, rfl, rfl, Nat.zero_le _, HB6.out⟩
                    case round =>
                      obtain ⟨k, rfl, rfl, hk, HB7⟩ := hrel
                      have hb17 : Below w1.heap.size w1 wr := hb15.trans (HB7.out.mono hb15.size)
                      obtain ⟨e70, e71, e72⟩ := HD.out wr hb17
                      obtain ⟨k0, k1, k2, k3, k4, k5, hcin⟩ := HCE.out wr HB7.out
                      simp only at k3
                      by_cases hkl : k < Pn
                      · obtain ⟨p, hp⟩ : ∃ p, x.P[k]? = some p := ⟨_, List.getElem?_eq_getElem (by rw [HPN.out]; exact hkl)⟩
                        obtain ⟨y, hyr, hyf⟩ := HPAR.out p (List.mem_of_getElem? hp)
                        have HYR := Lib.hid hyr
                        obtain ⟨pb, po, hPA, hpbl, hpc⟩ := hcin.p.rd.open_ (by rw [i64s_length, HPN.out]; omega)
                        have hpk := hpc k (.int .i64 p) (by rw [i64s, List.getElem?_map, hp]; rfl)
                        simp only at hPA
                        have HPA := Lib.hid hPA
                        rw [HPA.out] at k3
                        have HFD : Hid (∀ wX, Below wr.heap.size wr wX → Calls Try.prog 32 #[dagV q.N q.L q.o, .int .i64 p] wX (FindOk y wX)) := fun wX hbX => find_ok q.N q.L p q.o q.l y wX (HGI.out _ ((HB.out.trans (hb17.mono (Nat.le_of_lt hgs))).trans (hbX.mono (Nat.le_trans (Nat.le_of_lt hgs) hb17.size)))) HM.out hyf
                        unfold dagV at HFD
                        have i8 : (k : Int) < (Pn : Int) := by omega
                        have i9 : (0 : Int) ≤ (k : Int) := by omega
                        clear hp hyr hyf hcin hpc hPA
                        go_upto_region 19 with fail
                        have hs7 := HB7.out.size
                        have hbw : b < wr.heap.size := Nat.lt_of_lt_of_le hbl hs7
                        have hgw : g < wr.heap.size := Nat.lt_of_lt_of_le hgs hb17.size
                        have KEEP : Hid (∀ X, Below wr.heap.size wr X → X.cell? ⟨g, 0, none⟩ = some (.int .i64 q.N) ∧ X.cell? ⟨g, 1, none⟩ = some (.int .i64 q.L) ∧ X.cell? ⟨g, 2, none⟩ = some (.slice q.o.A q.o.n q.o.c) ∧ X.cell? ⟨b, off + t * 6 + 3, none⟩ = some (.slice (some ⟨pb, po, none⟩) Pn Pc) ∧ X.cell? ⟨pb, po + k, none⟩ = some (.int .i64 p)) := fun X hX =>
                          ⟨(hX.cell (p := ⟨g, 0, none⟩) hgw).trans e70, (hX.cell (p := ⟨g, 1, none⟩) hgw).trans e71, (hX.cell (p := ⟨g, 2, none⟩) hgw).trans e72, (hX.cell (p := ⟨b, off + t * 6 + 3, none⟩) hbw).trans k3, (hX.cell (p := ⟨pb, po + k, none⟩) hpbl).trans hpk⟩
                        clear k0 k1 k2 k4 k5
                        go_region_held3 (fun X => X.cell? ⟨g, 0, none⟩ = some (.int .i64 q.N) ∧ X.cell? ⟨g, 1, none⟩ = some (.int .i64 q.L) ∧ X.cell? ⟨g, 2, none⟩ = some (.slice q.o.A q.o.n q.o.c) ∧ X.cell? ⟨b, off + t * 6 + 3, none⟩ = some (.slice (some ⟨pb, po, none⟩) Pn Pc) ∧ X.cell? ⟨pb, po + k, none⟩ = some (.int .i64 p))
                          ((refine KEEP.out _ ?_; first
                            | with_reducible exact (Below.refl _ _)
                            | with_reducible exact (Below.refl _ _).drew
                            | with_reducible exact ((Below.refl _ _).alloc (Nat.le_refl _) _)
                            | with_reducible exact ((Below.refl _ _).alloc (Nat.le_refl _) _).drew
                            | with_reducible exact hbk8
                            | with_reducible exact (hbk8.alloc hbk8.size _)
                            | exact hbk9 _ _ _ _ _ _))
                          (first
                            | (go_at_call 32; refine (HFD.out _ ?_).mono ?_
                               · exact (Below.refl _ _).drew
                               rintro e w8 ⟨a8, rfl, -, hb8⟩; dsimp only [crtV]
                               have hbk8 : Below wr.heap.size wr w8 := (Below.refl _ _).drew.trans (hb8.mono (by simp)))
                            | (go_at_call 32; refine (HFD.out _ ?_).mono ?_
                               · exact ((Below.refl _ _).alloc (Nat.le_refl _) _).drew
                               rintro e w8 ⟨a8, rfl, -, hb8⟩; dsimp only [crtV]
                               have hbk8 : Below wr.heap.size wr w8 := ((Below.refl _ _).alloc (Nat.le_refl _) _).drew.trans (hb8.mono (by simp))
                               have hbk9 : ∀ v0 v1 v2 v3 v4 v5, Below wr.heap.size wr ((((((w8.setCell ⟨wr.heap.size, 0, none⟩ v0).setCell ⟨wr.heap.size, 1, none⟩ v1).setCell ⟨wr.heap.size, 2, none⟩ v2).setCell ⟨wr.heap.size, 3, none⟩ v3).setCell ⟨wr.heap.size, 4, none⟩ v4).setCell ⟨wr.heap.size, 5, none⟩ v5) := fun v0 v1 v2 v3 v4 v5 => (((((hbk8.setCell (p := ⟨wr.heap.size, 0, none⟩) (Nat.le_refl _) v0).setCell (p := ⟨wr.heap.size, 1, none⟩) (Nat.le_refl _) v1).setCell (p := ⟨wr.heap.size, 2, none⟩) (Nat.le_refl _) v2).setCell (p := ⟨wr.heap.size, 3, none⟩) (Nat.le_refl _) v3).setCell (p := ⟨wr.heap.size, 4, none⟩) (Nat.le_refl _) v4).setCell (p := ⟨wr.heap.size, 5, none⟩) (Nat.le_refl _) v5
                               have hbx : Box w8 wr.heap.size (crtC zeroC6 zeroCA) := ((box_new wr (crtC zeroC6 zeroCA) 45).below (Below.refl (wr.heap.size + 1) _).drew (Nat.lt_succ_self _)).below hb8 (by simp)
                               obtain ⟨b0, b1, b2, b3, b4, b5⟩ := crt_cells hbx
                               have f0 := (hbx.2 0 _ rfl).2
                               have f1 := (hbx.2 1 _ rfl).2
                               have f2 := (hbx.2 2 _ rfl).2
                               have f3 := (hbx.2 3 _ rfl).2
                               have f4 := (hbx.2 4 _ rfl).2
                               have f5 := (hbx.2 5 _ rfl).2))
                        all_goals
                          have hs58 : w5.heap.size ≤ w8.heap.size := Nat.le_trans hs7 hbk8.size
                          have hb58 : Below w5.heap.size w5 w8 := HB7.out.trans (hbk8.mono hs7)
                          have j5 : (y.r == r - 1) = true := by simp [HYR.out]
                          go_wp2_with (go_at_call 14; refine (numY_any _ _).mono ?_; rintro e w9 ⟨rfl, rfl⟩)
                          go_roundw
                          case rel => exact ⟨k + 1, by go_num, by go_num, hkl, by first | exact HB7.out.trans ((hbk9 _ _ _ _ _ _).mono hs7) | exact hb58.alloc hs58 _⟩
                          case measure => simp [intOf]; omega
                      · obtain rfl : k = Pn := by omega
                        have i8 : ¬ ((k : Int) < (k : Int)) := by omega
                        have i9 : ¬ ((k : Int) < Q) := by omega
                        go_wp2_with (go_at_call 45; refine (HQUO.out _).mono ?_; rintro e w9 ⟨rfl, rfl⟩)
                        go_roundw
                        case rel => exact ⟨t + 1, by go_num, htl, HB7.out⟩
                        case measure => simp [intOf]; omega
                  · have i6 : ¬ ((t : Int) < (n5 : Int)) := by omega
                    have HB26 : Hid (Below w2.heap.size w2 wr) := HB25.out.trans (HB6.out.mono HB25.out.size)
                    go_wp2_with fail
                    go_roundw
                    case rel => exact ⟨r + 1, by go_num, by omega, by omega, HB26.out⟩
                    case measure => simp [intOf]; omega
                · by_cases htl : t < n5
                  · have i6 : (t : Int) < (n5 : Int) := by omega
                    have HB26 : Hid (Below w2.heap.size w2 wr) := HB25.out.trans (HB6.out.mono HB25.out.size)
                    go_wp2_with fail
                    go_roundw
                    case rel => exact ⟨r + 1, by go_num, by omega, by omega, HB26.out⟩
                    case measure => simp [intOf]; omega
                  · have i6 : ¬ ((t : Int) < (n5 : Int)) := by omega
                    have HB26 : Hid (Below w2.heap.size w2 wr) := HB25.out.trans (HB6.out.mono HB25.out.size)
                    go_wp2_with fail
                    go_roundw
                    case rel => exact ⟨r + 1, by go_num, by omega, by omega, HB26.out⟩
                    case measure => simp [intOf]; omega
          · have i1 : ¬ (r < q.L + 100) := by omega
            have hfin := HB.out.trans (hb1r.mono (Nat.le_of_lt hgs))
            go_wp2_with (go_at_call 20; refine (wakesY_any _).mono ?_; rintro e w5 ⟨rfl, hb5⟩)
            go_ret
            exact ⟨rfl, hfin.trans (hb5.mono (Nat.le_trans (Nat.le_of_lt hgs) hb1r.size))⟩
        · have i1 : ¬ (r ≤ T) := hlt
          have hfin := HB.out.trans (hb1r.mono (Nat.le_of_lt hgs))
          go_wp2_with (go_at_call 20; refine (wakesY_any _).mono ?_; rintro e w5 ⟨rfl, hb5⟩)
          go_ret
          exact ⟨rfl, hfin.trans (hb5.mono (Nat.le_trans (Nat.le_of_lt hgs) hb1r.size))⟩
    · go_wp2_with fail
      go_ret
      exact ⟨rfl, HB.out.trans (hb2.mono (Nat.le_of_lt hgs))⟩
  · have HM := Lib.hid hmay
    clear hmay
    go_wp2_with (go_at_call 12; refine HH.out.mono ?_; rintro e w2 ⟨b, rfl, hlight, hb2⟩; obtain ⟨e0, e1, e2⟩ := HD.out w2 hb2; cases b)
    · have hbw2 := HB.out.trans (hb2.mono (Nat.le_of_lt hgs))
      have HGI : Hid (∀ wX, Below g w wX → GIn wX q.o q.l) := fun wX hb => (HQ.out wX hb).d.gin (hlight (by simp)).d (by decide)
      have HCH := Lib.hid (check_bad (HGI.out _ hbw2) HM.out)
      unfold dagV at HCH
      clear hlight
      go_wp2_with (first
        | (go_at_call 15; refine HCH.out.mono ?_; rintro e w3 ⟨rfl, hb3⟩)
        | (go_at_call 14; refine (numY_any _ _).mono ?_; rintro e w4 ⟨rfl, rfl⟩))
      go_ret
      exact ⟨rfl, hbw2.trans (hb3.mono (Nat.le_trans (Nat.le_of_lt hgs) hb2.size))⟩
    · go_wp2_with fail
      go_ret
      exact ⟨rfl, HB.out.trans (hb2.mono (Nat.le_of_lt hgs))⟩

end Go.Proofs.Ytlblhpbhcaljhaa
