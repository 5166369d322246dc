/-
  The page's Lacks: parents that are not there, of a header.
-/
import Derived.Test.YtejkeccoialogaaYApiA
import Derived.Test.YtejkeccoialogaaYMiss
import Derived.Test.YtejkeccoialogaaYPar
import Derived.Test.YtejkeccoialogaaHCert
namespace Go.Proofs.Ytejkeccoialogaa
open Go.RowKit

def hdrC (x : CrtD) (a : CrtA) : List Value := [.int .i64 x.a, .int .i64 x.r, .slice a.B.A a.B.n a.B.c, .slice a.P.A a.P.n a.P.c]
def hdrV (x : CrtD) (a : CrtA) : Value := .agg #[.int .i64 x.a, .int .i64 x.r, .slice a.B.A a.B.n a.B.c, .slice a.P.A a.P.n a.P.c]
theorem hdr_cells {w : World} {g : Nat} {x : CrtD} {a : CrtA} (h : Box w g (hdrC x a)) : w.cell? ⟨g, 0, none⟩ = some (.int .i64 x.a) ∧ w.cell? ⟨g, 1, none⟩ = some (.int .i64 x.r) ∧ w.cell? ⟨g, 2, none⟩ = some (.slice a.B.A a.B.n a.B.c) ∧ w.cell? ⟨g, 3, none⟩ = some (.slice a.P.A a.P.n a.P.c) :=
  ⟨(h.2 0 _ rfl).1, (h.2 1 _ rfl).1, (h.2 2 _ rfl).1, (h.2 3 _ rfl).1⟩
/-- is this parent not there? -/
def lackF (l : List CrtD) (R p : Int) : Bool := match findC l p with | none => true | some y => decide (y.r ≠ R)
theorem lackF_none {l : List CrtD} {R p : Int} (h : l[cutF (neD p) l]? = none) : lackF l R p = true := by unfold lackF; rw [findC_cut, h]
theorem lackF_some {l : List CrtD} {R p : Int} {y : CrtD} (h : l[cutF (neD p) l]? = some y) : lackF l R p = decide (y.r ≠ R) := by unfold lackF; rw [findC_cut, h]

set_option maxRecDepth 100000 in
set_option maxHeartbeats 8000000 in
theorem rLacks_is (N L : Int) (o : Ad) (l : List CrtD) (x : CrtD) (a : CrtA) (w : World) (h : GIn w o l) (hi : CIn w x a) (hf : CrtFit x) (hL : 0 ≤ L ∧ L ≤ 1099511627776) (hr : 0 ≤ x.r ∧ x.r ≤ 1099511627776) :
    Calls Try.prog 46 #[dagV N L o, hdrV x a] w (NewI (lacksP L l x) w) := by
  obtain ⟨g, hg⟩ : ∃ g, g = w.heap.size := ⟨_, rfl⟩
  obtain ⟨w1, hw1⟩ : ∃ w1, w1 = ((w.alloc (.cells (dagC N L o).toArray 24)).alloc (.cells (hdrC x a).toArray 35)) := ⟨_, rfl⟩
  obtain ⟨hb1, hsz, hx0, hx1⟩ := boxes2 w _ _ _ _ hw1
  rw [← hg] at hb1 hsz hx0 hx1
  have HG : Hid (w.heap.size = g) := hg.symm
  have HW : Hid (((w.alloc (.cells #[.int .i64 N, .int .i64 L, .slice o.A o.n o.c] 24)).alloc (.cells #[.int .i64 x.a, .int .i64 x.r, .slice a.B.A a.B.n a.B.c, .slice a.P.A a.P.n a.P.c] 35)) = w1) := hw1.symm
  have HIN : Hid (∀ wX, Below g w wX → GIn wX o l) := fun wX hb => h.below (by rw [← hg]; exact hb)
  have HCI : Hid (∀ wX, Below g w wX → CIn wX x a) := fun wX hb => hi.below (by rw [← hg]; exact hb)
  have HB := Lib.hid hb1
  have HX0 := Lib.hid hx0
  have HX1 := Lib.hid hx1
  have hgs := hx0.1
  have hlP := hf.lP
  have hnP := hi.p.len
  have HL := Lib.hid hL
  have HRR := Lib.hid hr
  have hL0 := hL.1
  have hL1 := hL.2
  have hr0 := hr.1
  have hr1 := hr.2
  obtain ⟨d0, d1, d2⟩ := dag_cells hx0
  obtain ⟨c0, c1, c2, c3⟩ := hdr_cells hx1
  have HD : Hid (∀ wX, Below w1.heap.size w1 wX → (wX.cell? ⟨g, 0, none⟩ = some (.int .i64 N) ∧ wX.cell? ⟨g, 1, none⟩ = some (.int .i64 L) ∧ wX.cell? ⟨g, 2, none⟩ = some (.slice o.A o.n o.c)) ∧ (wX.cell? ⟨g + 1, 0, none⟩ = some (.int .i64 x.a) ∧ wX.cell? ⟨g + 1, 1, none⟩ = some (.int .i64 x.r) ∧ wX.cell? ⟨g + 1, 2, none⟩ = some (.slice a.B.A a.B.n a.B.c) ∧ wX.cell? ⟨g + 1, 3, none⟩ = some (.slice a.P.A a.P.n a.P.c))) := fun wX hb => ⟨dag_cells (HX0.out.below hb HX0.out.1), hdr_cells (HX1.out.below hb HX1.out.1)⟩
  have HLEN : Hid (l.length = o.n) := h.len
  have hfew := h.few
  have HGET : Hid (∀ (i : Nat) (y : CrtD), l[i]? = some y → ∃ (b off : Nat) (a : CrtA), o.A = some ⟨b, off, none⟩ ∧ b < w.heap.size ∧ CrtFit y ∧ ∀ wX, Below w.heap.size w wX → CrtAt wX b off i y a) := fun i y hy => h.get hy
  clear hg hw1 hb1 hsz hx0 hx1 h hi hf hL hr
  by_cases h1 : x.r - 1 ≤ L
  · have HN : Hid (lacksP L l x = []) := by show _ = _; rw [lacksP, if_pos h1]
    unfold dagV hdrV
    go_enter Try.func46, Try.ntmps46
    go_upto_region 1 with fail
    rw [HG.out, HW.out]
    go_wp2_with fail
    go_ret
    rw [HN.out]
    exact newI_nil _ _ (by rw [HG.out]; exact HB.out)
  · have HN : Hid (lacksP L l x = x.P.filter (lackF l (x.r - 1))) := by show _ = _; rw [lacksP, if_neg h1]; rfl
    obtain ⟨f, hff⟩ : ∃ f : Int → Bool, f = lackF l (x.r - 1) := ⟨_, rfl⟩
    have HFF : Hid (∀ p, f p = lackF l (x.r - 1) p) := fun p => by rw [hff]
    rw [← hff] at HN
    clear hff
    obtain ⟨pn, hpn⟩ : ∃ pn, pn = a.P.n := ⟨_, rfl⟩
    obtain ⟨PA, hPA⟩ : ∃ PA, PA = a.P.A := ⟨_, rfl⟩
    have HPR : Hid (∀ wX, Below g w wX → Rd wX PA (i64s x.P)) := fun wX hb => by rw [hPA]; exact (HCI.out _ hb).p.rd
    have HPL : Hid (x.P.length = pn) := by show _ = _; rw [hpn]; exact hnP
    have hpl : pn ≤ 100000 := by omega
    rw [← hPA, ← hpn] at c3 HD
    clear hnP hlP
    unfold dagV hdrV
    rw [← hPA, ← hpn]
    rw [← hPA, ← hpn] at HW
    clear hpn hPA
    go_enter Try.func46, Try.ntmps46
    go_upto_region 1 with fail
    rw [HG.out, HW.out]
    go_wp2_with fail
    go_loopw [5, 6] (fun v i wr => ∃ k q : Nat, i = .int .i64 k ∧ k ≤ pn ∧ q ≤ k ∧ Hid (wr.ownsRow w1.heap.size 3 1 v q (i64s ((x.P.take k).filter f)) ∧ q = ((x.P.take k).filter f).length) ∧ Hid (Below w1.heap.size w1 wr)) (fun _ i _ => pn - (intOf i).toNat)
    case atStart => exact ⟨0, 0, rfl, by omega, by omega, ⟨by rw [List.take_zero]; exact World.ownsRow_nil _ _ _ _, by simp⟩, Below.refl _ _⟩
    case round =>
      clear d0 d1 d2 c0 c1 c2 c3
      obtain ⟨k, q, rfl, hk, hqk, HO, HBR⟩ := hrel
      have hbr := HB.out.trans (HBR.out.mono (Nat.le_of_lt hgs))
      by_cases hlt : k < pn
      · obtain ⟨p, hp⟩ : ∃ p, x.P[k]? = some p := ⟨_, List.getElem?_eq_getElem (by rw [HPL.out]; exact hlt)⟩
        obtain ⟨b, off, rfl, hbl, hcell⟩ := (HPR.out _ hbr).open_ (by rw [i64s_length, HPL.out]; omega)
        have hc1 := hcell k (.int .i64 p) (by simp [i64s, hp])
        have HX := Lib.hid (filter_next (f := f) hp)
        obtain ⟨zi, hzi⟩ : ∃ zi, zi = idxF (neD p) l := ⟨_, rfl⟩
        have HFI : Hid (∀ wX, Below wr.heap.size wr wX → Calls Try.prog 41 #[dagV N L o, .int .i64 p] wX fun e w' => e = .returned (.int .i64 zi) ∧ Below wX.heap.size wX w') := fun wX hbX => by
          rw [hzi]
          exact rFind_is N L p o l wX (HIN.out _ (hbr.trans (hbX.mono (Nat.le_trans (Nat.le_of_lt hgs) HBR.out.size))))
        unfold dagV at HFI
        have HZI := Lib.hid hzi
        have HC1 := Lib.hid hc1
        clear hcell hp hzi
        obtain ⟨⟨e0, e1, e2⟩, g0, g1, g2, g3⟩ := HD.out wr HBR.out
        have i0 : (0 : Int) ≤ (k : Int) := by omega
        have i1 : (k : Int) < (pn : Int) := by omega
        go_upto_region 7 with fail
        clear e0 e1 e2 g0 g1 g2 g3
        have p0 : ∀ z : Calm wr, z.val.cell? ⟨g, 0, none⟩ = some (.int .i64 N) := fun z => (HD.out z.val (HBR.out.trans (z.ok.mono HBR.out.size))).1.1
        have p1 : ∀ z : Calm wr, z.val.cell? ⟨g, 1, none⟩ = some (.int .i64 L) := fun z => (HD.out z.val (HBR.out.trans (z.ok.mono HBR.out.size))).1.2.1
        have p2 : ∀ z : Calm wr, z.val.cell? ⟨g, 2, none⟩ = some (.slice o.A o.n o.c) := fun z => (HD.out z.val (HBR.out.trans (z.ok.mono HBR.out.size))).1.2.2
        have p3 : ∀ z : Calm wr, z.val.cell? ⟨g + 1, 3, none⟩ = some (.slice (some ⟨b, off, none⟩) pn a.P.c) := fun z => (HD.out z.val (HBR.out.trans (z.ok.mono HBR.out.size))).2.2.2.2
        have p4 : ∀ z : Calm wr, z.val.cell? ⟨b, off + k, none⟩ = some (.int .i64 p) := fun z => (z.ok.cell (p := ⟨b, off + k, none⟩) hbl).trans HC1.out
        refine wp_region_calm (by kernel_rfl) (by kernel_rfl) ?_
        repeat (go_big_quiet_step (first
          | (go_at_call 41; exact calm_tells (HFI.out _ (Calm.ok _)))))
        refine wpQuiet_nil ?_
        rintro _ ⟨z, rfl⟩
        obtain ⟨w4, hw4⟩ : ∃ w4, w4 = z.val := ⟨_, rfl⟩
        have hb4 : Below wr.heap.size wr w4 := by rw [hw4]; exact z.ok
        rw [← hw4]
        clear hw4 z p0 p1 p2 p3 p4
        cases hh : l[cutF (neD p) l]? with
        | none =>
          have hz0 : zi < 0 := by rw [HZI.out]; exact idxF_neg.2 hh
          have hfp : f p = true := by rw [HFF.out]; exact lackF_none hh
          have HT : Hid ((x.P.take (k + 1)).filter f = (x.P.take k).filter f ++ [p]) := by show _ = _; rw [HX.out, hfp]; simp
          clear hh hfp HX
          go_upto_region 8 with fail
          refine wp_region_calm (by kernel_rfl) (by kernel_rfl) ?_
          repeat (go_big_quiet_step (fail))
          refine wpQuiet_nil ?_
          rintro _ ⟨z, rfl⟩
          obtain ⟨w5, hw5⟩ : ∃ w5, w5 = z.val := ⟨_, rfl⟩
          have hb5 : Below w4.heap.size w4 w5 := by rw [hw5]; exact z.ok
          rw [← hw5]
          clear hw5 z
          have hb5r : Below wr.heap.size wr w5 := hb4.trans (hb5.mono hb4.size)
          have hb15 : Below w1.heap.size w1 w5 := HBR.out.trans (hb5r.mono HBR.out.size)
          obtain ⟨⟨e0, e1, e2⟩, g0, g1, g2, g3⟩ := HD.out w5 hb15
          have hc5 : w5.cell? ⟨b, off + k, none⟩ = some (.int .i64 p) := (hb5r.cell (p := ⟨b, off + k, none⟩) hbl).trans HC1.out
          have hO5 := own_below HO.out.1 hb5r
          go_wp2_with (at_builtin; refine wpList_app_one _ rfl _ _ 25 rfl w1.heap.size 3 (.int .i64 0) 8 Try.underlying25 info_i64 rfl (by decide) _ q _ rfl (hO5.alloc _) w5.heap.size (.int .i64 p) rfl (cell_new _ _ _) rfl (by omega) (by have := hb15.size; simp; omega) ?_)
          intro v' w6 hown6 hb6
          have hown7 : w6.ownsRow w1.heap.size 3 1 v' (q + 1) (i64s ((x.P.take (k + 1)).filter f)) := by rw [HT.out, i64s_append]; exact hown6
          have hbw6 : Below w1.heap.size w1 w6 := (hb15.alloc hb15.size (.cells #[.int .i64 p] 3)).trans hb6
          clear hown6 hO5
          go_wp2
          go_roundw
          case rel =>
            refine ⟨k + 1, q + 1, by go_num, by omega, by omega, ⟨hown7, ?_⟩, hbw6⟩
            rw [HT.out, List.length_append, ← HO.out.2]; rfl
          case measure => simp [intOf]; omega
        | some y =>
          obtain ⟨hz1, -⟩ := idxF_pos hh
          have hcl := (List.getElem?_eq_some_iff.1 hh).1
          rw [HLEN.out] at hcl
          have hfp : f p = decide (y.r ≠ x.r - 1) := by rw [HFF.out]; exact lackF_some hh
          obtain ⟨b2, off2, a2, hA2, -, -, hce⟩ := HGET.out _ _ hh
          obtain ⟨c, hcc⟩ : ∃ c, c = cutF (neD p) l := ⟨_, rfl⟩
          rw [← hcc] at hz1 hcl hce
          have HA2 := Lib.hid hA2
          have HCE : Hid (∀ wX, Below g w wX → CrtAt wX b2 off2 c y a2) := fun wX hb => hce wX (by rw [HG.out]; exact hb)
          obtain rfl : zi = (c : Int) := HZI.out.trans hz1
          have i5 : (0 : Int) ≤ (c : Int) := by omega
          have i6 : (c : Int) < (o.n : Int) := by omega
          have i7 : ¬ ((c : Int) < 0) := by omega
          clear hcc hA2 hce hh hz1
          by_cases hy : y.r = x.r - 1
          · have j1 : (y.r == x.r - 1) = true := by simp [hy]
            have j2 : (y.r != x.r - 1) = false := by simp [hy]
            have hfp : f p = false := by rw [hfp]; simp [hy]
            have HT : Hid ((x.P.take (k + 1)).filter f = (x.P.take k).filter f) := by show _ = _; rw [HX.out, hfp]; simp
            clear hfp HX hy
            go_upto_region 8 with fail
            have p2 : ∀ z : Calm w4, z.val.cell? ⟨g, 2, none⟩ = some (.slice (some ⟨b2, off2, none⟩) o.n o.c) := fun z => by
              rw [← HA2.out]
              exact (HD.out z.val (HBR.out.trans ((hb4.trans (z.ok.mono hb4.size)).mono HBR.out.size))).1.2.2
            have p3 : ∀ z : Calm w4, z.val.cell? ⟨g + 1, 1, none⟩ = some (.int .i64 x.r) := fun z => (HD.out z.val (HBR.out.trans ((hb4.trans (z.ok.mono hb4.size)).mono HBR.out.size))).2.2.1
            have p4 : ∀ z : Calm w4, z.val.cell? ⟨b2, off2 + c * 6 + 1, none⟩ = some (.int .i64 y.r) := fun z => (HCE.out z.val (hbr.trans ((hb4.trans (z.ok.mono hb4.size)).mono (Nat.le_trans (Nat.le_of_lt hgs) HBR.out.size)))).c1
            refine wp_region_calm (by kernel_rfl) (by kernel_rfl) ?_
            repeat (go_big_quiet_step (fail))
            refine wpQuiet_nil ?_
            rintro _ ⟨z, rfl⟩
            obtain ⟨w5, hw5⟩ : ∃ w5, w5 = z.val := ⟨_, rfl⟩
            have hb5 : Below w4.heap.size w4 w5 := by rw [hw5]; exact z.ok
            rw [← hw5]
            clear hw5 z p2 p3 p4
            have hb5r : Below wr.heap.size wr w5 := hb4.trans (hb5.mono hb4.size)
            have hb15 : Below w1.heap.size w1 w5 := HBR.out.trans (hb5r.mono HBR.out.size)
            have hO5 := own_below HO.out.1 hb5r
            go_wp2_with fail
            go_roundw
            case rel =>
              refine ⟨k + 1, q, by go_num, by omega, by omega, ?_, hb15⟩
              show _ ∧ _
              rw [HT.out]
              exact ⟨hO5, HO.out.2⟩
            case measure => simp [intOf]; omega
          · have j1 : (y.r == x.r - 1) = false := by simp [hy]
            have j2 : (y.r != x.r - 1) = true := by simp [hy]
            have hfp : f p = true := by rw [hfp]; simp [hy]
            have HT : Hid ((x.P.take (k + 1)).filter f = (x.P.take k).filter f ++ [p]) := by show _ = _; rw [HX.out, hfp]; simp
            clear hfp HX hy
            go_upto_region 8 with fail
            have p2 : ∀ z : Calm w4, z.val.cell? ⟨g, 2, none⟩ = some (.slice (some ⟨b2, off2, none⟩) o.n o.c) := fun z => by
              rw [← HA2.out]
              exact (HD.out z.val (HBR.out.trans ((hb4.trans (z.ok.mono hb4.size)).mono HBR.out.size))).1.2.2
            have p3 : ∀ z : Calm w4, z.val.cell? ⟨g + 1, 1, none⟩ = some (.int .i64 x.r) := fun z => (HD.out z.val (HBR.out.trans ((hb4.trans (z.ok.mono hb4.size)).mono HBR.out.size))).2.2.1
            have p4 : ∀ z : Calm w4, z.val.cell? ⟨b2, off2 + c * 6 + 1, none⟩ = some (.int .i64 y.r) := fun z => (HCE.out z.val (hbr.trans ((hb4.trans (z.ok.mono hb4.size)).mono (Nat.le_trans (Nat.le_of_lt hgs) HBR.out.size)))).c1
            refine wp_region_calm (by kernel_rfl) (by kernel_rfl) ?_
            repeat (go_big_quiet_step (fail))
            refine wpQuiet_nil ?_
            rintro _ ⟨z, rfl⟩
            obtain ⟨w5, hw5⟩ : ∃ w5, w5 = z.val := ⟨_, rfl⟩
            have hb5 : Below w4.heap.size w4 w5 := by rw [hw5]; exact z.ok
            rw [← hw5]
            clear hw5 z p2 p3 p4
            have hb5r : Below wr.heap.size wr w5 := hb4.trans (hb5.mono hb4.size)
            have hb15 : Below w1.heap.size w1 w5 := HBR.out.trans (hb5r.mono HBR.out.size)
            obtain ⟨⟨e0, e1, e2⟩, g0, g1, g2, g3⟩ := HD.out w5 hb15
            have hc5 : w5.cell? ⟨b, off + k, none⟩ = some (.int .i64 p) := (hb5r.cell (p := ⟨b, off + k, none⟩) hbl).trans HC1.out
            have hO5 := own_below HO.out.1 hb5r
            go_wp2_with (at_builtin; refine wpList_app_one _ rfl _ _ 25 rfl w1.heap.size 3 (.int .i64 0) 8 Try.underlying25 info_i64 rfl (by decide) _ q _ rfl (hO5.alloc _) w5.heap.size (.int .i64 p) rfl (cell_new _ _ _) rfl (by omega) (by have := hb15.size; simp; omega) ?_)
            intro v' w6 hown6 hb6
            have hown7 : w6.ownsRow w1.heap.size 3 1 v' (q + 1) (i64s ((x.P.take (k + 1)).filter f)) := by rw [HT.out, i64s_append]; exact hown6
            have hbw6 : Below w1.heap.size w1 w6 := (hb15.alloc hb15.size (.cells #[.int .i64 p] 3)).trans hb6
            clear hown6 hO5
            go_wp2
            go_roundw
            case rel =>
              refine ⟨k + 1, q + 1, by go_num, by omega, by omega, ⟨hown7, ?_⟩, hbw6⟩
              rw [HT.out, List.length_append, ← HO.out.2]; rfl
            case measure => simp [intOf]; omega
      · obtain rfl : k = pn := by omega
        have i1 : ¬ ((k : Int) < (k : Int)) := by omega
        obtain ⟨⟨e0, e1, e2⟩, g0, g1, g2, g3⟩ := HD.out wr HBR.out
        have HT : Hid (x.P.take k = x.P) := List.take_of_length_le (by rw [HPL.out]; exact Nat.le_refl _)
        have ho := HO.out
        rw [HT.out, ← HN.out] at ho
        have HO2 := Lib.hid ho
        clear hlt ho
        go_wp2_with fail
        go_ret
        exact newI_of (own_more HO2.out.1 (by rw [HG.out]; exact Nat.le_of_lt hgs)) HO2.out.2 (by rw [HG.out]; exact hbr)

end Go.Proofs.Ytejkeccoialogaa
/-
  The page's May: which graphs may be.
-/
namespace Go.Proofs.Ytejkeccoialogaa
open Go.RowKit

section
variable {N L : Int} {l : List CrtD}
/-- the page's words on a row -/
def PgRow (N L : Int) (l : List CrtD) (i : Nat) (x : CrtD) : Prop := RowOk N L l i x ∧ lacksP L l x = []
theorem may_rows (h : MayG N L l) {i : Nat} {x : CrtD} (hx : l[i]? = some x) : PgRow N L l i x :=
  ⟨h.row i x hx, by rw [lacks_same h.dig (h.row i x hx).low]; exact h.par x (List.mem_of_getElem? hx)⟩
theorem may_of (hN : mayB N = true) (h0 : 0 ≤ L) (h1 : L ≤ 1099511627776) (hf : l.length ≤ 65536) (h : ∀ (i : Nat) (x : CrtD), l[i]? = some x → PgRow N L l i x) : MayG N L l :=
  ⟨hN, h0, h1, hf, fun i x hx => (h i x hx).1, fun x hx => by
    obtain ⟨i, hi⟩ := List.mem_iff_getElem?.1 hx
    rw [← lacks_same (dig_rows fun i x hx => (h i x hx).1) (h i x hi).1.low]
    exact (h i x hi).2⟩
end
def RetMay (N L : Int) (l : List CrtD) (w : World) (en : Ending) (w' : World) : Prop := ∃ b, en = .returned (.bool b) ∧ (b = true ↔ MayG N L l) ∧ Below w.heap.size w w'
theorem retMay_no {N L : Int} {l : List CrtD} {w w' : World} (h : ¬ MayG N L l) (hb : Below w.heap.size w w') : RetMay N L l w (.returned (.bool false)) w' := ⟨false, rfl, ⟨(fun h => by cases h), (fun hm => absurd hm h)⟩, hb⟩
theorem retMay_yes {N L : Int} {l : List CrtD} {w w' : World} (h : MayG N L l) (hb : Below w.heap.size w w') : RetMay N L l w (.returned (.bool true)) w' := ⟨true, rfl, ⟨fun _ => h, fun _ => rfl⟩, hb⟩
theorem rcertC_is (N : Int) (x : CrtD) (a : CrtA) (w : World) (hi : CIn w x a) (hf : CrtFit x) : Calls Try.prog 44 #[crtV x a, .int .i64 N] w (Tells w.heap.size w (.bool (x.ok N))) := by
  have l1 := hf.lB
  have l2 := hf.lP
  have l3 := hf.lS
  have e1 := hi.b.len
  have e2 := hi.p.len
  have e3 := hi.s.len
  exact rcert_is _ x.a x.r a.B.A a.B.c a.B.n x.B a.P.A a.P.c a.P.n x.P x.d a.S.A a.S.c a.S.n x.S N w rfl e1 hi.b.rd (by omega) e2 hi.p.rd (by omega) e3 hi.s.rd (by omega)

set_option maxRecDepth 100000 in
set_option maxHeartbeats 20000000 in
theorem rMay_is (N L : Int) (o : Ad) (l : List CrtD) (w : World) (h : GIn w o l) : Calls Try.prog 25 #[dagV N L o] w (RetMay N L l w) := by
  obtain ⟨g, hg⟩ : ∃ g, g = w.heap.size := ⟨_, rfl⟩
  obtain ⟨w1, hw1⟩ : ∃ w1, w1 = (w.alloc (.cells (dagC N L o).toArray 24)) := ⟨_, rfl⟩
  obtain ⟨hb1, hsz, hx0⟩ := boxes1 w _ _ hw1
  rw [← hg] at hb1 hsz hx0
  have HG : Hid (w.heap.size = g) := hg.symm
  have HW : Hid ((w.alloc (.cells #[.int .i64 N, .int .i64 L, .slice o.A o.n o.c] 24)) = w1) := hw1.symm
  have HIN : Hid (∀ wX, Below g w wX → GIn wX o l) := fun wX hb => h.below (by rw [← hg]; exact hb)
  have HB := Lib.hid hb1
  have HX0 := Lib.hid hx0
  have hgs := hx0.1
  obtain ⟨d0, d1, d2⟩ := dag_cells hx0
  have HD : Hid (∀ wX, Below w1.heap.size w1 wX → wX.cell? ⟨g, 0, none⟩ = some (.int .i64 N) ∧ wX.cell? ⟨g, 1, none⟩ = some (.int .i64 L) ∧ wX.cell? ⟨g, 2, none⟩ = some (.slice o.A o.n o.c)) := fun wX hb => dag_cells (HX0.out.below hb HX0.out.1)
  have HLEN : Hid (l.length = o.n) := h.len
  have hfew := h.few
  have HGET : Hid (∀ (i : Nat) (y : CrtD), l[i]? = some y → ∃ (b off : Nat) (a : CrtA), o.A = some ⟨b, off, none⟩ ∧ b < w.heap.size ∧ CrtFit y ∧ ∀ wX, Below w.heap.size w wX → CrtAt wX b off i y a) := fun i y hy => h.get hy
  clear hg hw1 hb1 hsz hx0 h
  have HEND : Hid (∀ wX, Below g w wX → Below w.heap.size w wX) := fun wX hb => by rw [HG.out]; exact hb
  unfold dagV
  go_enter Try.func25, Try.ntmps25
  go_upto_region 1 with fail
  rw [HG.out, HW.out]
  cases hN : mayB N with
  | false =>
    have HN : Hid (¬ MayG N L l) := fun hm => by have := hm.n; rw [hN] at this; cases this
    have HM := Lib.hid (rmay_is false N hN w1)
    clear hN
    go_wp2_with (go_at_call 63; refine HM.out.mono ?_; rintro e w2 ⟨rfl, rfl⟩)
    go_ret
    exact retMay_no HN.out (HEND.out _ HB.out)
  | true =>
    have HM := Lib.hid (rmay_is true N hN w1)
    have HNB := Lib.hid hN
    clear hN
    by_cases hl0 : L < 0
    · have HN : Hid (¬ MayG N L l) := fun hm => by have := hm.l0; omega
      go_wp2_with (go_at_call 63; refine HM.out.mono ?_; rintro e w2 ⟨rfl, rfl⟩)
      go_ret
      exact retMay_no HN.out (HEND.out _ HB.out)
    by_cases hl1 : 1099511627776 < L
    · have HN : Hid (¬ MayG N L l) := fun hm => by have := hm.l1; omega
      go_wp2_with (go_at_call 63; refine HM.out.mono ?_; rintro e w2 ⟨rfl, rfl⟩)
      go_ret
      exact retMay_no HN.out (HEND.out _ HB.out)
    by_cases hl2 : (65536 : Int) < (o.n : Int)
    · have HN : Hid (¬ MayG N L l) := fun hm => by have := hm.few; rw [HLEN.out] at this; omega
      go_wp2_with (go_at_call 63; refine HM.out.mono ?_; rintro e w2 ⟨rfl, rfl⟩)
      go_ret
      exact retMay_no HN.out (HEND.out _ HB.out)
    go_upto_region 4 with (go_at_call 63; refine HM.out.mono ?_; rintro e w2 ⟨rfl, rfl⟩)
    go_loopw [3] (fun i wr => ∃ t : Nat, i = .int .i64 t ∧ t ≤ o.n ∧ Hid (∀ j y, j < t → l[j]? = some y → PgRow N L l j y) ∧ Hid (Below w1.heap.size w1 wr)) (fun i _ => o.n - (intOf i).toNat)
    case atStart => exact ⟨0, rfl, Nat.zero_le _, fun j y hj => absurd hj (Nat.not_lt_zero _), Below.refl _ _⟩
    case round =>
      clear d0 d1 d2 HM
      obtain ⟨t, rfl, ht, HROW, HBR⟩ := hrel
      have hbr := HB.out.trans (HBR.out.mono (Nat.le_of_lt hgs))
      obtain ⟨d0, d1, d2⟩ := HD.out wr HBR.out
      by_cases hlt : t < o.n
      · obtain ⟨x, hx⟩ : ∃ x, l[t]? = some x := ⟨_, List.getElem?_eq_getElem (by rw [HLEN.out]; exact hlt)⟩
        obtain ⟨b, off, a, hA, hbl, hfit, hce⟩ := HGET.out _ _ hx
        have HCE : Hid (∀ wX, Below g w wX → CrtAt wX b off t x a) := fun wX hb => hce wX (HEND.out _ hb)
        obtain ⟨k0, k1, k2, k3, k4, k5, -⟩ := HCE.out wr hbr
        have HFIT := Lib.hid hfit
        have HX := Lib.hid hx
        have HA := Lib.hid hA
        have HNO : Hid (¬ PgRow N L l t x → ¬ MayG N L l) := fun h hm => h (may_rows hm HX.out)
        have HCT : Hid (∀ wX, Below g w wX → Calls Try.prog 44 #[crtV x a, .int .i64 N] wX (Tells wX.heap.size wX (.bool (x.ok N)))) := fun wX hb => rcertC_is N x a wX (HCE.out wX hb).in_ HFIT.out
        rw [HA.out] at d2
        have i0 : (0 : Int) ≤ (t : Int) := by omega
        have i1 : (t : Int) < (o.n : Int) := by omega
        clear hx hA hce hfit
        go_upto_region 7 with fail
        obtain ⟨G, hG⟩ : ∃ G, G = wr.heap.size := ⟨_, rfl⟩
        have HGE : Hid (wr.heap.size = G) := hG.symm
        obtain ⟨w2, hw2⟩ : ∃ w2, w2 = wr.alloc (.cells (crtC x a).toArray 37) := ⟨_, rfl⟩
        obtain ⟨hb2, hsz2, hx2⟩ := boxes1 wr _ _ hw2
        rw [← hG] at hx2
        have HX2 := Lib.hid hx2
        have HW2 : Hid (wr.alloc (.cells #[.int .i64 x.a, .int .i64 x.r, .slice a.B.A a.B.n a.B.c, .slice a.P.A a.P.n a.P.c, .int .i64 x.d, .slice a.S.A a.S.n a.S.c] 37) = w2) := hw2.symm
        rw [HGE.out, HW2.out]
        have hb12 : Below w1.heap.size w1 w2 := HBR.out.trans (hb2.mono HBR.out.size)
        have hbw2 := HB.out.trans (hb12.mono (Nat.le_of_lt hgs))
        have HC2 := Lib.hid (HCT.out w2 hbw2)
        have HDX : Hid (∀ wX, Below w2.heap.size w2 wX → (wX.cell? ⟨g, 0, none⟩ = some (.int .i64 N) ∧ wX.cell? ⟨g, 1, none⟩ = some (.int .i64 L) ∧ wX.cell? ⟨g, 2, none⟩ = some (.slice (some ⟨b, off, none⟩) o.n o.c)) ∧ (wX.cell? ⟨G, 0, none⟩ = some (.int .i64 x.a) ∧ wX.cell? ⟨G, 1, none⟩ = some (.int .i64 x.r) ∧ wX.cell? ⟨G, 2, none⟩ = some (.slice a.B.A a.B.n a.B.c) ∧ wX.cell? ⟨G, 3, none⟩ = some (.slice a.P.A a.P.n a.P.c) ∧ wX.cell? ⟨G, 4, none⟩ = some (.int .i64 x.d) ∧ wX.cell? ⟨G, 5, none⟩ = some (.slice a.S.A a.S.n a.S.c))) := fun wX hb => by
          rw [← HA.out]
          exact ⟨HD.out wX (hb12.trans (hb.mono hb12.size)), crt_cells (HX2.out.below hb HX2.out.1)⟩
        unfold crtV at HC2
        clear hG hw2 hb2 hsz2 hx2 k0 k1 k2 k3 k4 k5 d0 d1 d2
        obtain ⟨⟨e0, e1, e2⟩, c0, c1, c2, c3, c4, c5⟩ := HDX.out w2 (Below.refl _ _)
        have hgw2 : w1.heap.size ≤ w2.heap.size := hb12.size
        have hgg : g ≤ w2.heap.size := by omega
        cases hok : x.ok N with
        | false =>
          have HN : Hid (¬ MayG N L l) := HNO.out fun hr => by have := hr.1.ok; rw [hok] at this; cases this
          rw [hok] at HC2
          clear hok
          go_wp2_with (go_at_call 44; refine HC2.out.mono ?_; rintro e w3 ⟨rfl, hb3⟩; obtain ⟨⟨e0, e1, e2⟩, c0, c1, c2, c3, c4, c5⟩ := HDX.out w3 hb3)
          go_ret
          exact retMay_no HN.out (HEND.out _ (hbw2.trans (hb3.mono hgg)))
        | true =>
          rw [hok] at HC2
          have HOKX := Lib.hid hok
          clear hok
          by_cases hlow : x.r ≤ L
          · have HN : Hid (¬ MayG N L l) := HNO.out fun hr => by have := hr.1.low; omega
            go_wp2_with (go_at_call 44; refine HC2.out.mono ?_; rintro e w3 ⟨rfl, hb3⟩; obtain ⟨⟨e0, e1, e2⟩, c0, c1, c2, c3, c4, c5⟩ := HDX.out w3 hb3)
            go_ret
            exact retMay_no HN.out (HEND.out _ (hbw2.trans (hb3.mono hgg)))
          · go_upto_region 9 with (go_at_call 44; refine HC2.out.mono ?_; rintro e w3 ⟨rfl, hb3⟩; obtain ⟨⟨f0, f1, f2⟩, g0, g1, g2, g3, g4, g5⟩ := HDX.out w3 hb3)
            have hgw3 : g ≤ w3.heap.size := Nat.le_trans hgg hb3.size
            by_cases ht0 : t = 0
            · have i9 : ¬ ((0 : Int) < (t : Int)) := by omega
              have HASC : Hid (∀ y, 0 < t → l[t - 1]? = some y → aheadB y.r y.a x.r x.a = true) := fun y h => by omega
              go_upto_region 14 with fail
              obtain ⟨w5, hw5⟩ : ∃ w5, w5 = w3 := ⟨_, rfl⟩
              have hb35 : Below w3.heap.size w3 w5 := by rw [hw5]; exact Below.refl _ _
              rw [← hw5]
              clear hw5
              clear f0 f1 f2 g0 g1 g2 g3 g4 g5
              have hb25 : Below w2.heap.size w2 w5 := hb3.trans (hb35.mono hb3.size)
              have hbw5 := hbw2.trans (hb25.mono hgg)
              have hg5 : g ≤ w5.heap.size := Nat.le_trans hgg hb25.size
              have HB25 := Lib.hid hb25
              clear e0 e1 e2 c0 c1 c2 c3 c4 c5
              go_loopw [6] (fun i wr => ∃ k : Nat, i = .int .i64 k ∧ k ≤ t ∧ Hid (∀ j y, j < k → l[j]? = some y → y.d ≠ x.d) ∧ Hid (Below w5.heap.size w5 wr)) (fun i _ => t - (intOf i).toNat)
              case atStart => exact ⟨0, rfl, Nat.zero_le _, fun j y hj => absurd hj (Nat.not_lt_zero _), Below.refl _ _⟩
              case round =>
                obtain ⟨k, rfl, hk, HDG, HBK⟩ := hrel
                have hbk2 : Below w2.heap.size w2 wr := HB25.out.trans (HBK.out.mono HB25.out.size)
                have hbkg := hbw2.trans (hbk2.mono hgg)
                by_cases hkt : k < t
                · exact absurd hkt (by omega)
                · obtain rfl : k = t := by omega
                  have i7 : ¬ ((k : Int) < (k : Int)) := by omega
                  have HRW : Hid (RowOk N L l k x) := ⟨HOKX.out, by omega, HASC.out, fun j v hj hv => HDG.out j v hj hv⟩
                  have hxr := (ok_hdr HOKX.out).2.1
                  have HLK := Lib.hid (rLacks_is N L o l x a wr (HIN.out _ hbkg) (HCE.out wr hbkg).in_ HFIT.out ⟨by omega, by omega⟩ ⟨by omega, by omega⟩)
                  unfold dagV hdrV at HLK
                  obtain ⟨⟨f0, f1, f2⟩, g0, g1, g2, g3, g4, g5⟩ := HDX.out wr hbk2
                  rw [← HA.out] at f2
                  clear hkt
                  by_cases hz : (lacksP L l x).length = 0
                  · have HNX : Hid (∀ j y, j < k + 1 → l[j]? = some y → PgRow N L l j y) := fun j v hj hv => by
                      rcases Nat.lt_or_ge j k with h3 | h3
                      · exact HROW.out j v h3 hv
                      · obtain rfl : j = k := by omega
                        rw [HX.out] at hv
                        cases hv
                        exact ⟨HRW.out, List.eq_nil_of_length_eq_zero hz⟩
                    have HZ := Lib.hid hz
                    clear hz
                    go_wp2_with (go_at_call 46; refine HLK.out.mono ?_; rintro e w7 ⟨⟨A7, n7, q7⟩, rfl, -, hl7, hb7⟩; obtain rfl : n7 = 0 := by rw [HZ.out] at hl7; exact hl7.symm)
                    have HB7 : Hid (Below w1.heap.size w1 w7) := hb12.trans ((hbk2.trans (hb7.mono hbk2.size)).mono hgw2)
                    go_roundw
                    case rel => exact ⟨k + 1, by go_num, hlt, HNX.out, HB7.out⟩
                    case measure => simp [intOf]; omega
                  · have HN : Hid (¬ MayG N L l) := HNO.out fun hr => hz (by rw [hr.2]; rfl)
                    have HZ := Lib.hid hz
                    clear hz
                    go_wp2_with (go_at_call 46; refine HLK.out.mono ?_; rintro e w7 ⟨⟨A7, n7, q7⟩, rfl, -, hl7, hb7⟩; have i8 : (0 : Int) < (n7 : Int) := by { have := HZ.out; simp only at hl7; omega })
                    go_ret
                    exact retMay_no HN.out (HEND.out _ (hbkg.trans (hb7.mono (Nat.le_trans hgg hbk2.size))))
            · have i9 : (0 : Int) < (t : Int) := by omega
              obtain ⟨y, hy⟩ : ∃ y, l[t - 1]? = some y := ⟨_, List.getElem?_eq_getElem (by rw [HLEN.out]; omega)⟩
              obtain ⟨b3, off3, a3, hA3, -, -, hce3⟩ := HGET.out _ _ hy
              rw [HA.out] at hA3
              have hA3 := Option.some.inj hA3
              obtain ⟨rfl, rfl⟩ : b = b3 ∧ off = off3 := by injection hA3 with h1 h2 h3; exact ⟨h1, h2⟩
              obtain ⟨k0, k1, k2, k3, k4, k5, -⟩ := hce3 w3 (HEND.out _ (hbw2.trans (hb3.mono hgg)))
              have HY := Lib.hid hy
              have i5 : (0 : Int) ≤ (t : Int) - 1 := by omega
              have i6 : (t : Int) - 1 < (o.n : Int) := by omega
              have i7 : ((t : Int) - 1).toNat = t - 1 := by omega
              clear hy hce3 hA3
              go_upto_region 11 with fail
              obtain ⟨w5, hw5⟩ : ∃ w5, w5 = w3.alloc (.cells (hdrC y a3).toArray 35) := ⟨_, rfl⟩
              obtain ⟨hb35, -, hxy⟩ := boxes1 w3 _ _ hw5
              have HW5 : Hid (w3.alloc (.cells #[.int .i64 y.a, .int .i64 y.r, .slice a3.B.A a3.B.n a3.B.c, .slice a3.P.A a3.P.n a3.P.c] 35) = w5) := hw5.symm
              rw [HW5.out]
              clear hw5 k0 k1 k2 k3 k4 k5 i5 i6 i7
              obtain ⟨y0, y1, y2, y3⟩ := hdr_cells hxy
              obtain ⟨⟨h0, h1, h2⟩, m0, m1, m2, m3, m4, m5⟩ := HDX.out w5 (hb3.trans (hb35.mono hb3.size))
              have HBF := Lib.hid (Pl.rbefore_any y.r y.a x.r x.a w5)
              rw [ahead_bef] at HBF
              cases hah : aheadB y.r y.a x.r x.a with
              | false =>
                have HN : Hid (¬ MayG N L l) := HNO.out fun hr => by have := hr.1.asc y (by omega) HY.out; rw [hah] at this; cases this
                rw [hah] at HBF
                clear hah
                go_wp2_with (go_at_call 47; refine HBF.out.mono ?_; rintro e w6 ⟨rfl, rfl⟩)
                go_ret
                exact retMay_no HN.out (HEND.out _ ((hbw2.trans (hb3.mono hgg)).trans (hb35.mono hgw3)))
              | true =>
                have HASC : Hid (∀ v, 0 < t → l[t - 1]? = some v → aheadB v.r v.a x.r x.a = true) := fun v _ hv => by rw [HY.out] at hv; cases hv; exact hah
                rw [hah] at HBF
                clear hah
                go_upto_region 14 with (go_at_call 47; refine HBF.out.mono ?_; rintro e w6 ⟨rfl, rfl⟩)
                clear y0 y1 y2 y3 h0 h1 h2 m0 m1 m2 m3 m4 m5 hxy
                clear f0 f1 f2 g0 g1 g2 g3 g4 g5
                have hb25 : Below w2.heap.size w2 w5 := hb3.trans (hb35.mono hb3.size)
                have hbw5 := hbw2.trans (hb25.mono hgg)
                have hg5 : g ≤ w5.heap.size := Nat.le_trans hgg hb25.size
                have HB25 := Lib.hid hb25
                clear e0 e1 e2 c0 c1 c2 c3 c4 c5
                go_loopw [6] (fun i wr => ∃ k : Nat, i = .int .i64 k ∧ k ≤ t ∧ Hid (∀ j y, j < k → l[j]? = some y → y.d ≠ x.d) ∧ Hid (Below w5.heap.size w5 wr)) (fun i _ => t - (intOf i).toNat)
                case atStart => exact ⟨0, rfl, Nat.zero_le _, fun j y hj => absurd hj (Nat.not_lt_zero _), Below.refl _ _⟩
                case round =>
                  obtain ⟨k, rfl, hk, HDG, HBK⟩ := hrel
                  have hbk2 : Below w2.heap.size w2 wr := HB25.out.trans (HBK.out.mono HB25.out.size)
                  have hbkg := hbw2.trans (hbk2.mono hgg)
                  by_cases hkt : k < t
                  · obtain ⟨y, hy⟩ : ∃ y, l[k]? = some y := ⟨_, List.getElem?_eq_getElem (by rw [HLEN.out]; omega)⟩
                    obtain ⟨b3, off3, a3, hA3, -, -, hce3⟩ := HGET.out _ _ hy
                    rw [HA.out] at hA3
                    have hA3 := Option.some.inj hA3
                    obtain ⟨rfl, rfl⟩ : b = b3 ∧ off = off3 := by injection hA3 with h1 h2 h3; exact ⟨h1, h2⟩
                    have HCE3 : Hid (∀ wX, Below g w wX → CrtAt wX b off k y a3) := fun wX hb => hce3 wX (HEND.out _ hb)
                    have HY := Lib.hid hy
                    have i5 : (0 : Int) ≤ (k : Int) := by omega
                    have i6 : (k : Int) < (o.n : Int) := by omega
                    have i7 : (k : Int) < (t : Int) := by omega
                    clear hy hce3 hA3
                    go_upto_region 16 with fail
                    have p2 : ∀ z : Calm wr, z.val.cell? ⟨g, 2, none⟩ = some (.slice (some ⟨b, off, none⟩) o.n o.c) := fun z => (HDX.out z.val (hbk2.trans (z.ok.mono hbk2.size))).1.2.2
                    have p3 : ∀ z : Calm wr, z.val.cell? ⟨G, 4, none⟩ = some (.int .i64 x.d) := fun z => (HDX.out z.val (hbk2.trans (z.ok.mono hbk2.size))).2.2.2.2.2.1
                    have p4 : ∀ z : Calm wr, z.val.cell? ⟨b, off + k * 6 + 4, none⟩ = some (.int .i64 y.d) := fun z => (HCE3.out z.val (hbkg.trans (z.ok.mono (Nat.le_trans hgg hbk2.size)))).c4
                    by_cases hd : y.d = x.d
                    · have j1 : (y.d == x.d) = true := by simp [hd]
                      have HN : Hid (¬ MayG N L l) := HNO.out fun hr => hr.1.dig k y hkt HY.out hd
                      clear hd
                      refine wp_region_calm (by kernel_rfl) (by kernel_rfl) ?_
                      repeat (go_big_quiet_step (fail))
                      refine wpQuiet_nil ?_
                      rintro _ ⟨z, rfl⟩
                      have hbz := hbkg.trans (z.ok.mono (Nat.le_trans hgg hbk2.size))
                      go_wp2_with fail
                      go_ret
                      exact retMay_no HN.out (HEND.out _ hbz)
                    · have j1 : (y.d == x.d) = false := by simp [hd]
                      have HNE := Lib.hid hd
                      clear hd
                      refine wp_region_calm (by kernel_rfl) (by kernel_rfl) ?_
                      repeat (go_big_quiet_step (fail))
                      refine wpQuiet_nil ?_
                      rintro _ ⟨z, rfl⟩
                      have hbz : Below w5.heap.size w5 z.val := HBK.out.trans (z.ok.mono HBK.out.size)
                      have HBZ := Lib.hid hbz
                      clear hbz p2 p3 p4
                      go_wp2_with fail
                      go_roundw
                      case rel =>
                        refine ⟨k + 1, by go_num, hkt, fun j v hj hv => ?_, HBZ.out⟩
                        rcases Nat.lt_or_ge j k with h3 | h3
                        · exact HDG.out j v h3 hv
                        · obtain rfl : j = k := by omega
                          rw [HY.out] at hv
                          cases hv
                          exact HNE.out
                      case measure => simp [intOf]; omega
                  · obtain rfl : k = t := by omega
                    have i7 : ¬ ((k : Int) < (k : Int)) := by omega
                    have HRW : Hid (RowOk N L l k x) := ⟨HOKX.out, by omega, HASC.out, fun j v hj hv => HDG.out j v hj hv⟩
                    have hxr := (ok_hdr HOKX.out).2.1
                    have HLK := Lib.hid (rLacks_is N L o l x a wr (HIN.out _ hbkg) (HCE.out wr hbkg).in_ HFIT.out ⟨by omega, by omega⟩ ⟨by omega, by omega⟩)
                    unfold dagV hdrV at HLK
                    obtain ⟨⟨f0, f1, f2⟩, g0, g1, g2, g3, g4, g5⟩ := HDX.out wr hbk2
                    rw [← HA.out] at f2
                    clear hkt
                    by_cases hz : (lacksP L l x).length = 0
                    · have HNX : Hid (∀ j y, j < k + 1 → l[j]? = some y → PgRow N L l j y) := fun j v hj hv => by
                        rcases Nat.lt_or_ge j k with h3 | h3
                        · exact HROW.out j v h3 hv
                        · obtain rfl : j = k := by omega
                          rw [HX.out] at hv
                          cases hv
                          exact ⟨HRW.out, List.eq_nil_of_length_eq_zero hz⟩
                      have HZ := Lib.hid hz
                      clear hz
                      go_wp2_with (go_at_call 46; refine HLK.out.mono ?_; rintro e w7 ⟨⟨A7, n7, q7⟩, rfl, -, hl7, hb7⟩; obtain rfl : n7 = 0 := by rw [HZ.out] at hl7; exact hl7.symm)
                      have HB7 : Hid (Below w1.heap.size w1 w7) := hb12.trans ((hbk2.trans (hb7.mono hbk2.size)).mono hgw2)
                      go_roundw
                      case rel => exact ⟨k + 1, by go_num, hlt, HNX.out, HB7.out⟩
                      case measure => simp [intOf]; omega
                    · have HN : Hid (¬ MayG N L l) := HNO.out fun hr => hz (by rw [hr.2]; rfl)
                      have HZ := Lib.hid hz
                      clear hz
                      go_wp2_with (go_at_call 46; refine HLK.out.mono ?_; rintro e w7 ⟨⟨A7, n7, q7⟩, rfl, -, hl7, hb7⟩; have i8 : (0 : Int) < (n7 : Int) := by { have := HZ.out; simp only at hl7; omega })
                      go_ret
                      exact retMay_no HN.out (HEND.out _ (hbkg.trans (hb7.mono (Nat.le_trans hgg hbk2.size))))
      · obtain rfl : t = o.n := by omega
        have i1 : ¬ ((o.n : Int) < (o.n : Int)) := by omega
        have HOK : Hid (MayG N L l) := may_of HNB.out (by omega) (by omega) (by rw [HLEN.out]; omega) fun i x hx => HROW.out i x (by have := (List.getElem?_eq_some_iff.1 hx).1; rw [HLEN.out] at this; exact this) hx
        clear hlt
        go_wp2_with fail
        go_ret
        exact retMay_yes HOK.out (HEND.out _ hbr)

end Go.Proofs.Ytejkeccoialogaa
/-
  The law's own check: the page's May as a number.
-/
namespace Go.Proofs.Ytejkeccoialogaa
open Go.RowKit

/-- 0: it may be; 1: it may not -/
def RetChk (N L : Int) (l : List CrtD) (w : World) (en : Ending) (w' : World) : Prop := ∃ z : Int, en = .returned (.int .i64 z) ∧ (MayG N L l ∧ z = 0 ∨ ¬ MayG N L l ∧ z = 1) ∧ Below w.heap.size w w'
set_option maxRecDepth 100000 in
set_option maxHeartbeats 4000000 in
theorem chkY_is (N L : Int) (o : Ad) (l : List CrtD) (w : World) (h : GIn w o l) : Calls Try.prog 12 #[dagV N L o] w (RetChk N L l w) := by
  obtain ⟨g, hg⟩ : ∃ g, g = w.heap.size := ⟨_, rfl⟩
  obtain ⟨w1, hw1⟩ : ∃ w1, w1 = (w.alloc (.cells (dagC N L o).toArray 24)) := ⟨_, rfl⟩
  obtain ⟨hb1, hsz, hx0⟩ := boxes1 w _ _ hw1
  rw [← hg] at hb1 hsz hx0
  have HG : Hid (w.heap.size = g) := hg.symm
  have HW : Hid ((w.alloc (.cells #[.int .i64 N, .int .i64 L, .slice o.A o.n o.c] 24)) = w1) := hw1.symm
  have HB := Lib.hid hb1
  have hgs := hx0.1
  obtain ⟨d0, d1, d2⟩ := dag_cells hx0
  have HM := Lib.hid (rMay_is N L o l w1 (h.below (by rw [← hg]; exact hb1)))
  clear hg hw1 hb1 hsz hx0 h
  unfold dagV at HM ⊢
  go_enter Try.func12, Try.ntmps12
  go_upto_region 1 with fail
  rw [HG.out, HW.out]
  go_wp2_with (go_at_call 25; refine HM.out.mono ?_; rintro e w2 ⟨b, rfl, hbm, hb2⟩; have HBM := Lib.hid hbm; clear hbm; cases b)
  all_goals go_ret
  · exact ⟨1, rfl, .inr ⟨(fun hm => by have := HBM.out.2 hm; cases this), rfl⟩, by rw [HG.out]; exact HB.out.trans (hb2.mono (Nat.le_of_lt hgs))⟩
  · exact ⟨0, rfl, .inl ⟨(HBM.out.1 trivial), rfl⟩, by rw [HG.out]; exact HB.out.trans (hb2.mono (Nat.le_of_lt hgs))⟩

end Go.Proofs.Ytejkeccoialogaa
