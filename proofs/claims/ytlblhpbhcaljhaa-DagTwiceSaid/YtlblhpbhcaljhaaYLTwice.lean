/-
  The walk of 'DagTwice'.
-/
import Derived.Test.YtlblhpbhcaljhaaYNew
namespace Go.Proofs.Ytlblhpbhcaljhaa
open Go.RowKit

theorem ok_parts {N : Int} {x : CrtD} (h : x.ok N = true) : mayB N = true ∧ (1 ≤ x.a ∧ x.a ≤ N) ∧ (1 ≤ x.d ∧ x.d ≤ 65536) := by
  have h1 := cert_is.1 h
  obtain ⟨m1, m2, _⟩ : mayB N = true ∧ (1 ≤ x.a ∧ x.a ≤ N) ∧ _ := by simpa only [hdrB, decide_eq_true_eq] using h1.1
  exact ⟨m1, m2, h1.2.1⟩
/-- with another digest, with another author, it may be all the same -/
theorem ok_dig {N : Int} {x : CrtD} (h : x.ok N = true) {d : Int} (hd : 1 ≤ d ∧ d ≤ 65536) : CrtD.ok N { x with d := d } = true := by
  have h1 := cert_is.1 h
  exact cert_is.2 ⟨h1.1, hd, h1.2.2⟩
theorem ok_aut {N : Int} {x : CrtD} (h : x.ok N = true) {a : Int} (ha : 1 ≤ a ∧ a ≤ N) : CrtD.ok N { x with a := a } = true := by
  have h1 := cert_is.1 h
  have h2 := h1.1
  refine cert_is.2 ⟨?_, h1.2⟩
  simp only [hdrB, decide_eq_true_eq] at h2 ⊢
  exact ⟨h2.1, ha, h2.2.2⟩
theorem chk_of {N L : Int} {x : CrtD} (h : x.ok N = true) (hl : L < x.r) : chkC N L x = 0 := by
  unfold chkC
  rw [if_pos h, if_neg (by omega)]

/-- a copy of a certificate in memory -/
def CopyTo (x : CrtD) (w : World) (en : Ending) (w' : World) : Prop := ∃ a', en = .returned (.agg #[.int .i64 x.a, .int .i64 x.r, .slice a'.B.A a'.B.n a'.B.c, .slice a'.P.A a'.P.n a'.P.c, .int .i64 x.d, .slice a'.S.A a'.S.n a'.S.c]) ∧ CIn w' x a' ∧ Below w.heap.size w w'
theorem copyC_is (x : CrtD) (a : CrtA) (w : World) (hi : CIn w x a) (hf : CrtFit x) :
    Calls Try.prog 22 #[.agg #[.int .i64 x.a, .int .i64 x.r, .slice a.B.A a.B.n a.B.c, .slice a.P.A a.P.n a.P.c, .int .i64 x.d, .slice a.S.A a.S.n a.S.c]] w (CopyTo x w) := by
  have l1 := hf.lB
  have l2 := hf.lP
  have l3 := hf.lS
  have e1 := hi.b.len
  have e2 := hi.p.len
  have e3 := hi.s.len
  refine (rcopyCert_any x.a x.r a.B.A a.B.c a.B.n x.B a.P.A a.P.c a.P.n x.P x.d a.S.A a.S.c a.S.n x.S w e1 hi.b.rd (by omega) e2 hi.p.rd (by omega) e3 hi.s.rd (by omega) hi.b.cap hi.p.cap hi.s.cap).mono ?_
  rintro e w' ⟨A1, c1, A2, c2, A3, c3, rfl, o1, o2, o3, hb⟩
  exact ⟨⟨⟨A1, a.B.n, c1⟩, ⟨A2, a.P.n, c2⟩, ⟨A3, a.S.n, c3⟩⟩, rfl, ⟨slIn_own o1 e1, slIn_own o2 e2, slIn_own o3 e3⟩, hb⟩

/-- a changed author's place, or the digest, is taken -/
theorem add_other (N L : Int) (o : Ad) (l : List CrtD) (x : CrtD) (y : Int) (a : CrtA) (w : World) (h : GIn w o l) (hm : MayG N L l) (hx : x ∈ l) (hy : 1 ≤ y ∧ y ≤ N) (hne : y ≠ x.a) (hi : CIn w x a) (hf : CrtFit { x with a := y }) :
    Calls Try.prog 23 #[dagV N L o, crtV { x with a := y } a] w (AddErr 5 w) := by
  obtain ⟨hok, hlow⟩ := hm.of_mem hx
  have hz : chkC N L { x with a := y } = 0 := chk_of (ok_aut hok hy) hlow
  have hi2 : CIn w { x with a := y } a := ⟨hi.b, hi.p, hi.s⟩
  cases hh : hasAt l x.r y with
  | false => exact add_dig N L o l { x with a := y } a w h hm hi2 hf hz hh (hasDg_iff.2 ⟨x, hx, rfl⟩)
  | true =>
    cases hp : l[posC l x.r y]? with
    | none => rw [hasAt_none hp] at hh; cases hh
    | some z =>
      rw [hasAt_some hp] at hh
      have he : z.r = x.r ∧ z.a = y := by simpa using hh
      refine add_two N L o l { x with a := y } a w h hm hi2 hf hz z hp he fun e => ?_
      have := dig_mem hm.dig (List.mem_of_getElem? hp) hx e
      rw [this] at he
      exact hne he.2.symm

set_option maxRecDepth 100000 in
set_option maxHeartbeats 40000000 in
theorem dagTwice_walk (q : AskD) (w : World) (h : AskIn w q) : Calls Try.prog 10 #[askV q] w fun e w' => e = .returned (.bool true) ∧ Below w.heap.size w w' := by
  obtain ⟨g, hg⟩ : ∃ g, g = w.heap.size := ⟨_, rfl⟩
  obtain ⟨w1, hw1⟩ : ∃ w1, w1 = w.alloc (.cells (askC q).toArray 28) := ⟨_, rfl⟩
  obtain ⟨hb1, hsz, hx0⟩ := boxes1 w _ _ hw1
  rw [← hg] at hb1 hsz hx0
  have HG : Hid (w.heap.size = g) := hg.symm
  have HW : Hid (w.alloc (.cells #[.int .i64 q.N, .int .i64 q.L, .slice q.o.A q.o.n q.o.c, .slice q.oc.A q.oc.n q.oc.c, .slice q.oi.A q.oi.n q.oi.c, .slice q.op.A q.op.n q.op.c] 28) = w1) := hw1.symm
  have HB := Lib.hid hb1
  have HX := Lib.hid hx0
  have HQ : Hid (∀ wX, Below g w wX → AskIn wX q) := fun wX hb => h.below (by rw [← hg]; exact hb)
  have HH := Lib.hid (heavy_is q w1 (h.below (by rw [← hg]; exact hb1)))
  have HD : Hid (∀ wX, Below w1.heap.size w1 wX → wX.cell? ⟨g, 0, none⟩ = some (.int .i64 q.N) ∧ wX.cell? ⟨g, 1, none⟩ = some (.int .i64 q.L) ∧ wX.cell? ⟨g, 2, none⟩ = some (.slice q.o.A q.o.n q.o.c)) := fun wX hb => by
    obtain ⟨a0, a1, a2, _⟩ := ask_cells (HX.out.below hb HX.out.1)
    exact ⟨a0, a1, a2⟩
  obtain ⟨a0, a1, a2, a3, a4, a5⟩ := ask_cells hx0
  have hgs := hx0.1
  clear hg hw1 hb1 hsz hx0 h
  rw [HG.out]
  unfold askV at HH ⊢
  go_enter Try.func10, Try.ntmps10
  go_upto_region 1 with fail
  rw [HG.out, HW.out]
  by_cases hmay : MayG q.N q.L q.l
  · have HM := Lib.hid hmay
    clear hmay
    go_wp2_with (go_at_call 12; refine HH.out.mono ?_; rintro e w2 ⟨b, rfl, hlight, hb2⟩; obtain ⟨e0, e1, e2⟩ := HD.out w2 hb2; cases b)
    · have hbw2 := HB.out.trans (hb2.mono (Nat.le_of_lt hgs))
      have HGI : Hid (∀ wX, Below g w wX → GIn wX q.o q.l) := fun wX hb => (HQ.out wX hb).d.gin (hlight (by simp)).d (by decide)
      have HCH := Lib.hid (check_ok (HGI.out _ hbw2) HM.out)
      unfold dagV at HCH
      clear hlight
      go_upto_region 4 with (first
        | (go_at_call 15; refine HCH.out.mono ?_; rintro e w3 ⟨rfl, hb3⟩)
        | (go_at_call 14; refine (numY_any _ _).mono ?_; rintro e w4 ⟨rfl, rfl⟩))
      have hgw2 : g ≤ w2.heap.size := Nat.le_trans (Nat.le_of_lt hgs) hb2.size
      have hb13 := hb2.trans (hb3.mono hb2.size)
      have HB13 := Lib.hid hb13
      have hn80 : q.o.n ≤ 1000000 := (HGI.out _ hbw2).few
      have HLN : Hid (q.l.length = q.o.n) := (HGI.out _ hbw2).len
      have HGET : Hid (∀ (i : Nat) (x : CrtD), q.l[i]? = some x → ∃ (b off : Nat) (a : CrtA), q.o.A = some ⟨b, off, none⟩ ∧ b < w2.heap.size ∧ CrtFit x ∧ ∀ wX, Below w2.heap.size w2 wX → CrtAt wX b off i x a) := fun i x hx => (HGI.out _ hbw2).get hx
      have HB12 := Lib.hid hb2
      have HB23 := Lib.hid hb3
      clear hb13 HCH HH
      go_loopw [3] (fun i wr => ∃ k : Nat, i = .int .i64 k ∧ k ≤ q.o.n ∧ Hid (Below w2.heap.size w2 wr)) (fun i _ => q.o.n - (intOf i).toNat)
      case atStart => exact ⟨0, rfl, Nat.zero_le _, HB23.out⟩
      case round =>
        clear e0 e1 e2 a0 a1 a2 a3 a4 a5
        obtain ⟨k, rfl, hk, HBR⟩ := hrel
        have hb1r : Below w1.heap.size w1 wr := HB12.out.trans (HBR.out.mono HB12.out.size)
        obtain ⟨e0, e1, e2⟩ := HD.out wr hb1r
        by_cases hlt : k < q.o.n
        · by_cases hk20 : k < 20
          · obtain ⟨x, hx⟩ : ∃ x, q.l[k]? = some x := ⟨_, List.getElem?_eq_getElem (by rw [HLN.out]; exact hlt)⟩
            obtain ⟨b, off, a, hA, hbl, hfit, hce⟩ := HGET.out _ _ hx
            have hat := hce _ HBR.out
            obtain ⟨k0, k1, k2, k3, k4, k5, hcin⟩ := hat
            rw [hA] at e2
            have HCP := Lib.hid (copyC_is x a wr hcin hfit)
            have i0 : (0 : Int) ≤ (k : Int) := by omega
            have i1 : (k : Int) < (q.o.n : Int) := by omega
            have i2 : (k : Int) < 20 := by omega
            have HX2 := Lib.hid hx
            have HFIT := Lib.hid hfit
            have HCE := Lib.hid hce
            have HA := Lib.hid hA
            clear hx hce hcin hfit hA
            go_upto_region 7 with (go_at_call 22; refine HCP.out.mono ?_; rintro e w4 ⟨a4, rfl, hi4, hb4⟩)
            obtain ⟨hok, hlow⟩ := HM.out.of_mem (List.mem_of_getElem? HX2.out)
            obtain ⟨hmb, hxa, hxd⟩ := ok_parts hok
            have hpos := at_posC HM.out.asc (List.mem_of_getElem? HX2.out) (R := x.r) (A := x.a) ⟨rfl, rfl⟩
            have hmn : 1 ≤ q.N ∧ q.N ≤ 16 ∧ q.N % 3 = 1 := by simpa only [mayB, decide_eq_true_eq] using hmb
            have HOK := Lib.hid hok
            have HLOW := Lib.hid hlow
            have HPOS := Lib.hid hpos
            have hN1 : 1 ≤ q.N := hmn.1
            have hN16 : q.N ≤ 16 := hmn.2.1
            obtain ⟨w5, hw5⟩ : ∃ w5, w5 = w4.alloc (.cells (crtC x a4).toArray 45) := ⟨_, rfl⟩
            have hx5 : Box w5 w4.heap.size (crtC x a4) := by rw [hw5]; exact box_new _ _ _
            have hb45 : Below w4.heap.size w4 w5 := by rw [hw5]; exact (Below.refl _ _).alloc (Nat.le_refl _) _
            have HW5 : Hid (w4.alloc (.cells #[.int .i64 x.a, .int .i64 x.r, .slice a4.B.A a4.B.n a4.B.c, .slice a4.P.A a4.P.n a4.P.c, .int .i64 x.d, .slice a4.S.A a4.S.n a4.S.c] 45) = w5) := hw5.symm
            rw [HW5.out]
            have hb1_4 : Below w1.heap.size w1 w4 := hb1r.trans (hb4.mono hb1r.size)
            have hb15 : Below w1.heap.size w1 w5 := hb1_4.trans (hb45.mono hb1_4.size)
            have hgb : w1.heap.size ≤ w4.heap.size := hb1_4.size
            have HI5 : Hid (∀ wX, Below w5.heap.size w5 wX → CIn wX x a4) := fun wX hb => (hi4.below hb45).below hb
            have HGI1 : Hid (∀ wX, Below w1.heap.size w1 wX → GIn wX q.o q.l) := fun wX hb => HGI.out _ (HB.out.trans (hb.mono (Nat.le_of_lt hgs)))
            have HA5 := Lib.hid (add_there q.N q.L q.o q.l x a4 w5 (HGI1.out _ hb15) HM.out (HI5.out _ (Below.refl _ _)) HFIT.out (chk_of hok hlow) x hpos ⟨rfl, rfl⟩ rfl)
            unfold dagV crtV at HA5
            clear e0 e1 e2 k0 k1 k2 k3 k4 k5 hw5 hok hlow hpos hmb hmn
            obtain ⟨e50, e51, e52⟩ := HD.out w5 hb15
            obtain ⟨s50, s51, s52, s53, s54, s55⟩ := crt_cells hx5
            go_upto_region 8 with (go_at_call 23; refine HA5.out.mono ?_; rintro e w6 ⟨rfl, hb6⟩; dsimp only [dagV, noAd])
            obtain ⟨w7, hw7⟩ : ∃ w7, w7 = w6.alloc (.cells (dagC 0 0 noAd).toArray 24) := ⟨_, rfl⟩
            have hba7 : Below w6.heap.size w6 w7 := by rw [hw7]; exact (Below.refl _ _).alloc (Nat.le_refl _) _
            have HWA7 : Hid (w6.alloc (.cells #[.int .i64 0, .int .i64 0, .slice none 0 0] 24) = w7) := hw7.symm
            rw [HWA7.out]
            clear hw7
            have hb57 : Below w5.heap.size w5 w7 := hb6.trans (hba7.mono hb6.size)
            have hx7 : Box w7 w4.heap.size (crtC x a4) := hx5.below hb57 hx5.1
            have hb17 : Below w1.heap.size w1 w7 := hb15.trans (hb57.mono hb15.size)
            have f74 : w7.frozen? ⟨w4.heap.size, 4, none⟩ = false := (hx7.2 4 _ rfl).2
            clear e50 e51 e52 s50 s51 s52 s53 s54 s55
            obtain ⟨e70, e71, e72⟩ := HD.out w7 hb17
            obtain ⟨s70, s71, s72, s73, s74, s75⟩ := crt_cells hx7
            have hrem : ∃ m, x.d.tmod 65536 = m ∧ 0 ≤ m ∧ m < 65536 ∧ 1 + m ≠ x.d := ⟨x.d % 65536, Int.tmod_eq_emod_of_nonneg (by omega), by omega, by omega, by omega⟩
            obtain ⟨m, hrm, hm0, hm1, hm2⟩ := hrem
            have HM2 := Lib.hid hm2
            clear hm2
            go_upto_region 9 with fail
            clear hrm
            obtain ⟨w8, hw8⟩ : ∃ w8, w8 = w7.setCell ⟨w4.heap.size, 4, none⟩ (.int .i64 (1 + m)) := ⟨_, rfl⟩
            rw [← hw8]
            have hx8 : Box w8 w4.heap.size (crtC { x with d := 1 + m } a4) := by rw [hw8]; exact hx7.set (j := 4) (show 4 < 6 by decide)
            have hb18 : Below w1.heap.size w1 w8 := by rw [hw8]; exact hb17.setCell (by exact hgb) _
            have hb48 : Below w4.heap.size w4 w8 := by rw [hw8]; exact (hb45.trans (hb57.mono hb45.size)).setCell (Nat.le_refl _) _
            have hfit8 : CrtFit { x with d := 1 + m } := ⟨HFIT.out.wa, HFIT.out.wr, by unfold I64; simp only; omega, HFIT.out.wB, HFIT.out.wP, HFIT.out.wS, HFIT.out.lB, HFIT.out.lP, HFIT.out.lS⟩
            have hi8 : CIn w8 { x with d := 1 + m } a4 := by
              have := hi4.below hb48
              exact ⟨this.b, this.p, this.s⟩
            have HA8 := Lib.hid (add_two q.N q.L q.o q.l { x with d := 1 + m } a4 w8 (HGI1.out _ hb18) HM.out hi8 hfit8 (chk_of (ok_dig HOK.out ⟨by omega, by omega⟩) HLOW.out) x HPOS.out ⟨rfl, rfl⟩ (fun e => HM2.out e.symm))
            unfold dagV crtV at HA8
            clear f74 hw8
            clear e70 e71 e72 s70 s71 s72 s73 s74 s75
            obtain ⟨e80, e81, e82⟩ := HD.out w8 hb18
            obtain ⟨s80, s81, s82, s83, s84, s85⟩ := crt_cells hx8
            simp only at s84
            go_upto_region 10 with (go_at_call 23; refine HA8.out.mono ?_; rintro e w9 ⟨rfl, hb9⟩; dsimp only [dagV, noAd])
            obtain ⟨w10, hw10⟩ : ∃ w10, w10 = w9.alloc (.cells (dagC 0 0 noAd).toArray 24) := ⟨_, rfl⟩
            have hba10 : Below w9.heap.size w9 w10 := by rw [hw10]; exact (Below.refl _ _).alloc (Nat.le_refl _) _
            have HWA10 : Hid (w9.alloc (.cells #[.int .i64 0, .int .i64 0, .slice none 0 0] 24) = w10) := hw10.symm
            rw [HWA10.out]
            clear hw10
            have hb810 : Below w8.heap.size w8 w10 := hb9.trans (hba10.mono hb9.size)
            have hx10 : Box w10 w4.heap.size (crtC { x with d := 1 + m } a4) := hx8.below hb810 hx8.1
            have hb110 : Below w1.heap.size w1 w10 := hb18.trans (hb810.mono hb18.size)
            have hb410 : Below w4.heap.size w4 w10 := hb48.trans (hb810.mono hb48.size)
            have f104 : w10.frozen? ⟨w4.heap.size, 4, none⟩ = false := (hx10.2 4 _ rfl).2
            clear e80 e81 e82 s80 s81 s82 s83 s84 s85
            obtain ⟨e100, e101, e102⟩ := HD.out w10 hb110
            obtain ⟨s100, s101, s102, s103, s104, s105⟩ := crt_cells hx10
            simp only at s104
            rw [HA.out] at e102
            have hb210 : Below w2.heap.size w2 w10 := (HBR.out.trans (hb4.mono HBR.out.size)).trans (hb410.mono (by have := HBR.out.size; have := hb4.size; omega))
            have y4 := (HCE.out w10 hb210).c4
            go_upto_region 11 with fail
            obtain ⟨w11, hw11⟩ : ∃ w11, w11 = w10.setCell ⟨w4.heap.size, 4, none⟩ (.int .i64 x.d) := ⟨_, rfl⟩
            rw [← hw11]
            have hx11 : Box w11 w4.heap.size (crtC x a4) := by rw [hw11]; exact hx10.set (j := 4) (show 4 < 6 by decide)
            have hb111 : Below w1.heap.size w1 w11 := by rw [hw11]; exact hb110.setCell (by exact hgb) _
            have hb411 : Below w4.heap.size w4 w11 := by rw [hw11]; exact hb410.setCell (Nat.le_refl _) _
            have f110 : w11.frozen? ⟨w4.heap.size, 0, none⟩ = false := (hx11.2 0 _ rfl).2
            clear f104 hw11 y4
            clear e100 e101 e102 s100 s101 s102 s103 s104 s105
            obtain ⟨e110, e111, e112⟩ := HD.out w11 hb111
            obtain ⟨s110, s111, s112, s113, s114, s115⟩ := crt_cells hx11
            have hrem : ∃ m2, x.a.tmod q.N = m2 ∧ 0 ≤ m2 ∧ m2 < q.N ∧ (1 < q.N → 1 + m2 ≠ x.a) := by
              refine ⟨x.a % q.N, Int.tmod_eq_emod_of_nonneg (by omega), Int.emod_nonneg _ (by omega), Int.emod_lt_of_pos _ (by omega), fun h1 => ?_⟩
              rcases Int.lt_or_le x.a q.N with h2 | h2
              · rw [Int.emod_eq_of_lt (by omega) h2]; omega
              · have : x.a = q.N := by omega
                rw [this, Int.emod_self]; omega
            obtain ⟨m2, hrm, hn0, hn1, hn2⟩ := hrem
            have HN2 := Lib.hid hn2
            have hNz : ¬ (q.N = 0) := by omega
            clear hn2
            go_upto_region 12 with fail
            clear hrm hNz
            obtain ⟨w12, hw12⟩ : ∃ w12, w12 = w11.setCell ⟨w4.heap.size, 0, none⟩ (.int .i64 (1 + m2)) := ⟨_, rfl⟩
            rw [← hw12]
            have hx12 : Box w12 w4.heap.size (crtC { x with a := 1 + m2 } a4) := by rw [hw12]; exact hx11.set (j := 0) (show 0 < 6 by decide)
            have hb112 : Below w1.heap.size w1 w12 := by rw [hw12]; exact hb111.setCell (by exact hgb) _
            have hb412 : Below w4.heap.size w4 w12 := by rw [hw12]; exact hb411.setCell (Nat.le_refl _) _
            have hfit12 : CrtFit { x with a := 1 + m2 } := ⟨by unfold I64; simp only; omega, HFIT.out.wr, HFIT.out.wd, HFIT.out.wB, HFIT.out.wP, HFIT.out.wS, HFIT.out.lB, HFIT.out.lP, HFIT.out.lS⟩
            have hi12 : CIn w12 x a4 := hi4.below hb412
            have hA12 : Calls Try.prog 23 #[dagV q.N q.L q.o, crtV { x with a := 1 + m2 } a4] w12 fun e w' => ∃ z, e = .returned (.tuple #[dagV 0 0 noAd, .int .i64 z]) ∧ (1 < q.N → z = 5) ∧ Below w12.heap.size w12 w' := by
              rcases Int.lt_or_le 1 q.N with h1 | h1
              · exact (add_other q.N q.L q.o q.l x (1 + m2) a4 w12 (HGI1.out _ hb112) HM.out (List.mem_of_getElem? HX2.out) ⟨by omega, by omega⟩ (HN2.out h1) hi12 hfit12).mono fun e w' ⟨he, hb⟩ => ⟨5, he, fun _ => rfl, hb⟩
              · have e1 : 1 + m2 = x.a := by omega
                rw [e1]
                exact (add_there q.N q.L q.o q.l x a4 w12 (HGI1.out _ hb112) HM.out hi12 HFIT.out (chk_of HOK.out HLOW.out) x HPOS.out ⟨rfl, rfl⟩ rfl).mono fun e w' ⟨he, hb⟩ => ⟨4, he, fun h => by omega, hb⟩
            have HA12 := Lib.hid hA12
            unfold dagV crtV at HA12
            clear f110 hw12 hA12
            clear e110 e111 e112 s110 s111 s112 s113 s114 s115
            obtain ⟨e120, e121, e122⟩ := HD.out w12 hb112
            obtain ⟨s120, s121, s122, s123, s124, s125⟩ := crt_cells hx12
            simp only at s120
            go_upto_region 13 with (go_at_call 23; refine HA12.out.mono ?_; rintro e w13 ⟨zg, rfl, hzg, hb13⟩; dsimp only [dagV, noAd])
            obtain ⟨w14, hw14⟩ : ∃ w14, w14 = w13.alloc (.cells (dagC 0 0 noAd).toArray 24) := ⟨_, rfl⟩
            have hba14 : Below w13.heap.size w13 w14 := by rw [hw14]; exact (Below.refl _ _).alloc (Nat.le_refl _) _
            have HWA14 : Hid (w13.alloc (.cells #[.int .i64 0, .int .i64 0, .slice none 0 0] 24) = w14) := hw14.symm
            rw [HWA14.out]
            clear hw14
            have hb1214 : Below w12.heap.size w12 w14 := hb13.trans (hba14.mono hb13.size)
            have hb114 : Below w1.heap.size w1 w14 := hb112.trans (hb1214.mono hb112.size)
            have hb214 : Below w2.heap.size w2 w14 := (HBR.out.trans (hb4.mono HBR.out.size)).trans ((hb412.trans (hb1214.mono hb412.size)).mono (by have := HBR.out.size; have := hb4.size; omega))
            obtain ⟨e140, e141, e142⟩ := HD.out w14 hb114
            have HB214 := Lib.hid hb214
            clear hb214 hb114 hb1214 hb13
            clear e120 e121 e122 s120 s121 s122 s123 s124 s125
            by_cases h1 : 1 < q.N
            · obtain rfl : zg = 5 := hzg h1
              clear hzg
              go_wp2_with (go_at_call 14; refine (numY_any _ _).mono ?_; rintro e w15 ⟨rfl, rfl⟩)
              go_roundw
              case rel => exact ⟨k + 1, by go_num, hlt, HB214.out⟩
              case measure => simp [intOf]; omega
            · have i9 : ¬ ((1 : Int) < q.N) := by omega
              clear hzg
              go_wp2_with (go_at_call 14; refine (numY_any _ _).mono ?_; rintro e w15 ⟨rfl, rfl⟩)
              go_roundw
              case rel => exact ⟨k + 1, by go_num, hlt, HB214.out⟩
              case measure => simp [intOf]; omega
          · have i1 : (k : Int) < (q.o.n : Int) := by omega
            have i2 : ¬ ((k : Int) < 20) := by omega
            have hfin := HB.out.trans (hb1r.mono (Nat.le_of_lt hgs))
            go_wp2_with (go_at_call 20; refine (wakesY_any _).mono ?_; rintro e w5 ⟨rfl, hb5⟩)
            go_ret
            exact ⟨rfl, hfin.trans (hb5.mono (Nat.le_trans (Nat.le_of_lt hgs) hb1r.size))⟩
        · have i1 : ¬ ((k : Int) < (q.o.n : Int)) := by omega
          have hfin := HB.out.trans (hb1r.mono (Nat.le_of_lt hgs))
          go_wp2_with (go_at_call 20; refine (wakesY_any _).mono ?_; rintro e w5 ⟨rfl, hb5⟩)
          go_ret
          exact ⟨rfl, hfin.trans (hb5.mono (Nat.le_trans (Nat.le_of_lt hgs) hb1r.size))⟩
    · go_wp2_with fail
      go_ret
      exact ⟨rfl, HB.out.trans (hb2.mono (Nat.le_of_lt hgs))⟩
  · have HM := Lib.hid hmay
    clear hmay
    go_wp2_with (go_at_call 12; refine HH.out.mono ?_; rintro e w2 ⟨b, rfl, hlight, hb2⟩; obtain ⟨e0, e1, e2⟩ := HD.out w2 hb2; cases b)
    · have hbw2 := HB.out.trans (hb2.mono (Nat.le_of_lt hgs))
      have HGI : Hid (∀ wX, Below g w wX → GIn wX q.o q.l) := fun wX hb => (HQ.out wX hb).d.gin (hlight (by simp)).d (by decide)
      have HCH := Lib.hid (check_bad (HGI.out _ hbw2) HM.out)
      unfold dagV at HCH
      clear hlight
      go_wp2_with (first
        | (go_at_call 15; refine HCH.out.mono ?_; rintro e w3 ⟨rfl, hb3⟩)
        | (go_at_call 14; refine (numY_any _ _).mono ?_; rintro e w4 ⟨rfl, rfl⟩))
      go_ret
      exact ⟨rfl, hbw2.trans (hb3.mono (Nat.le_trans (Nat.le_of_lt hgs) hb2.size))⟩
    · go_wp2_with fail
      go_ret
      exact ⟨rfl, HB.out.trans (hb2.mono (Nat.le_of_lt hgs))⟩

end Go.Proofs.Ytlblhpbhcaljhaa
