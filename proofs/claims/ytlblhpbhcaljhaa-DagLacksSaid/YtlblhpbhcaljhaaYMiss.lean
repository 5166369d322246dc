/-
  Package dag's missing: which parents are not there.
-/
import Derived.Test.YtlblhpbhcaljhaaYSrch
import Derived.Test.YtlblhpbhcaljhaaYDig
namespace Go.Proofs.Ytlblhpbhcaljhaa
open Go.RowKit

theorem filter_next {f : Int → Bool} {l : List Int} {k : Nat} {p : Int} (h : l[k]? = some p) : (l.take (k + 1)).filter f = (l.take k).filter f ++ (if f p then [p] else []) := by
  rw [List.take_add_one, h, List.filter_append]
  cases hf : f p <;> simp [hf]
/-- new numbers -/
def NewI (z : List Int) (w : World) (en : Ending) (w' : World) : Prop := ∃ o' : Ad, en = .returned (.slice o'.A o'.n o'.c) ∧ w'.ownsRow w.heap.size 3 1 o'.v o'.n (i64s z) ∧ z.length = o'.n ∧ Below w.heap.size w w'
theorem newI_of {z : List Int} {w w' : World} {v : Value} {q : Nat} (h : w'.ownsRow w.heap.size 3 1 v q (i64s z)) (hq : q = z.length) (hb : Below w.heap.size w w') : NewI z w (.returned v) w' := by
  obtain ⟨A, c, rfl, _⟩ := own_val h
  exact ⟨⟨A, q, c⟩, rfl, h, hq.symm, hb⟩
theorem newI_nil (w w' : World) (hb : Below w.heap.size w w') : NewI [] w (.returned (.slice none 0 0)) w' := newI_of (World.ownsRow_nil _ _ _ _) rfl hb

set_option maxRecDepth 100000 in
set_option maxHeartbeats 4000000 in
theorem missing_is (N L : Int) (o : Ad) (l : List CrtD) (x : CrtD) (a : CrtA) (w : World) (h : GIn w o l) (ha : AscC l) (hi : CIn w x a) (hf : CrtFit x) (hL : 0 ≤ L ∧ L ≤ 1099511627776) (hr : 0 ≤ x.r ∧ x.r ≤ 1099511627776) :
    Calls Try.prog 52 #[dagV N L o, crtV x a] w (NewI (lacksC L l x) w) := by
  obtain ⟨w1, hw1⟩ : ∃ w1, w1 = (w.alloc (.cells #[.int .i64 N, .int .i64 L, .slice o.A o.n o.c] 24)).alloc (.cells #[.int .i64 x.a, .int .i64 x.r, .slice a.B.A a.B.n a.B.c, .slice a.P.A a.P.n a.P.c, .int .i64 x.d, .slice a.S.A a.S.n a.S.c] 45) := ⟨_, rfl⟩
  obtain ⟨hb1, hsz, hD1, hC1⟩ := two_new w N L o x a _ _ hw1
  have HW := Lib.hid hw1
  have HD := Lib.hid hD1
  have HE := Lib.hid hC1
  have HZ := Lib.hid hsz
  have HB := Lib.hid hb1
  have HH := Lib.hid h
  have HA := Lib.hid ha
  have HI := Lib.hid hi
  have hlP := hf.lP
  have hnP := hi.p.len
  have hcP := hi.p.cap
  clear hw1 hb1 h ha hi hf
  obtain ⟨d0, d1, d2⟩ := dag_cells hD1
  obtain ⟨c0, c1, c2, c3, c4, c5⟩ := crt_cells hC1
  by_cases h1 : x.r = L + 1
  · have HN : Hid (lacksC L l x = []) := by show _ = _; rw [lacksC, if_pos h1]
    have j1 : (x.r == L + 1) = true := by simp [h1]
    clear h1 hD1 hC1 hsz
    unfold dagV crtV
    go_enter Try.func52, Try.ntmps52
    go_upto_region 1 with fail
    rw [← HW.out]
    go_wp2_with fail
    go_ret
    rw [HN.out]
    exact newI_nil _ _ HB.out
  · have HN : Hid (lacksC L l x = x.P.filter fun p => !hasDg (inR l (x.r - 1)) p) := by show _ = _; rw [lacksC, if_neg h1]
    have j1 : (x.r == L + 1) = false := by simp [h1]
    obtain ⟨ms, hrow, hml⟩ := HH.out
    have HR := Lib.hid (inRound_is N L (x.r - 1) o ms l w1 (hrow.below HB.out) hml HA.out)
    clear h1 hrow hml hD1 hC1 hsz
    obtain ⟨f, hff⟩ : ∃ f : Int → Bool, f = fun p => !hasDg (inR l (x.r - 1)) p := ⟨_, rfl⟩
    have HFF : Hid (∀ p, f p = !hasDg (inR l (x.r - 1)) p) := fun p => by rw [hff]
    rw [← hff] at HN
    clear hff
    obtain ⟨pn, hpn⟩ : ∃ pn, pn = a.P.n := ⟨_, rfl⟩
    obtain ⟨PA, hPA⟩ : ∃ PA, PA = a.P.A := ⟨_, rfl⟩
    have HPR : Hid (∀ wX, Below w.heap.size w wX → Rd wX PA (i64s x.P)) := fun wX hb => by rw [hPA]; exact (HI.out.below hb).p.rd
    have HPL : Hid (x.P.length = pn) := by show _ = _; rw [hpn]; exact hnP
    have hpl : pn ≤ 100000 := by omega
    rw [← hPA, ← hpn] at c3
    have HP3 : Hid (∀ wX, Below w1.heap.size w1 wX → wX.cell? ⟨w.heap.size + 1, 3, none⟩ = some (.slice PA pn a.P.c)) := fun wX hb => by
      rw [hPA, hpn]
      have := HZ.out
      exact (crt_cells (HE.out.below hb (by omega))).2.2.2.1
    clear hnP hcP hlP hpn hPA
    unfold dagV crtV
    unfold dagV at HR
    go_enter Try.func52, Try.ntmps52
    go_upto_region 1 with fail
    rw [← HW.out]
    go_upto_region 4 with (go_at_call 71; refine HR.out.mono ?_; rintro e w2 ⟨⟨A2, n2, cq⟩, ms2, rfl, hrow2, hml2, hb2⟩)
    have HG2 : Hid (GIn w2 ⟨A2, n2, cq⟩ (inR l (x.r - 1))) := ⟨ms2, hrow2.below hb2, hml2⟩
    have k3 := HP3.out _ hb2
    have hbw2 := HB.out.trans (hb2.mono HB.out.size)
    clear hrow2 hml2 d0 d1 d2 c0 c1 c2 c3 c4 c5 HR
    go_wp2_with fail
    go_loopw [6, 26] (fun v i wr => ∃ k q : Nat, i = .int .i64 k ∧ k ≤ pn ∧ q ≤ k ∧ Hid (wr.ownsRow w2.heap.size 3 1 v q (i64s ((x.P.take k).filter f)) ∧ q = ((x.P.take k).filter f).length) ∧ Hid (Below w2.heap.size w2 wr)) (fun _ i _ => pn - (intOf i).toNat)
    case atStart => exact ⟨0, 0, rfl, by omega, by omega, ⟨by rw [List.take_zero]; exact World.ownsRow_nil _ _ _ _, by simp⟩, Below.refl _ _⟩
    case round =>
      clear k3
      obtain ⟨k, q, rfl, hk, hqk, HO, HBR⟩ := hrel
      have hbr := hbw2.trans (HBR.out.mono hbw2.size)
      by_cases hlt : k < pn
      · obtain ⟨p, hp⟩ : ∃ p, x.P[k]? = some p := ⟨_, List.getElem?_eq_getElem (by rw [HPL.out]; exact hlt)⟩
        obtain ⟨b, off, rfl, hbl, hcell⟩ := (HPR.out _ hbr).open_ (by rw [i64s_length, HPL.out]; omega)
        have hc1 := hcell k (.int .i64 p) (by simp [i64s, hp])
        have HX := Lib.hid (filter_next (f := f) hp)
        have HG3 := Lib.hid (hasDigest_is p ⟨A2, n2, cq⟩ (inR l (x.r - 1)) wr (HG2.out.below HBR.out))
        have hfp := HFF.out p
        clear hcell hp
        have i0 : (0 : Int) ≤ (k : Int) := by omega
        have i1 : (k : Int) < (pn : Int) := by omega
        cases hh : hasDg (inR l (x.r - 1)) p with
        | true =>
          rw [hh] at hfp HG3
          have HT : Hid ((x.P.take (k + 1)).filter f = (x.P.take k).filter f) := by show _ = _; rw [HX.out, hfp]; simp
          clear hh hfp HX
          go_wp2_with (go_at_call 58; refine HG3.out.mono ?_; rintro e w3 ⟨rfl, hb3⟩)
          go_roundw
          case rel =>
            refine ⟨k + 1, q, by go_num, by omega, by omega, ?_, HBR.out.trans (hb3.mono HBR.out.size)⟩
            show _ ∧ _
            rw [HT.out]
            exact ⟨own_below HO.out.1 hb3, HO.out.2⟩
          case measure => simp [intOf]; omega
        | false =>
          rw [hh] at hfp HG3
          have HT : Hid ((x.P.take (k + 1)).filter f = (x.P.take k).filter f ++ [p]) := by show _ = _; rw [HX.out, hfp]; simp
          clear hh hfp HX
          go_upto_region 9 with (go_at_call 58; refine HG3.out.mono ?_; rintro e w3 ⟨rfl, hb3⟩)
          have hO3 := own_below HO.out.1 hb3
          have hbr3 := hbr.trans (hb3.mono hbr.size)
          go_wp2_with (at_builtin; refine wpList_app_one _ rfl _ _ 25 rfl w2.heap.size 3 (.int .i64 0) 8 Try.underlying25 info_i64 rfl (by decide) _ q _ rfl (hO3.alloc _) w3.heap.size (.int .i64 p) rfl (cell_new _ _ _) rfl (by omega) (by have := (HBR.out.trans (hb3.mono HBR.out.size)).size; simp; omega) ?_)
          intro v' w4 hown4 hb4
          have hown5 : w4.ownsRow w2.heap.size 3 1 v' (q + 1) (i64s ((x.P.take (k + 1)).filter f)) := by rw [HT.out, i64s_append]; exact hown4
          have hbw4 : Below w2.heap.size w2 w4 := by
            have h1 := HBR.out.trans (hb3.mono HBR.out.size)
            have h2 := h1.alloc h1.size (.cells #[.int .i64 p] 3)
            exact h2.trans hb4
          clear hown4 hO3
          go_wp2
          go_roundw
          case rel =>
            refine ⟨k + 1, q + 1, by go_num, by omega, by omega, ⟨hown5, ?_⟩, hbw4⟩
            rw [HT.out, List.length_append, ← HO.out.2]; rfl
          case measure => simp [intOf]; omega
      · obtain rfl : k = pn := by omega
        have i1 : ¬ ((k : Int) < (k : Int)) := by omega
        have HT : Hid (x.P.take k = x.P) := List.take_of_length_le (by rw [HPL.out]; exact Nat.le_refl _)
        have ho := HO.out
        rw [HT.out, ← HN.out] at ho
        have HO2 := Lib.hid ho
        clear hlt ho
        go_wp2_with fail
        go_ret
        exact newI_of (own_more HO2.out.1 hbw2.size) HO2.out.2 hbr

end Go.Proofs.Ytlblhpbhcaljhaa
