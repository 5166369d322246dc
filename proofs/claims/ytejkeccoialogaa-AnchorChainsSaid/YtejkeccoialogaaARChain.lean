/-
  The page's Chain.
-/
import Derived.Test.YtejkeccoialogaaAChain
import Derived.Test.YtejkeccoialogaaARef
import Derived.Test.YtejkeccoialogaaQRef
namespace Go.Proofs.Ytejkeccoialogaa
open Go.RowKit

set_option maxRecDepth 100000 in
set_option maxHeartbeats 8000000 in
theorem rChain_is (N L after R : Int) (o : Ad) (l : List CrtD) (x : CrtD) (w : World) (h : GIn w o l) (hm : MayG N L l) (hr : evn R = true) (hc : chnB after R = true) (ha : ancC N l R = some x) :
    Calls Try.prog 35 #[dagV N L o, .int .i64 after, .int .i64 R] w (NewI ((chainC N L l after R x).map CrtD.d) w) := by
  obtain ⟨g, hg⟩ : ∃ g, g = w.heap.size := ⟨_, rfl⟩
  obtain ⟨w1, hw1⟩ : ∃ w1, w1 = w.alloc (.cells (dagC N L o).toArray 24) := ⟨_, rfl⟩
  obtain ⟨hb1, hsz, hx0⟩ := boxes1 w _ _ hw1
  rw [← hg] at hb1 hsz hx0
  have HG : Hid (w.heap.size = g) := hg.symm
  have HW : Hid (w.alloc (.cells #[.int .i64 N, .int .i64 L, .slice o.A o.n o.c] 24) = w1) := hw1.symm
  have HIN : Hid (∀ wX, Below g w wX → GIn wX o l) := fun wX hb => h.below (by rw [← hg]; exact hb)
  have HB := Lib.hid hb1
  have HX0 := Lib.hid hx0
  have HD : Hid (∀ wX, Below w1.heap.size w1 wX → wX.cell? ⟨g, 0, none⟩ = some (.int .i64 N) ∧ wX.cell? ⟨g, 1, none⟩ = some (.int .i64 L) ∧ wX.cell? ⟨g, 2, none⟩ = some (.slice o.A o.n o.c)) := fun wX hb => dag_cells (HX0.out.below hb HX0.out.1)
  have hgs := hx0.1
  obtain ⟨d0, d1, d2⟩ := dag_cells hx0
  have HC := Lib.hid (rAnchor_is N L R o l w1 (HIN.out _ hb1) hm.n hr)
  rw [ancN_some ha] at HC
  have hq := chnB_yes hc
  obtain ⟨hr2, hr3, hr4⟩ := evn_yes hr
  have HM := Lib.hid hm
  have HOK : Hid (∀ k, StOk N L l x R k (stC N L l x R k)) := stC_ok ha
  have HFEW : Hid (l.length ≤ 65536) := hm.few
  have HPAR : Hid (after % 2 = 0 ∧ R % 2 = 0) := ⟨hq.2.1, hr4⟩
  have haR : after < R := hq.2.2
  have ha0 : 0 ≤ after := hq.1
  have HLEN := Lib.hid h.len
  have hn0 : 0 < o.n := by
    rw [← h.len]
    exact List.length_pos_of_mem (ancC_some ha).1
  obtain ⟨z, hz⟩ : ∃ z, l[0]? = some z := ⟨_, List.getElem?_eq_getElem (by rw [h.len]; exact hn0)⟩
  obtain ⟨b, off, az, hA, hbl, -, hce⟩ := h.get hz
  have HZ1 : Hid (∀ wX, Below g w wX → wX.cell? ⟨b, off + 0 * 6 + 1, none⟩ = some (.int .i64 z.r)) := fun wX hb => (hce wX (by rw [HG.out]; exact hb)).c1
  have HFIR : Hid (∀ q, q < z.r → ancC N l q = none) := fun q hq => ancC_first hm hz hq
  have HRA : Hid (∀ q, evn q = true → ∀ wX, Below g w wX → Calls Try.prog 27 #[.agg #[.int .i64 N, .int .i64 L, .slice o.A o.n o.c], .int .i64 q] wX (Tells wX.heap.size wX (.int .i64 (ancN N l q)))) := fun q he wX hb => rAnchor_is N L q o l wX (HIN.out wX hb) hm.n he
  have HRE : Hid (∀ y ∈ l, ∀ v ∈ l, ∀ wX, Below g w wX → Calls Try.prog 71 #[.agg #[.int .i64 N, .int .i64 L, .slice o.A o.n o.c], .int .i64 y.d, .int .i64 v.d] wX fun e w' => e = .returned (.bool (rchB L l y v)) ∧ Below wX.heap.size wX w') := fun y hy v hv wX hb => rReach_is N L y.d v.d o l y v wX (HIN.out wX hb) hm (cut_digA hm hy) (cut_digA hm hv)
  have HPOS : Hid (∀ q v, ancC N l q = some v → 1 ≤ v.d) := fun q v hv => (ancC_pos hm hv).1
  have hfn := h.few
  clear hg hw1 hb1 hsz hx0 h hm ha hr hq hc hz hce
  obtain ⟨A, n, c⟩ := o
  dsimp only at hA hn0 d2 HLEN HX0 HD HRA HRE HC hfn
  subst hA
  unfold dagV at HC ⊢
  have i0 : (0 : Int) < (n : Int) := by omega
  obtain ⟨zr, hzr⟩ : ∃ zr, zr = z.r := ⟨_, rfl⟩
  rw [← hzr] at HZ1 HFIR
  clear hzr
  dsimp only
  go_enter Try.func35, Try.ntmps35
  go_upto_region 1 with fail
  rw [HG.out, HW.out]
  go_upto_region 3 with (go_at_call 27; refine HC.out.mono ?_; rintro e w2 ⟨rfl, hb2⟩)
  obtain ⟨G, hG⟩ : ∃ G, G = w2.heap.size := ⟨_, rfl⟩
  obtain ⟨w3, hw3⟩ : ∃ w3, w3 = w2.alloc (.cells [Value.int .i64 x.d].toArray 3) := ⟨_, rfl⟩
  have HGE : Hid (w2.heap.size = G) := hG.symm
  have HW3 : Hid (w2.alloc (.cells #[.int .i64 x.d] 3) = w3) := hw3.symm
  rw [HGE.out, HW3.out]
  have hgw2 : g + 1 ≤ w2.heap.size := by have := hb2.size; omega
  have hb23 : Below w2.heap.size w2 w3 := by rw [hw3]; exact (Below.refl _ _).alloc (Nat.le_refl _) _
  have HO3 : Hid (w3.ownsRow (g + 1) 3 1 (.slice (some ⟨G, 0, none⟩) 1 1) 1 (i64s [x.d])) := by
    show World.ownsRow _ _ _ _ _ _ _
    rw [hw3, hG]
    exact one_new w2 x.d hgw2
  have hb13 : Below w1.heap.size w1 w3 := hb2.trans (hb23.mono hb2.size)
  have HX3 : Hid (Box w3 g (dagC N L ⟨some ⟨b, off, none⟩, n, c⟩)) := HX0.out.below hb13 HX0.out.1
  have HB3 : Hid (Below g w w3) := HB.out.trans (hb13.mono (Nat.le_of_lt hgs))
  clear hb2 hG hw3 hgw2 hb23 hb13 d0 d1 d2
  obtain ⟨d0, d1, d2⟩ := dag_cells HX3.out
  have hz1 := HZ1.out w3 HB3.out
  rw [Nat.zero_mul] at hz1
  go_wp2_with fail
  clear d0 d1 d2 hz1
  go_loopw [7, 8, 10] (fun p v i wr => ∃ (k : Nat) (Q : Int) (ol : Ad), p = .int .i64 (stC N L l x R k).1.d ∧ v = .slice ol.A ol.n ol.c ∧ i = .int .i64 Q ∧ Hid (Q = R - 2 * (k : Int) - 2) ∧ Hid (k = 0 ∨ after < Q + 2) ∧ Hid (wr.ownsRow (g + 1) 3 1 ol.v ol.n (i64s ((stC N L l x R k).2.map CrtD.d))) ∧ Hid ((stC N L l x R k).2.length = ol.n) ∧ Hid (Box wr g (dagC N L ⟨some ⟨b, off, none⟩, n, c⟩)) ∧ Hid (Below g w wr)) (fun _ _ i _ => (intOf i + 2).toNat)
  case atStart => exact ⟨0, R - 2, ⟨some ⟨G, 0, none⟩, 1, 1⟩, rfl, rfl, rfl, by show _ = _; omega, .inl rfl, HO3.out, rfl, HX3.out, HB3.out⟩
  case round =>
    obtain ⟨k, Q, ol, rfl, rfl, rfl, HQ, HK, HO, HL, HBX, HBW⟩ := hrel
    have hs := HOK.out k
    have hlenC : ol.n ≤ 65536 := by rw [← HL.out]; exact Nat.le_trans (stOk_len hs) HFEW.out
    have hQhi : Q ≤ 1099511627776 := by have := HQ.out; omega
    have hQlo : -2 ≤ Q := by
      have h1 := HQ.out
      rcases HK.out with h2 | h2
      · subst h2; omega
      · omega
    obtain ⟨d0, d1, d2⟩ := dag_cells HBX.out
    by_cases hgo : after < Q ∧ zr ≤ Q
    · obtain ⟨hg1, hg2⟩ := hgo
      have hev : evn Q = true := by
        have := HQ.out
        have := HPAR.out
        unfold evn
        rw [decide_eq_true_eq]
        refine ⟨by omega, by omega, by omega⟩
      have HAQ := Lib.hid (HRA.out Q hev wr HBW.out)
      have HNX : Hid (stC N L l x R (k + 1) = stepC L l (ancC N l Q) (stC N L l x R k)) := by
        show _ = _
        rw [stC_next, show R - 2 * ((k : Int) + 1) = Q by have := HQ.out; omega]
      have HSM : Hid ((stC N L l x R k).1 ∈ l) := hs.mem
      obtain ⟨s, hs0⟩ : ∃ s, s = stC N L l x R k := ⟨_, rfl⟩
      rw [← hs0] at HSM HNX HO HL ⊢
      have HS0 := Lib.hid hs0
      clear hev hs hs0
      cases hac : ancC N l Q with
      | none =>
        rw [ancN_none hac] at HAQ
        have HST : Hid (stC N L l x R (k + 1) = s) := by show _ = _; rw [HNX.out, hac]; rfl
        clear hac
        go_wp2_with (go_at_call 27; refine HAQ.out.mono ?_; rintro e w5 ⟨rfl, hb5⟩; obtain ⟨e0, e1, e2⟩ := dag_cells (HBX.out.below hb5 HBX.out.1))
        have HB5 := Lib.hid hb5
        go_roundw
        case rel => exact ⟨k + 1, Q - 2, ol, by rw [HST.out], rfl, by go_num, by show _ = _; have := HQ.out; omega, .inr (by omega), by show World.ownsRow _ _ _ _ _ _ _; rw [HST.out]; exact own_below HO.out HB5.out, by show _ = _; rw [HST.out]; exact HL.out, HBX.out.below HB5.out HBX.out.1, HBW.out.trans (HB5.out.mono (Nat.le_of_lt HBX.out.1))⟩
        case measure => simp [intOf]; omega
      | some y =>
        have hyd := HPOS.out Q y hac
        have hym := (ancC_some hac).1
        have HRQ : Hid (∀ wX, Below g w wX → _) := fun wX hb => HRE.out s.1 HSM.out y hym wX hb
        have hyd0 : (0 : Int) < y.d := by omega
        rw [ancN_some hac] at HAQ
        cases hrb : rchB L l s.1 y with
        | false =>
          have HST : Hid (stC N L l x R (k + 1) = s) := by
            show _ = _
            rw [HNX.out, hac]
            unfold stepC
            dsimp only
            rw [hrb]
            rfl
          rw [hrb] at HRQ
          clear hac hyd hym hrb
          go_wp2_with (first
            | (go_at_call 27; refine HAQ.out.mono ?_; rintro e w5 ⟨rfl, hb5⟩; obtain ⟨e0, e1, e2⟩ := dag_cells (HBX.out.below hb5 HBX.out.1); have hbw5 := HBW.out.trans (hb5.mono (Nat.le_of_lt HBX.out.1)))
            | (go_at_call 71; refine (HRQ.out _ hbw5).mono ?_; rintro e w6 ⟨rfl, hb6⟩))
          have HB5 : Hid (Below wr.heap.size wr w6) := hb5.trans (hb6.mono hb5.size)
          go_roundw
          case rel => exact ⟨k + 1, Q - 2, ol, by rw [HST.out], rfl, by go_num, by show _ = _; have := HQ.out; omega, .inr (by omega), by show World.ownsRow _ _ _ _ _ _ _; rw [HST.out]; exact own_below HO.out HB5.out, by show _ = _; rw [HST.out]; exact HL.out, HBX.out.below HB5.out HBX.out.1, HBW.out.trans (HB5.out.mono (Nat.le_of_lt HBX.out.1))⟩
          case measure => simp [intOf]; omega
        | true =>
          have HST : Hid (stC N L l x R (k + 1) = (y, y :: s.2)) := by
            show _ = _
            rw [HNX.out, hac]
            unfold stepC
            dsimp only
            rw [hrb]
            rfl
          rw [hrb] at HRQ
          clear hac hyd hym hrb
          go_upto_region 11 with (first
            | (go_at_call 27; refine HAQ.out.mono ?_; rintro e w5 ⟨rfl, hb5⟩; obtain ⟨e0, e1, e2⟩ := dag_cells (HBX.out.below hb5 HBX.out.1); have hbw5 := HBW.out.trans (hb5.mono (Nat.le_of_lt HBX.out.1)))
            | (go_at_call 71; refine (HRQ.out _ hbw5).mono ?_; rintro e w6 ⟨rfl, hb6⟩))
          have HB5 : Hid (Below wr.heap.size wr w6) := hb5.trans (hb6.mono hb5.size)
          have hgw6 : g + 1 ≤ w6.heap.size := by have := HB5.out.size; have := HBX.out.1; omega
          have HO6 : Hid (w6.ownsRow (g + 1) 3 1 ol.v ol.n (i64s (s.2.map CrtD.d))) := own_below HO.out HB5.out
          have HBX6 : Hid (Box w6 g (dagC N L ⟨some ⟨b, off, none⟩, n, c⟩)) := HBX.out.below HB5.out HBX.out.1
          have HBW6 : Hid (Below g w w6) := HBW.out.trans (HB5.out.mono (Nat.le_of_lt HBX.out.1))
          clear hb5 hb6 hbw5 d0 d1 d2 e0 e1 e2
          have hal : Below w6.heap.size w6 (w6.alloc (.cells #[.int .i64 y.d] 3)) := (Below.refl _ _).alloc (Nat.le_refl _) _
          have HAL := Lib.hid hal
          clear hal
          go_upto_region 12 with (at_builtin; refine wpList_app_list _ rfl _ _ 25 rfl (g + 1) 3 (.int .i64 0) 8 Try.underlying25 info_yint rfl (by decide) (.slice (some ⟨w6.heap.size, 0, none⟩) 1 1) 1 (i64s [y.d]) rfl (one_new w6 y.d hgw6) ol.A ol.n ol.c (i64s (s.2.map CrtD.d)) rfl (by rw [i64s_length, List.length_map, HL.out]) (rd_of_own (A := ol.A) (c := ol.c) (own_below HO6.out HAL.out)).2.2 (i64s_one _) (by omega) (by simp; omega) ?_; intro v8 w8 ho8 hb8)
          obtain ⟨A8, c8, rfl, -⟩ := own_val ho8
          have hb68 : Below (g + 1) w6 w8 := (HAL.out.mono hgw6).trans hb8
          have HO8 : Hid (w8.ownsRow (g + 1) 3 1 (Ad.v ⟨A8, 1 + ol.n, c8⟩) (1 + ol.n) (i64s ((y :: s.2).map CrtD.d))) := ho8
          have HBX8 : Hid (Box w8 g (dagC N L ⟨some ⟨b, off, none⟩, n, c⟩)) := HBX6.out.below hb68 (Nat.lt_succ_self g)
          have HBW8 : Hid (Below g w w8) := HBW6.out.trans (hb68.mono (Nat.le_succ g))
          clear hb8 ho8 hb68
          go_wp2_with fail
          go_roundw
          case rel => exact ⟨k + 1, Q - 2, ⟨A8, 1 + ol.n, c8⟩, by rw [HST.out], rfl, by go_num, by show _ = _; have := HQ.out; omega, .inr (by omega), by show World.ownsRow _ _ _ _ _ _ _; rw [HST.out]; exact HO8.out, by show _ = _; rw [HST.out]; show s.2.length + 1 = 1 + ol.n; rw [HL.out, Nat.add_comm], HBX8.out, HBW8.out⟩
          case measure => simp [intOf]; omega
    · have HST : Hid ((stC N L l x R k).2 = chainC N L l after R x) := by
        have h1 := HQ.out
        have h2 := HPAR.out
        refine chain_end (by rcases HK.out with h3 | h3 <;> omega) fun j hj hk => ?_
        rcases Classical.em (Q ≤ after) with h4 | h4
        · omega
        · exact HFIR.out _ (by omega)
      have HN : Hid ((chainC N L l after R x).length = ol.n) := by show _ = _; rw [← HST.out]; exact HL.out
      rw [HST.out] at HO
      clear hs
      rcases Classical.em (after < Q) with h4 | h4
      · have h5 : ¬ zr ≤ Q := fun h5 => hgo ⟨h4, h5⟩
        clear hgo
        go_wp2_with fail
        go_ret
        exact newI_of (own_more HO.out (by rw [HG.out]; omega)) (by rw [List.length_map, HN.out]) (by rw [HG.out]; exact HBW.out)
      · clear hgo
        go_wp2_with fail
        go_ret
        exact newI_of (own_more HO.out (by rw [HG.out]; omega)) (by rw [List.length_map, HN.out]) (by rw [HG.out]; exact HBW.out)

end Go.Proofs.Ytejkeccoialogaa
