/-
  Package anchor's lowest: what is reached of the lowest round.
-/
import Derived.Test.YtejkeccoialogaaAVotes
import Derived.Test.YtejkeccoialogaaQLaw
namespace Go.Proofs.Ytejkeccoialogaa
open Go.RowKit

noncomputable def belL (L : Int) (l fl : List CrtD) : List Int := fl.flatMap fun z => belC L l z L
theorem belL_next {L : Int} {l fl : List CrtD} {t : Nat} {z : CrtD} (h : fl[t]? = some z) : belL L l (fl.take (t + 1)) = belL L l (fl.take t) ++ belC L l z L := by
  unfold belL
  rw [List.take_add_one, h, List.flatMap_append]
  simp
theorem belL_len (L : Int) (l : List CrtD) : ∀ fl : List CrtD, (belL L l fl).length ≤ fl.length * l.length
  | [] => by simp [belL]
  | z :: r => by
    have ih := belL_len L l r
    have h1 : (belC L l z L).length ≤ l.length := by
      unfold belC
      rw [List.length_map]
      exact List.length_filter_le _ _
    have e : belL L l (z :: r) = belC L l z L ++ belL L l r := rfl
    rw [e, List.length_append, List.length_cons, Nat.add_mul]
    omega
/-- those of the lowest round that one of these reaches -/
noncomputable def lowF (L : Int) (l fl : List CrtD) : List CrtD := (inR l (L + 1)).filter fun y => fl.any fun z => rchB L l z y
theorem inB_bel {N L : Int} {l fl : List CrtD} (h : MayG N L l) {y : CrtD} (hy : y ∈ l) : inB (belL L l fl) y.d = fl.any fun z => rchB L l z y := by
  rw [Bool.eq_iff_iff, inB_iff, List.any_eq_true]
  unfold belL
  rw [List.mem_flatMap]
  constructor
  · rintro ⟨z, hz, hp⟩
    obtain ⟨y', h1, h2, h3, -⟩ := mem_bel.1 hp
    have e := dig_mem h.dig h1 hy h2
    subst e
    exact ⟨z, hz, rchB_iff.2 h3⟩
  · rintro ⟨z, hz, hr⟩
    exact ⟨z, hz, mem_bel.2 ⟨y, hy, rfl, rchB_iff.1 hr, (h.of_mem hy).2⟩⟩
theorem low_filter {N L : Int} {l fl : List CrtD} (h : MayG N L l) : ((inR l (L + 1)).filter fun y => inB (belL L l fl) y.d) = lowF L l fl := by
  unfold lowF
  exact List.filter_congr fun y hy => inB_bel h (mem_inR.1 hy).1
theorem cut_digA {N L : Int} {l : List CrtD} {y : CrtD} (h : MayG N L l) (hy : y ∈ l) : l[cutF (neD y.d) l]? = some y := by rw [← findC_cut]; exact findC_mem h.dig hy
theorem filter_nextA {f : CrtD → Bool} {l : List CrtD} {k : Nat} {y : CrtD} (h : l[k]? = some y) : ((l.take (k + 1)).filter f).map CrtD.d = ((l.take k).filter f).map CrtD.d ++ (if f y = true then [y.d] else []) := by
  rw [List.take_add_one, h, List.filter_append, List.map_append]
  congr 1
  simp only [Option.toList, List.filter_cons, List.filter_nil]
  split <;> rfl
set_option maxRecDepth 100000 in
set_option maxHeartbeats 8000000 in
theorem lowest_is (N L : Int) (o of : Ad) (l fl : List CrtD) (w : World) (h : GIn w o l) (hm : MayG N L l) (hL : L < 1099511627777) (hf : SlIn w of fl.length (i64s (fl.map CrtD.d))) (hmem : ∀ z ∈ fl, z ∈ l) (hfl : fl.length ≤ 100) (hll : l.length ≤ 1000) :
    Calls Try.prog 73 #[dagV N L o, .slice of.A of.n of.c] w (NewI ((lowF L l fl).map CrtD.d) w) := by
  obtain ⟨g, hg⟩ : ∃ g, g = w.heap.size := ⟨_, rfl⟩
  obtain ⟨w1, hw1⟩ : ∃ w1, w1 = w.alloc (.cells (dagC N L o).toArray 24) := ⟨_, rfl⟩
  obtain ⟨hb1, hsz, hx0⟩ := boxes1 w _ _ hw1
  rw [← hg] at hb1 hsz hx0
  have HG : Hid (w.heap.size = g) := hg.symm
  have HW : Hid (w.alloc (.cells #[.int .i64 N, .int .i64 L, .slice o.A o.n o.c] 24) = w1) := hw1.symm
  have HIN : Hid (∀ wX, Below g w wX → GIn wX o l) := fun wX hb => h.below (by rw [← hg]; exact hb)
  have HB := Lib.hid hb1
  have HX0 := Lib.hid hx0
  have HD : Hid (∀ wX, Below w1.heap.size w1 wX → wX.cell? ⟨g, 0, none⟩ = some (.int .i64 N) ∧ wX.cell? ⟨g, 1, none⟩ = some (.int .i64 L) ∧ wX.cell? ⟨g, 2, none⟩ = some (.slice o.A o.n o.c)) := fun wX hb => dag_cells (HX0.out.below hb HX0.out.1)
  have hgs := hx0.1
  obtain ⟨d0, d1, d2⟩ := dag_cells hx0
  have HBE : Hid (∀ z ∈ fl, ∀ wX, Below g w wX → Calls Try.prog 96 #[dagV N L o, .int .i64 z.d, .int .i64 L] wX (BelowOk (belC L l z L) wX)) := fun z hz wX hb => below_ok N L z.d L o l z wX (HIN.out _ hb) hm (cut_digA hm (hmem z hz))
  have HRD : Hid (∀ wX, Below g w wX → _) := fun wX hb => round_ok N L (L + 1) o l wX (HIN.out wX hb) hm
  have HFR : Hid (∀ wX, Below g w wX → SlIn wX of fl.length (i64s (fl.map CrtD.d))) := fun wX hb => hf.below (by rw [HG.out]; exact hb)
  have HFL : Hid (fl.length = of.n) := hf.len
  have HLOW := Lib.hid (low_filter (fl := fl) hm)
  have HBL : Hid (∀ t, (belL L l (fl.take t)).length ≤ 100000) := fun t => by
    have h1 := belL_len L l (fl.take t)
    have h2 : (fl.take t).length ≤ 100 := by rw [List.length_take]; omega
    have h3 := Nat.mul_le_mul h2 hll
    omega
  have HFIT : Hid (∀ x ∈ inR l (L + 1), CrtFit x) := fun x hx => h.fit (mem_inR.1 hx).1
  have HSM : Hid ((inR l (L + 1)).length ≤ 1000) := by show _ ≤ _; have : (inR l (L + 1)).length ≤ l.length := List.length_filter_le _ _; omega
  have hfn : of.n ≤ 100 := by rw [← hf.len]; exact hfl
  have hL0 := hm.l0
  clear hg hw1 hb1 hsz hx0 h hm
  clear hf hmem hfl hll
  unfold dagV at HBE HRD ⊢
  go_enter Try.func73, Try.ntmps73
  go_upto_region 1 with fail
  rw [HG.out, HW.out]
  have hwr : IntKind.i64.wrap (L + 1) = L + 1 := IntWalk.i64_in _ (by omega)
  go_wp2_with fail
  go_loopw [17, 5] (fun i v wr => ∃ (t : Nat) (o5 : Ad), i = .int .i64 t ∧ v = .slice o5.A o5.n o5.c ∧ t ≤ of.n ∧ Hid (wr.ownsRow (g + 1) 3 1 o5.v o5.n (i64s (belL L l (fl.take t)))) ∧ Hid ((belL L l (fl.take t)).length = o5.n) ∧ Hid (Box wr g (dagC N L o)) ∧ Hid (Below g w wr)) (fun i _ _ => of.n - (intOf i).toNat)
  case atStart => exact ⟨0, noAd, rfl, rfl, Nat.zero_le _, World.ownsRow_nil _ _ _ _, rfl, HX0.out, HB.out⟩
  case round =>
    clear d0 d1 d2
    obtain ⟨t, o5, rfl, rfl, ht, HO5, HL5, HBX, HBW⟩ := hrel
    obtain ⟨d0, d1, d2⟩ := dag_cells HBX.out
    by_cases hlt : t < of.n
    · obtain ⟨z, hz⟩ : ∃ z, fl[t]? = some z := ⟨_, List.getElem?_eq_getElem (by rw [HFL.out]; exact hlt)⟩
      obtain ⟨b, off, hA, hbl, hcell⟩ := (HFR.out wr HBW.out).rd.open_ (by rw [i64s_length, List.length_map, HFL.out]; omega)
      have hc1 := hcell t (.int .i64 z.d) (by simp [i64s, hz])
      have HBZ := Lib.hid (HBE.out z (List.mem_of_getElem? hz) wr HBW.out)
      have HNX : Hid (belL L l (fl.take (t + 1)) = belL L l (fl.take t) ++ belC L l z L) := belL_next hz
      have hlen1 := HBL.out (t + 1)
      rw [HNX.out, List.length_append, HL5.out] at hlen1
      have i0 : (0 : Int) ≤ (t : Int) := by omega
      have i1 : (t : Int) < (of.n : Int) := by omega
      obtain ⟨A, n, c⟩ := of
      dsimp only at hA i1
      subst hA
      unfold dagV at HBZ
      clear hz hcell
      go_upto_region 6 with (go_at_call 96; refine HBZ.out.mono ?_; rintro e w4 ⟨⟨A4, n4, q4⟩, rfl, ho4, hl4, hb4⟩)
      try dsimp only at hl4 ho4
      have HB4 := Lib.hid hb4
      have HO4 := Lib.hid ho4
      have hgw : g + 1 ≤ w4.heap.size := by have := hb4.size; have := HBX.out.1; omega
      rw [hl4] at hlen1
      go_wp2_with (at_builtin; refine wpList_app_list _ rfl _ _ 25 rfl (g + 1) 3 (.int .i64 0) 8 Try.underlying25 info_yint rfl (by decide) o5.v o5.n (i64s (belL L l (fl.take t))) rfl (own_below HO5.out hb4) A4 n4 q4 (i64s (belC L l z L)) rfl (by rw [i64s_length, hl4]) (rd_of_own ho4).2.2 (i64s_one _) (by omega) hgw ?_; intro v6 w6 ho6 hb6)
      obtain ⟨A6, c6, rfl, -⟩ := own_val ho6
      have HO6 : Hid (w6.ownsRow (g + 1) 3 1 (Ad.v ⟨A6, o5.n + n4, c6⟩) (o5.n + n4) (i64s (belL L l (fl.take (t + 1))))) := by
        show World.ownsRow _ _ _ _ _ _ _
        rw [HNX.out, i64s_append]
        exact ho6
      have HL6 : Hid ((belL L l (fl.take (t + 1))).length = o5.n + n4) := by show _ = _; rw [HNX.out, List.length_append, HL5.out, hl4]
      have HBX6 : Hid (Box w6 g (dagC N L o)) := (HBX.out.below HB4.out HBX.out.1).below hb6 (Nat.lt_succ_self g)
      have HBW6 : Hid (Below g w w6) := (HBW.out.trans (HB4.out.mono (Nat.le_of_lt HBX.out.1))).trans (hb6.mono (Nat.le_succ g))
      clear ho4 hb4 hb6 ho6 hl4 hlen1 hc1 hbl hgw
      go_wp2_with fail
      go_roundw
      case rel => exact ⟨t + 1, ⟨A6, o5.n + n4, c6⟩, by go_num, rfl, hlt, HO6.out, HL6.out, HBX6.out, HBW6.out⟩
      case measure => simp [intOf]; omega
    · obtain rfl : t = of.n := by omega
      have i1 : ¬ ((of.n : Int) < (of.n : Int)) := by omega
      have ht2 : fl.take of.n = fl := List.take_of_length_le (by rw [HFL.out]; exact Nat.le_refl _)
      have hl5n : o5.n ≤ 100000 := by rw [← HL5.out]; exact HBL.out _
      rw [ht2] at HO5 HL5
      have HRW := Lib.hid (HRD.out wr HBW.out)
      clear hlt ht2
      go_upto_region 8 with fail
      go_wp2_with (go_at_call 65; refine HRW.out.mono ?_; rintro e w4 ⟨o2, ms2, rfl, ho2, hm2, hb4⟩)
      have HGN : Hid (∀ wX, Below w4.heap.size w4 wX → GIn wX o2 (inR l (L + 1))) := fun wX hb => ⟨ms2, (ho2.below hb).in_ (fun x hx => HFIT.out x.1 (by rw [← hm2]; exact List.mem_map_of_mem hx)) (by have := HSM.out; rw [← hm2, List.length_map] at this; omega), hm2⟩
      have HBW4 : Hid (Below g w w4) := HBW.out.trans (hb4.mono (Nat.le_of_lt HBX.out.1))
      have HO4 : Hid (w4.ownsRow (g + 1) 3 1 o5.v o5.n (i64s (belL L l fl))) := own_below HO5.out hb4
      have HS4 : Hid (g ≤ w4.heap.size) := by show _ ≤ _; have := hb4.size; have := HBX.out.1; omega
      clear ho2 hm2 hb4 d0 d1 d2
      obtain ⟨m, hm2⟩ : ∃ m, inR l (L + 1) = m := ⟨_, rfl⟩
      rw [hm2] at HFIT HSM HGN HLOW
      have HLEN : Hid (m.length = o2.n) := (HGN.out _ (Below.refl _ _)).len
      have hn2 : o2.n ≤ 1000 := by rw [← HLEN.out]; exact HSM.out
      have HGET : Hid (∀ (i : Nat) (x : CrtD), m[i]? = some x → ∃ (b off : Nat) (a : CrtA), o2.A = some ⟨b, off, none⟩ ∧ b < w4.heap.size ∧ CrtFit x ∧ ∀ wX, Below w4.heap.size w4 wX → CrtAt wX b off i x a) := fun i x hx => (HGN.out _ (Below.refl _ _)).get hx
      have HCN : Hid (∀ p wX, Below w4.heap.size w4 wX → Calls Try.prog 69 #[.slice o5.A o5.n o5.c, .int .i64 p] wX fun e w' => e = .returned (.bool (inB (belL L l fl) p)) ∧ w' = wX) := fun p wX hb => contains_is p o5 (belL L l fl) wX HL5.out (rd_of_own (A := o5.A) (c := o5.c) (own_below HO4.out hb)).2.2 (by omega)
      clear hm2
      obtain ⟨f, hf⟩ : ∃ f : CrtD → Bool, f = fun y => inB (belL L l fl) y.d := ⟨_, rfl⟩
      have HF : Hid (∀ y : CrtD, inB (belL L l fl) y.d = f y) := fun y => by rw [hf]
      rw [← hf] at HLOW
      clear hf
      obtain ⟨A2, n2, c2⟩ := o2
      dsimp only at HLEN hn2 HGET
      go_wp2_with fail
      go_loopw [43, 12] (fun i v wr => ∃ (t : Nat) (o7 : Ad), i = .int .i64 t ∧ v = .slice o7.A o7.n o7.c ∧ t ≤ n2 ∧ o7.n ≤ t ∧ Hid (wr.ownsRow w4.heap.size 3 1 o7.v o7.n (i64s (((m.take t).filter f).map CrtD.d))) ∧ Hid (((m.take t).filter f).length = o7.n) ∧ Hid (Below w4.heap.size w4 wr)) (fun i _ _ => n2 - (intOf i).toNat)
      case atStart => exact ⟨0, noAd, rfl, rfl, Nat.zero_le _, Nat.le_refl _, World.ownsRow_nil _ _ _ _, rfl, Below.refl _ _⟩
      case round =>
        obtain ⟨t, o7, rfl, rfl, ht, ho7t, HO7, HL7, HBR⟩ := hrel
        by_cases hlt : t < n2
        · obtain ⟨x, hx⟩ : ∃ x, m[t]? = some x := ⟨_, List.getElem?_eq_getElem (by rw [HLEN.out]; exact hlt)⟩
          obtain ⟨b, off, a', rfl, hbl, -, hce⟩ := HGET.out t x hx
          obtain ⟨k0, k1, k2, k3, k4, k5, -⟩ := hce wr HBR.out
          have HNX : Hid (((m.take (t + 1)).filter f).map CrtD.d = ((m.take t).filter f).map CrtD.d ++ (if f x = true then [x.d] else [])) := filter_nextA hx
          have i0 : (0 : Int) ≤ (t : Int) := by omega
          have i1 : (t : Int) < (n2 : Int) := by omega
          clear hx hce
          go_upto_region 13 with fail
          obtain ⟨G, hG⟩ : ∃ G, G = wr.heap.size := ⟨_, rfl⟩
          obtain ⟨w5, hw5⟩ : ∃ w5, w5 = wr.alloc (.cells (crtC x a').toArray 37) := ⟨_, rfl⟩
          obtain ⟨hb5, hs5, hx5⟩ := boxes1 wr _ _ hw5
          have HO5R : Hid (w5.ownsRow w4.heap.size 3 1 o7.v o7.n (i64s (((m.take t).filter f).map CrtD.d))) := own_below HO7.out hb5
          rw [← hG] at hs5 hx5
          have HGE : Hid (wr.heap.size = G) := hG.symm
          have HW5 : Hid (wr.alloc (.cells #[.int .i64 x.a, .int .i64 x.r, .slice a'.B.A a'.B.n a'.B.c, .slice a'.P.A a'.P.n a'.P.c, .int .i64 x.d, .slice a'.S.A a'.S.n a'.S.c] 37) = w5) := hw5.symm
          rw [HGE.out, HW5.out]
          have HB5 : Hid (Below w4.heap.size w4 w5) := HBR.out.trans (hb5.mono HBR.out.size)
          clear hw5 hb5 hG hs5 k0 k1 k2 k3 k4 k5
          obtain ⟨c0, c1, c2', c3, c4, c5⟩ := crt_cells hx5
          have HCX := Lib.hid (HCN.out x.d w5 HB5.out)
          rw [HF.out x] at HCX
          obtain ⟨bq, hbq⟩ : ∃ bq, f x = bq := ⟨_, rfl⟩
          rw [hbq] at HCX HNX
          clear hbq
          cases bq
          · have HN0 : Hid (((m.take (t + 1)).filter f).map CrtD.d = ((m.take t).filter f).map CrtD.d) := by show _ = _; rw [HNX.out]; simp
            have HN1 : Hid (((m.take (t + 1)).filter f).length = o7.n) := by show _ = _; rw [← HL7.out, ← List.length_map (f := CrtD.d), HN0.out, List.length_map]
            have HO8 : Hid (w5.ownsRow w4.heap.size 3 1 o7.v o7.n (i64s (((m.take (t + 1)).filter f).map CrtD.d))) := by show World.ownsRow _ _ _ _ _ _ _; rw [HN0.out]; exact HO5R.out
            go_wp2_with (go_at_call 69; refine HCX.out.mono ?_; rintro e w6 ⟨rfl, rfl⟩)
            go_roundw
            case rel => exact ⟨t + 1, o7, by go_num, rfl, hlt, by omega, HO8.out, HN1.out, HB5.out⟩
            case measure => simp [intOf]; omega
          · have HN0 : Hid (((m.take (t + 1)).filter f).map CrtD.d = ((m.take t).filter f).map CrtD.d ++ [x.d]) := by show _ = _; rw [HNX.out]; simp
            have HN1 : Hid (((m.take (t + 1)).filter f).length = o7.n + 1) := by show _ = _; rw [← HL7.out, ← List.length_map (f := CrtD.d), HN0.out, List.length_append, List.length_map]; rfl
            have h7n : o7.n ≤ 1000000 := by omega
            have hw5s : w4.heap.size ≤ w5.heap.size := HB5.out.size
            go_wp2_with (first
              | (go_at_call 69; refine HCX.out.mono ?_; rintro e w6 ⟨rfl, h6⟩; obtain rfl : w5 = w6 := h6.symm)
              | (at_builtin; refine wpList_app_i64 _ rfl _ _ rfl w4.heap.size o7.v o7.n _ rfl (own_below HO5R.out ((Below.refl _ _).alloc (Nat.le_refl _) _)) w5.heap.size x.d rfl (cell_new _ _ _) h7n (by simp; omega) ?_
                 intro v8 w8 ho8 ht8))
            obtain ⟨A8, c8, rfl, -⟩ := own_val ho8
            have HO8 : Hid (w8.ownsRow w4.heap.size 3 1 (Ad.v ⟨A8, o7.n + 1, c8⟩) (o7.n + 1) (i64s (((m.take (t + 1)).filter f).map CrtD.d))) := by show World.ownsRow _ _ _ _ _ _ _; rw [HN0.out]; exact ho8
            have HB8 : Hid (Below w4.heap.size w4 w8) := (HB5.out.alloc hw5s _).trans (ht8.below (fun k hk => (own_lt HO5R.out hk).2) (by simp; omega))
            go_roundw
            case rel => exact ⟨t + 1, ⟨A8, o7.n + 1, c8⟩, by go_num, rfl, hlt, by show o7.n + 1 ≤ t + 1; omega, HO8.out, HN1.out, HB8.out⟩
            case measure => simp [intOf]; omega
        · obtain rfl : t = n2 := by omega
          have i1 : ¬ ((t : Int) < (t : Int)) := by omega
          have HE : Hid ((m.take t).filter f = lowF L l fl) := by show _ = _; rw [List.take_of_length_le (by rw [HLEN.out]; exact Nat.le_refl _), HLOW.out]
          have hn7 := HL7.out
          rw [HE.out] at HO7 hn7
          clear hlt
          go_wp2_with fail
          go_ret
          exact newI_of (own_more HO7.out (by rw [HG.out]; exact HS4.out)) (by rw [List.length_map, hn7]) (by rw [HG.out]; exact HBW4.out.trans (HBR.out.mono HS4.out))

end Go.Proofs.Ytejkeccoialogaa
/-
  What package anchor's Chain goes by, as plain data.
-/
namespace Go.Proofs.Ytejkeccoialogaa
open Go.RowKit

section
variable {N L : Int} {l : List CrtD} {x y z : CrtD}
theorem part_len3 (lo : Int) : ∀ l : List CrtD, (partC l lo (lo + 2)).length ≤ (inR l lo).length + (inR l (lo + 1)).length + (inR l (lo + 2)).length
  | [] => by simp [partC, inR]
  | y :: r => by
    have ih := part_len3 lo r
    unfold partC inR at ih ⊢
    simp only [List.filter_cons]
    by_cases h : lo ≤ y.r ∧ y.r ≤ lo + 2
    · rw [if_pos (by simpa using h)]
      have h3 : y.r = lo ∨ y.r = lo + 1 ∨ y.r = lo + 2 := by omega
      rcases h3 with e | e | e
      · rw [if_pos (by simpa using e), if_neg (by simp; omega), if_neg (by simp; omega)]
        simp only [List.length_cons]
        omega
      · rw [if_neg (by simp; omega), if_pos (by simpa using e), if_neg (by simp; omega)]
        simp only [List.length_cons]
        omega
      · rw [if_neg (by simp; omega), if_neg (by simp; omega), if_pos (by simpa using e)]
        simp only [List.length_cons]
        omega
    · rw [if_neg (by simpa using h), if_neg (by simp; omega), if_neg (by simp; omega), if_neg (by simp; omega)]
      exact ih
theorem part_few (h : MayG N L l) (lo : Int) : (partC l lo (lo + 2)).length ≤ 48 := by
  have h0 := part_len3 lo l
  have h1 := round_most h lo
  have h2 := round_most h (lo + 1)
  have h3 := round_most h (lo + 2)
  have h4 := h.pos
  omega
theorem rchR_few (h : MayG N L l) (x : CrtD) (q : Int) : (rchR L l x q).length ≤ 16 := by
  have h1 : (rchR L l x q).length ≤ (inR l q).length := by unfold rchR; exact List.length_filter_le _ _
  have h2 := round_most h q
  have h3 := h.pos
  omega
/-- one pass: what is reached of the next even round -/
theorem low_rch (h : MayG N L l) (hx : x ∈ l) {q : Int} (hq : L < q) (hqx : q + 2 ≤ x.r) : lowF (q - 1) (partC l q (q + 2)) (rchR L l x (q + 2)) = rchR L l x q := by
  unfold lowF
  rw [show q - 1 + 1 = q by omega, inR_partC (by omega) (by omega)]
  conv => rhs; unfold rchR
  refine List.filter_congr fun y hy => ?_
  rw [Bool.eq_iff_iff, List.any_eq_true, rchR_down h hx hq hqx hy]
  simp only [rchB_iff]
theorem inB_rch (h : MayG N L l) {q : Int} (hy : y ∈ l) (hr : y.r = q) : inB ((rchR L l x q).map CrtD.d) y.d = rchB L l x y := by
  rw [Bool.eq_iff_iff, inB_iff, rchB_iff, List.mem_map]
  constructor
  · rintro ⟨z, hz, e⟩
    obtain ⟨h1, h2, h3⟩ := mem_rchR.1 hz
    rw [← dig_mem h.dig h1 hy e]
    exact h3
  · intro h3
    exact ⟨y, mem_rchR.2 ⟨hy, hr, h3⟩, rfl⟩
theorem stOk_len {R : Int} {k : Nat} {s : CrtD × List CrtD} (hs : StOk N L l x R k s) : s.2.length ≤ l.length := by
  have h1 : (s.2.map CrtD.r).Pairwise (· < ·) := by rw [List.pairwise_map]; exact hs.asc
  have h2 := len_sub (P := s.2.map CrtD.r) (D := l.map CrtD.r) (nodup_lt h1) fun p hp => by
    obtain ⟨y, hy, e⟩ := List.mem_map.1 hp
    exact List.mem_map.2 ⟨y, (hs.all y hy).1, e⟩
  rwa [List.length_map, List.length_map] at h2
/-- what Chain asks of its numbers -/
def chnB (after r : Int) : Bool := decide (0 ≤ after ∧ after % 2 = 0 ∧ after < r)
theorem chnB_yes {after r : Int} (h : chnB after r = true) : 0 ≤ after ∧ after % 2 = 0 ∧ after < r := by simpa [chnB] using h
theorem chnB_no {after r : Int} (h : chnB after r = false) : after < 0 ∨ (0 ≤ after ∧ after % 2 ≠ 0) ∨ (0 ≤ after ∧ after % 2 = 0 ∧ r ≤ after) := by
  have : ¬ (0 ≤ after ∧ after % 2 = 0 ∧ after < r) := by simpa [chnB] using h
  omega
/-- the end of a chain: where the rounds go no further -/
theorem chain_stop (hm : MayG N L l) {after R : Int} {k : Nat} (h1 : (R - after) % 2 = 0) (h2 : k = 0 ∨ after < R - 2 * (k : Int)) (h0 : after < R) (h3 : R - 2 * (k : Int) - 2 ≤ after ∨ R - 2 * (k : Int) - 2 ≤ L) : (stC N L l x R k).2 = chainC N L l after R x := by
  refine chain_end (by omega) fun j hj hk => ?_
  rcases h3 with h3 | h3
  · omega
  · exact ancC_low hm (by omega)
end

end Go.Proofs.Ytejkeccoialogaa
/-
  Package anchor's Chain.
-/
namespace Go.Proofs.Ytejkeccoialogaa
open Go.RowKit

set_option maxRecDepth 100000 in
set_option maxHeartbeats 8000000 in
theorem chain_bad (N L after r : Int) (o : Ad) (l : List CrtD) (w : World) (h : GIn w o l) (hm : ¬ MayG N L l) :
    Calls Try.prog 36 #[dagV N L o, .int .i64 after, .int .i64 r] w (BelowErr 1 w) := by
  obtain ⟨g, hg⟩ : ∃ g, g = w.heap.size := ⟨_, rfl⟩
  obtain ⟨w1, hw1⟩ : ∃ w1, w1 = w.alloc (.cells (dagC N L o).toArray 24) := ⟨_, rfl⟩
  obtain ⟨hb1, hsz, hx0⟩ := boxes1 w _ _ hw1
  rw [← hg] at hb1 hsz hx0
  have HG : Hid (w.heap.size = g) := hg.symm
  have HW : Hid (w.alloc (.cells #[.int .i64 N, .int .i64 L, .slice o.A o.n o.c] 24) = w1) := hw1.symm
  have HIN : Hid (∀ wX, Below g w wX → GIn wX o l) := fun wX hb => h.below (by rw [← hg]; exact hb)
  have HB := Lib.hid hb1
  have HX0 := Lib.hid hx0
  have HD : Hid (∀ wX, Below w1.heap.size w1 wX → wX.cell? ⟨g, 0, none⟩ = some (.int .i64 N) ∧ wX.cell? ⟨g, 1, none⟩ = some (.int .i64 L) ∧ wX.cell? ⟨g, 2, none⟩ = some (.slice o.A o.n o.c)) := fun wX hb => dag_cells (HX0.out.below hb HX0.out.1)
  have hgs := hx0.1
  obtain ⟨d0, d1, d2⟩ := dag_cells hx0
  have HC := Lib.hid (anchor_bad N L r o l w1 (HIN.out _ hb1) hm)
  clear hg hw1 hb1 hsz hx0 h hm
  unfold dagV at HC ⊢
  go_enter Try.func36, Try.ntmps36
  go_upto_region 1 with fail
  rw [HG.out, HW.out]
  refine wp_scope_label 0 (fun _ _ => False) (fun _ _ => 0) rfl (fun _ _ h => h.elim) ?_
  intro _
  go_wp2_with (go_at_call 28; refine HC.out.mono ?_; rintro e w2 ⟨rfl, hb2⟩)
  go_ret2
  exact ⟨rfl, by rw [HG.out]; exact HB.out.trans (hb2.mono (Nat.le_of_lt hgs))⟩
set_option maxRecDepth 100000 in
set_option maxHeartbeats 8000000 in
theorem chain_odd (N L after r : Int) (o : Ad) (l : List CrtD) (w : World) (h : GIn w o l) (hm : MayG N L l) (hr : evn r = false) :
    Calls Try.prog 36 #[dagV N L o, .int .i64 after, .int .i64 r] w (BelowErr 1 w) := by
  obtain ⟨g, hg⟩ : ∃ g, g = w.heap.size := ⟨_, rfl⟩
  obtain ⟨w1, hw1⟩ : ∃ w1, w1 = w.alloc (.cells (dagC N L o).toArray 24) := ⟨_, rfl⟩
  obtain ⟨hb1, hsz, hx0⟩ := boxes1 w _ _ hw1
  rw [← hg] at hb1 hsz hx0
  have HG : Hid (w.heap.size = g) := hg.symm
  have HW : Hid (w.alloc (.cells #[.int .i64 N, .int .i64 L, .slice o.A o.n o.c] 24) = w1) := hw1.symm
  have HIN : Hid (∀ wX, Below g w wX → GIn wX o l) := fun wX hb => h.below (by rw [← hg]; exact hb)
  have HB := Lib.hid hb1
  have HX0 := Lib.hid hx0
  have HD : Hid (∀ wX, Below w1.heap.size w1 wX → wX.cell? ⟨g, 0, none⟩ = some (.int .i64 N) ∧ wX.cell? ⟨g, 1, none⟩ = some (.int .i64 L) ∧ wX.cell? ⟨g, 2, none⟩ = some (.slice o.A o.n o.c)) := fun wX hb => dag_cells (HX0.out.below hb HX0.out.1)
  have hgs := hx0.1
  obtain ⟨d0, d1, d2⟩ := dag_cells hx0
  have HC := Lib.hid (anchor_odd N L r o l w1 (HIN.out _ hb1) hm hr)
  clear hg hw1 hb1 hsz hx0 h hm
  clear hr
  unfold dagV at HC ⊢
  go_enter Try.func36, Try.ntmps36
  go_upto_region 1 with fail
  rw [HG.out, HW.out]
  refine wp_scope_label 0 (fun _ _ => False) (fun _ _ => 0) rfl (fun _ _ h => h.elim) ?_
  intro _
  go_wp2_with (go_at_call 28; refine HC.out.mono ?_; rintro e w2 ⟨rfl, hb2⟩)
  go_ret2
  exact ⟨rfl, by rw [HG.out]; exact HB.out.trans (hb2.mono (Nat.le_of_lt hgs))⟩
set_option maxRecDepth 100000 in
set_option maxHeartbeats 8000000 in
theorem chain_form (N L after r : Int) (o : Ad) (l : List CrtD) (w : World) (h : GIn w o l) (hm : MayG N L l) (hr : evn r = true) (hc : chnB after r = false) :
    Calls Try.prog 36 #[dagV N L o, .int .i64 after, .int .i64 r] w (BelowErr 1 w) := by
  obtain ⟨g, hg⟩ : ∃ g, g = w.heap.size := ⟨_, rfl⟩
  obtain ⟨w1, hw1⟩ : ∃ w1, w1 = w.alloc (.cells (dagC N L o).toArray 24) := ⟨_, rfl⟩
  obtain ⟨hb1, hsz, hx0⟩ := boxes1 w _ _ hw1
  rw [← hg] at hb1 hsz hx0
  have HG : Hid (w.heap.size = g) := hg.symm
  have HW : Hid (w.alloc (.cells #[.int .i64 N, .int .i64 L, .slice o.A o.n o.c] 24) = w1) := hw1.symm
  have HIN : Hid (∀ wX, Below g w wX → GIn wX o l) := fun wX hb => h.below (by rw [← hg]; exact hb)
  have HB := Lib.hid hb1
  have HX0 := Lib.hid hx0
  have HD : Hid (∀ wX, Below w1.heap.size w1 wX → wX.cell? ⟨g, 0, none⟩ = some (.int .i64 N) ∧ wX.cell? ⟨g, 1, none⟩ = some (.int .i64 L) ∧ wX.cell? ⟨g, 2, none⟩ = some (.slice o.A o.n o.c)) := fun wX hb => dag_cells (HX0.out.below hb HX0.out.1)
  have hgs := hx0.1
  obtain ⟨d0, d1, d2⟩ := dag_cells hx0
  have HC := Lib.hid (anchor_is N L r o l w1 (HIN.out _ hb1) hm hr)
  obtain ⟨p, hp⟩ : ∃ p, ancN N l r = p := ⟨_, rfl⟩
  obtain ⟨e0, he⟩ : ∃ e, ancE N l r = e := ⟨_, rfl⟩
  have hez : (e0 == 1) = false := by
    rw [← he]
    unfold ancE
    split <;> rfl
  rw [hp, he] at HC
  have hr2 := (evn_yes hr).1
  clear hg hw1 hb1 hsz hx0 h hm
  clear hr hp he
  unfold dagV at HC ⊢
  go_enter Try.func36, Try.ntmps36
  go_upto_region 1 with fail
  rw [HG.out, HW.out]
  refine wp_scope_label 0 (fun _ _ => False) (fun _ _ => 0) rfl (fun _ _ h => h.elim) ?_
  intro _
  rcases chnB_no hc with h1 | ⟨h1, h2⟩ | ⟨h1, h2, h3⟩
  · clear hc
    go_wp2_with (go_at_call 28; refine HC.out.mono ?_; rintro e w2 ⟨rfl, hb2⟩)
    go_ret2
    exact ⟨rfl, by rw [HG.out]; exact HB.out.trans (hb2.mono (Nat.le_of_lt hgs))⟩
  · have e1 : (after % 2 == 0) = false := by simp [h2]
    have e2 : (after % 2 != 0) = true := by simp [h2]
    have e3 : ¬ after < 0 := by omega
    clear hc h2
    go_wp2_with (go_at_call 28; refine HC.out.mono ?_; rintro e w2 ⟨rfl, hb2⟩)
    go_ret2
    exact ⟨rfl, by rw [HG.out]; exact HB.out.trans (hb2.mono (Nat.le_of_lt hgs))⟩
  · have e1 : (after % 2 == 0) = true := by simp [h2]
    have e2 : (after % 2 != 0) = false := by simp [h2]
    have e3 : ¬ after < 0 := by omega
    clear hc h2
    go_wp2_with (go_at_call 28; refine HC.out.mono ?_; rintro e w2 ⟨rfl, hb2⟩)
    go_ret2
    exact ⟨rfl, by rw [HG.out]; exact HB.out.trans (hb2.mono (Nat.le_of_lt hgs))⟩
set_option maxRecDepth 100000 in
set_option maxHeartbeats 8000000 in
theorem chain_none (N L after r : Int) (o : Ad) (l : List CrtD) (w : World) (h : GIn w o l) (hm : MayG N L l) (hr : evn r = true) (hc : chnB after r = true) (ha : ancC N l r = none) :
    Calls Try.prog 36 #[dagV N L o, .int .i64 after, .int .i64 r] w (BelowErr 3 w) := by
  obtain ⟨g, hg⟩ : ∃ g, g = w.heap.size := ⟨_, rfl⟩
  obtain ⟨w1, hw1⟩ : ∃ w1, w1 = w.alloc (.cells (dagC N L o).toArray 24) := ⟨_, rfl⟩
  obtain ⟨hb1, hsz, hx0⟩ := boxes1 w _ _ hw1
  rw [← hg] at hb1 hsz hx0
  have HG : Hid (w.heap.size = g) := hg.symm
  have HW : Hid (w.alloc (.cells #[.int .i64 N, .int .i64 L, .slice o.A o.n o.c] 24) = w1) := hw1.symm
  have HIN : Hid (∀ wX, Below g w wX → GIn wX o l) := fun wX hb => h.below (by rw [← hg]; exact hb)
  have HB := Lib.hid hb1
  have HX0 := Lib.hid hx0
  have HD : Hid (∀ wX, Below w1.heap.size w1 wX → wX.cell? ⟨g, 0, none⟩ = some (.int .i64 N) ∧ wX.cell? ⟨g, 1, none⟩ = some (.int .i64 L) ∧ wX.cell? ⟨g, 2, none⟩ = some (.slice o.A o.n o.c)) := fun wX hb => dag_cells (HX0.out.below hb HX0.out.1)
  have hgs := hx0.1
  obtain ⟨d0, d1, d2⟩ := dag_cells hx0
  have HC := Lib.hid (anchor_is N L r o l w1 (HIN.out _ hb1) hm hr)
  rw [ancN_none ha, ancE_none ha] at HC
  have hq := chnB_yes hc
  have e1 : (after % 2 == 0) = true := by simp [hq.2.1]
  have e2 : (after % 2 != 0) = false := by simp [hq.2.1]
  have e3 : ¬ after < 0 := by omega
  have e4 : ¬ r ≤ after := by omega
  have hq0 : 0 ≤ after := hq.1
  clear hg hw1 hb1 hsz hx0 h hm
  clear hr ha hq hc
  unfold dagV at HC ⊢
  go_enter Try.func36, Try.ntmps36
  go_upto_region 1 with fail
  rw [HG.out, HW.out]
  refine wp_scope_label 0 (fun _ _ => False) (fun _ _ => 0) rfl (fun _ _ h => h.elim) ?_
  intro _
  go_wp2_with (go_at_call 28; refine HC.out.mono ?_; rintro e w2 ⟨rfl, hb2⟩)
  go_ret2
  exact ⟨rfl, by rw [HG.out]; exact HB.out.trans (hb2.mono (Nat.le_of_lt hgs))⟩
/-- at the label: so many passes -/
structure CH (g : Nat) (N L : Int) (o : Ad) (l : List CrtD) (x : CrtD) (R : Int) (w : World) (k : Nat) (oc or_ : Ad) (wr : World) : Prop where
  box : Box wr g (dagC N L o)
  own : wr.ownsRow (g + 1) 3 1 oc.v oc.n (i64s ((stC N L l x R k).2.map CrtD.d).reverse)
  len : (stC N L l x R k).2.length = oc.n
  rch : SlIn wr or_ (rchR L l (stC N L l x R k).1 (R - 2 * (k : Int))).length (i64s ((rchR L l (stC N L l x R k).1 (R - 2 * (k : Int))).map CrtD.d))
  bel : Below g w wr
inductive ChainJ (g : Nat) (N L after : Int) (o : Ad) (l : List CrtD) (x : CrtD) (R lw : Int) (w : World) : Act → World → Prop
  | mk (u4 u5 u13 u14 u15 u16 u17 u18 u19 u20 u21 u22 u23 u24 u25 u26 u27 u28 u29 u30 u31 u32 u33 u34 u35 u36 u37 u38 u39 u40 u41 u42 u43 u44 u45 u46 u47 u48 u49 u50 u51 u52 u53 u54 u55 u56 u57 u58 u59 u60 u61 u62 u63 u64 u65 u66 u67 u68 u69 u70 u71 u72 u73 u74 u75 u76 u77 u78 u79 u80 u81 u82 u83 : Value) (k : Nat) (Q : Int) (oc or_ : Ad) (wr : World) : Q = R - 2 * (k : Int) → (k = 0 ∨ lw < R - 2 * (k : Int)) → CH g N L o l x R w k oc or_ wr →
      ChainJ g N L after o l x R lw w { tmps := #[.agg #[.int .i64 N, .int .i64 L, .slice o.A o.n o.c], .int .i64 after, .int .i64 Q, .pointer (some ⟨g, 0, none⟩), u4, u5, .slice none 0 0, .int .i64 0, .int .i64 x.d, .int .i64 0, .slice oc.A oc.n oc.c, .slice or_.A or_.n or_.c, .int .i64 lw, u13, u14, u15, u16, u17, u18, u19, u20, u21, u22, u23, u24, u25, u26, u27, u28, u29, u30, u31, u32, u33, u34, u35, u36, u37, u38, u39, u40, u41, u42, u43, u44, u45, u46, u47, u48, u49, u50, u51, u52, u53, u54, u55, u56, u57, u58, u59, u60, u61, u62, u63, u64, u65, u66, u67, u68, u69, u70, u71, u72, u73, u74, u75, u76, u77, u78, u79, u80, u81, u82, u83], defers := [] } wr
def rOf (a : Act) : Nat := match a.tmps[2]? with
  | some (Value.int _ z) => (z + 4).toNat
  | _ => 0
theorem chainJ_elim {g : Nat} {N L after : Int} {o : Ad} {l : List CrtD} {x : CrtD} {R lw : Int} {w : World} {C : Act → World → Prop}
    (h : ∀ (u4 u5 u13 u14 u15 u16 u17 u18 u19 u20 u21 u22 u23 u24 u25 u26 u27 u28 u29 u30 u31 u32 u33 u34 u35 u36 u37 u38 u39 u40 u41 u42 u43 u44 u45 u46 u47 u48 u49 u50 u51 u52 u53 u54 u55 u56 u57 u58 u59 u60 u61 u62 u63 u64 u65 u66 u67 u68 u69 u70 u71 u72 u73 u74 u75 u76 u77 u78 u79 u80 u81 u82 u83 : Value) (k : Nat) (Q : Int) (oc or_ : Ad) (wr : World), Q = R - 2 * (k : Int) → (k = 0 ∨ lw < R - 2 * (k : Int)) → CH g N L o l x R w k oc or_ wr → C { tmps := #[.agg #[.int .i64 N, .int .i64 L, .slice o.A o.n o.c], .int .i64 after, .int .i64 Q, .pointer (some ⟨g, 0, none⟩), u4, u5, .slice none 0 0, .int .i64 0, .int .i64 x.d, .int .i64 0, .slice oc.A oc.n oc.c, .slice or_.A or_.n or_.c, .int .i64 lw, u13, u14, u15, u16, u17, u18, u19, u20, u21, u22, u23, u24, u25, u26, u27, u28, u29, u30, u31, u32, u33, u34, u35, u36, u37, u38, u39, u40, u41, u42, u43, u44, u45, u46, u47, u48, u49, u50, u51, u52, u53, u54, u55, u56, u57, u58, u59, u60, u61, u62, u63, u64, u65, u66, u67, u68, u69, u70, u71, u72, u73, u74, u75, u76, u77, u78, u79, u80, u81, u82, u83], defers := [] } wr) :
    ∀ a w', ChainJ g N L after o l x R lw w a w' → C a w' := fun a w' k => by
  cases k with
  | mk u4 u5 u13 u14 u15 u16 u17 u18 u19 u20 u21 u22 u23 u24 u25 u26 u27 u28 u29 u30 u31 u32 u33 u34 u35 u36 u37 u38 u39 u40 u41 u42 u43 u44 u45 u46 u47 u48 u49 u50 u51 u52 u53 u54 u55 u56 u57 u58 u59 u60 u61 u62 u63 u64 u65 u66 u67 u68 u69 u70 u71 u72 u73 u74 u75 u76 u77 u78 u79 u80 u81 u82 u83 k Q oc or_ wr h0 h1 h2 => exact h u4 u5 u13 u14 u15 u16 u17 u18 u19 u20 u21 u22 u23 u24 u25 u26 u27 u28 u29 u30 u31 u32 u33 u34 u35 u36 u37 u38 u39 u40 u41 u42 u43 u44 u45 u46 u47 u48 u49 u50 u51 u52 u53 u54 u55 u56 u57 u58 u59 u60 u61 u62 u63 u64 u65 u66 u67 u68 u69 u70 u71 u72 u73 u74 u75 u76 u77 u78 u79 u80 u81 u82 u83 k Q oc or_ _ h0 h1 h2
set_option maxRecDepth 100000 in
set_option maxHeartbeats 8000000 in
theorem chain_ok (N L after R : Int) (o : Ad) (l : List CrtD) (x : CrtD) (w : World) (h : GIn w o l) (hm : MayG N L l) (hr : evn R = true) (hc : chnB after R = true) (ha : ancC N l R = some x) :
    Calls Try.prog 36 #[dagV N L o, .int .i64 after, .int .i64 R] w (BelowOk ((chainC N L l after R x).map CrtD.d) w) := by
  obtain ⟨g, hg⟩ : ∃ g, g = w.heap.size := ⟨_, rfl⟩
  obtain ⟨w1, hw1⟩ : ∃ w1, w1 = w.alloc (.cells (dagC N L o).toArray 24) := ⟨_, rfl⟩
  obtain ⟨hb1, hsz, hx0⟩ := boxes1 w _ _ hw1
  rw [← hg] at hb1 hsz hx0
  have HG : Hid (w.heap.size = g) := hg.symm
  have HW : Hid (w.alloc (.cells #[.int .i64 N, .int .i64 L, .slice o.A o.n o.c] 24) = w1) := hw1.symm
  have HIN : Hid (∀ wX, Below g w wX → GIn wX o l) := fun wX hb => h.below (by rw [← hg]; exact hb)
  have HB := Lib.hid hb1
  have HX0 := Lib.hid hx0
  have HD : Hid (∀ wX, Below w1.heap.size w1 wX → wX.cell? ⟨g, 0, none⟩ = some (.int .i64 N) ∧ wX.cell? ⟨g, 1, none⟩ = some (.int .i64 L) ∧ wX.cell? ⟨g, 2, none⟩ = some (.slice o.A o.n o.c)) := fun wX hb => dag_cells (HX0.out.below hb HX0.out.1)
  have hgs := hx0.1
  obtain ⟨d0, d1, d2⟩ := dag_cells hx0
  have HC := Lib.hid (anchor_is N L R o l w1 (HIN.out _ hb1) hm hr)
  rw [ancN_some ha, ancE_some ha] at HC
  have hq := chnB_yes hc
  have e1 : (after % 2 == 0) = true := by simp [hq.2.1]
  have e2 : (after % 2 != 0) = false := by simp [hq.2.1]
  have e3 : ¬ after < 0 := by omega
  have e4 : ¬ R ≤ after := by omega
  have hq0 : 0 ≤ after := hq.1
  obtain ⟨hr2, hr3, hr4⟩ := evn_yes hr
  have HM := Lib.hid hm
  have hL0 := hm.l0
  have HOK : Hid (∀ k, StOk N L l x R k (stC N L l x R k)) := stC_ok ha
  have HXM : Hid (x ∈ l ∧ x.r = R) := ⟨(ancC_some ha).1, (ancC_some ha).2.1⟩
  have HFEW : Hid (l.length ≤ 65536) := hm.few
  have HPAR : Hid ((R - after) % 2 = 0) := by show _ = _; omega
  have haR : after < R := hq.2.2
  obtain ⟨lw, hlw⟩ : ∃ lw, lw = if after < L then L else after := ⟨_, rfl⟩
  have HLW := Lib.hid hlw
  have hlw0 : 0 ≤ lw ∧ L ≤ lw ∧ after ≤ lw := by rw [hlw]; split <;> omega
  have HBE : Hid (∀ q wX, L ≤ lw → lw < q → q ≤ 1099511627776 → Below g w wX → Calls Try.prog 68 #[.agg #[.int .i64 N, .int .i64 L, .slice o.A o.n o.c], .int .i64 q, .int .i64 (q + 2)] wX (PartTo N q (q + 2) l wX)) := fun q wX h1 h2 h3 hb => between_is N L q (q + 2) o l wX (HIN.out _ hb) hm.asc (by omega) (by have := hm.l0; omega) (by omega)
  clear hg hw1 hb1 hsz hx0 h hm ha hr hq hc hlw
  unfold dagV at HC ⊢
  go_enter Try.func36, Try.ntmps36
  go_upto_region 1 with fail
  rw [HG.out, HW.out]
  refine wp_scope_label 0 (ChainJ g N L after o l x R lw w) (fun a _ => rOf a) rfl ?_ ?_
  · refine chainJ_elim ?_
    intro u4 u5 u13 u14 u15 u16 u17 u18 u19 u20 u21 u22 u23 u24 u25 u26 u27 u28 u29 u30 u31 u32 u33 u34 u35 u36 u37 u38 u39 u40 u41 u42 u43 u44 u45 u46 u47 u48 u49 u50 u51 u52 u53 u54 u55 u56 u57 u58 u59 u60 u61 u62 u63 u64 u65 u66 u67 u68 u69 u70 u71 u72 u73 u74 u75 u76 u77 u78 u79 u80 u81 u82 u83 k Q oc or_ wr hQ hk HCH
    have HH := Lib.hid HCH
    have hs := HOK.out k
    have hlenC : oc.n ≤ 65536 := by rw [← HCH.len]; exact Nat.le_trans (stOk_len hs) HFEW.out
    obtain ⟨d0, d1, d2⟩ := dag_cells HCH.box
    clear HCH
    have hk2 : (k : Int) ≤ 2199023255552 := by
      have := hs.low
      rcases hk with rfl | hk
      · omega
      · omega
    have HQ := Lib.hid hQ
    rw [← hQ] at hk
    have hQhi : Q ≤ 1099511627776 := by omega
    have hQlo : 0 ≤ Q := by
      have := hlw0.1
      rcases hk with h1 | h1
      · subst h1; omega
      · omega
    by_cases hstop : Q - 2 ≤ lw
    · have HST : Hid ((stC N L l x R k).2 = chainC N L l after R x) := chain_stop HM.out HPAR.out (by rcases hk with h1 | h1; exact .inl h1; exact .inr (by omega)) haR (by
        have := HLW.out
        split at this
        · exact .inr (by omega)
        · exact .inl (by omega))
      have HRV := Lib.hid (reverse_is (g + 1) oc _ wr HH.out.own (by rw [List.length_reverse, List.length_map, HH.out.len]) (by omega) HH.out.box.1)
      rw [List.reverse_reverse, HST.out] at HRV
      have HLN : Hid ((chainC N L l after R x).length = oc.n) := by show _ = _; rw [← HST.out]; exact HH.out.len
      clear hs hQ
      go_wp2_with (go_at_call 72; refine HRV.out.mono ?_; rintro e w5 ⟨rfl, ho5, hb5⟩)
      go_ret2
      exact ⟨oc, rfl, own_more ho5 (by rw [HG.out]; omega), by rw [List.length_map, HLN.out], by rw [HG.out]; exact HH.out.bel.trans (hb5.mono (Nat.le_succ g))⟩
    · have hgo : lw < Q - 2 := by omega
      obtain ⟨Lp, hLp⟩ : ∃ Lp, Lp = Q - 2 - 1 := ⟨_, rfl⟩
      obtain ⟨lp, hlp⟩ : ∃ lp, lp = partC l (Q - 2) Q := ⟨_, rfl⟩
      have hQ2 : Q - 2 + 2 = Q := by omega
      have hpm : MayG N Lp lp := by rw [hLp, hlp]; exact may_part HM.out (by omega) (by omega)
      have hp48 : lp.length ≤ 48 := by
        have := part_few HM.out (Q - 2)
        rwa [hQ2, ← hlp] at this
      have HBQ := Lib.hid (HBE.out (Q - 2) wr hlw0.2.1 hgo (by omega) HH.out.bel)
      rw [hQ2] at HBQ
      have HPT : Hid (∀ e w', PartTo N (Q - 2) Q l wr e w' → ∃ o', e = .returned (dagV N Lp o') ∧ GIn w' o' lp ∧ Below wr.heap.size wr w') := fun e w' hh => by rw [hLp, hlp]; exact hh
      obtain ⟨s, hs0⟩ : ∃ s, s = stC N L l x R k := ⟨_, rfl⟩
      rw [← hs0] at hs
      have hrl : Hid (rchR L l s.1 Q = rchR L l (stC N L l x R k).1 (R - 2 * (k : Int))) := by show _ = _; rw [hs0, hQ]
      have HLO : Hid (∀ o13 wX, GIn wX o13 lp → Below wr.heap.size wr wX → Calls Try.prog 73 #[.agg #[.int .i64 N, .int .i64 Lp, .slice o13.A o13.n o13.c], .slice or_.A or_.n or_.c] wX (NewI ((rchR L l s.1 (Q - 2)).map CrtD.d) wX)) := fun o13 wX hg13 hbX => by
        have hsl := HH.out.rch.below hbX
        rw [← hrl.out] at hsl
        have := lowest_is N Lp o13 or_ lp (rchR L l s.1 Q) wX hg13 hpm (by omega) hsl (fun z hz => by
          obtain ⟨z1, z2, -⟩ := mem_rchR.1 hz
          rw [hlp]
          exact mem_part.2 ⟨z1, by omega, by omega⟩) (by have := rchR_few HM.out s.1 Q; omega) (by omega)
        have e := low_rch HM.out hs.mem (q := Q - 2) (by omega) (by have := hs.low; omega)
        rw [hQ2, ← hlp, ← hLp] at e
        rwa [e] at this
      have hev : evn (Q - 2) = true := by
        have := hlw0.1
        unfold evn
        rw [decide_eq_true_eq]
        refine ⟨by omega, by omega, by omega⟩
      have HAN : Hid (∀ o13 wX, GIn wX o13 lp → Calls Try.prog 28 #[.agg #[.int .i64 N, .int .i64 Lp, .slice o13.A o13.n o13.c], .int .i64 (Q - 2)] wX (Tells wX.heap.size wX (.tuple #[.int .i64 (ancN N l (Q - 2)), .int .i64 (ancE N l (Q - 2))]))) := fun o13 wX hg13 => by
        have := anchor_is N Lp (Q - 2) o13 lp wX hg13 hpm hev
        have e : ancC N lp (Q - 2) = ancC N l (Q - 2) := by rw [hlp]; exact ancC_part (by omega) (by omega)
        unfold ancN ancE at this ⊢
        rwa [e] at this
      have hg48 : (rchR L l s.1 (Q - 2)).length ≤ 1000 := by have := rchR_few HM.out s.1 (Q - 2); omega
      have HNX : Hid (stC N L l x R (k + 1) = stepC L l (ancC N l (Q - 2)) s) := by
        show _ = _
        rw [stC_next, ← hs0, show R - 2 * ((k : Int) + 1) = Q - 2 by omega]
      have HSM := Lib.hid hs.mem
      have HS0 := Lib.hid hs0
      clear hLp hlp hpm hp48 hQ2 hs hs0 hev hQ hk
      go_upto_region 14 with (go_at_call 68; refine HBQ.out.mono ?_; rintro e w4 hpt; obtain ⟨o13, rfl, hg13, hb4⟩ := HPT.out e w4 hpt; dsimp only [dagV])
      obtain ⟨G, hG⟩ : ∃ G, G = w4.heap.size := ⟨_, rfl⟩
      obtain ⟨w5, hw5⟩ : ∃ w5, w5 = w4.alloc (.cells (dagC N Lp o13).toArray 24) := ⟨_, rfl⟩
      obtain ⟨hb5, hs5, hx5⟩ := boxes1 w4 _ _ hw5
      rw [← hG] at hs5 hx5
      have HGE : Hid (w4.heap.size = G) := hG.symm
      have HW5 : Hid (w4.alloc (.cells #[.int .i64 N, .int .i64 Lp, .slice o13.A o13.n o13.c] 24) = w5) := hw5.symm
      rw [HGE.out, HW5.out]
      have hbr5 : Below wr.heap.size wr w5 := hb4.trans (hb5.mono hb4.size)
      have HLW5 := Lib.hid (HLO.out o13 w5 (hg13.below hb5) hbr5)
      have HAW : Hid (∀ wX, Below w5.heap.size w5 wX → _) := fun wX hb => HAN.out o13 wX ((hg13.below hb5).below hb)
      have HX5 := Lib.hid hx5
      obtain ⟨q0, q1, q2⟩ := dag_cells hx5
      clear hw5 hb5 hG hs5 d0 d1 d2 hg13 hb4 hpt
      go_upto_region 16 with (first
        | (go_at_call 73; refine HLW5.out.mono ?_; rintro e w6 ⟨⟨A6, n6, c6⟩, rfl, ho6, hl6, hb6⟩; obtain ⟨r0, r1, r2⟩ := dag_cells (HX5.out.below hb6 HX5.out.1))
        | (go_at_call 28; refine (HAW.out _ hb6).mono ?_; rintro e w7 ⟨rfl, hb7⟩))
      have hbr7 : Below wr.heap.size wr w7 := (hbr5.trans (hb6.mono hbr5.size)).trans (hb7.mono (Nat.le_trans hbr5.size hb6.size))
      try dsimp only at ho6 hl6
      have HRC7 : Hid (SlIn w7 ⟨A6, n6, c6⟩ (rchR L l s.1 (Q - 2)).length (i64s ((rchR L l s.1 (Q - 2)).map CrtD.d))) := by
        have := slIn_own (a := ⟨A6, n6, c6⟩) (own_below ho6 hb7) hl6
        rw [List.length_map] at this
        exact this
      have HBX7 : Hid (Box w7 g (dagC N L o)) := HH.out.box.below hbr7 HH.out.box.1
      have HBW7 : Hid (Below g w w7) := HH.out.bel.trans (hbr7.mono (Nat.le_of_lt HH.out.box.1))
      have HOC7 : Hid (w7.ownsRow (g + 1) 3 1 oc.v oc.n (i64s ((stC N L l x R k).2.map CrtD.d).reverse)) := own_below HH.out.own hbr7
      have hgw7 : g + 1 ≤ w7.heap.size := by have := hbr7.size; have := HH.out.box.1; omega
      clear r0 r1 r2 q0 q1 q2 hx5 hb6 hb7 ho6 hl6 hbr5 hbr7
      cases hac : ancC N l (Q - 2) with
      | none =>
        have HE : Hid (ancE N l (Q - 2) = 3) := ancE_none hac
        have HSTAY : Hid (stC N L l x R (k + 1) = stC N L l x R k) := by show _ = _; rw [HNX.out, hac, HS0.out]; rfl
        have HCH2 : Hid (CH g N L o l x R w (k + 1) oc ⟨A6, n6, c6⟩ w7) := by
          have e : stC N L l x R (k + 1) = stC N L l x R k := HSTAY.out
          refine ⟨HBX7.out, ?_, ?_, ?_, HBW7.out⟩
          · rw [e]; exact HOC7.out
          · rw [e]; exact HH.out.len
          · rw [e, show R - 2 * ((k + 1 : Nat) : Int) = Q - 2 by have := HQ.out; omega, ← HS0.out]; exact HRC7.out
        rw [HE.out]
        clear hac
        have HQN : Hid (Q - 2 = R - 2 * ((k + 1 : Nat) : Int)) := by show _ = _; have := HQ.out; omega
        have hme : (Q - 2 + 4).toNat < (Q + 4).toNat := by omega
        go_wp2_with fail
        go_step3
        show 0 = 0 ∧ (ChainJ g N L after o l x R lw w _ _ ∧ rOf _ < _)
        exact ⟨rfl, .mk _ _ _ _ _ _ _ _ _ _ _ _ _ _ _ _ _ _ _ _ _ _ _ _ _ _ _ _ _ _ _ _ _ _ _ _ _ _ _ _ _ _ _ _ _ _ _ _ _ _ _ _ _ _ _ _ _ _ _ _ _ _ _ _ _ _ _ _ _ _ _ _ _ (k + 1) _ _ ⟨A6, n6, c6⟩ _ HQN.out (.inr (by have := HQN.out; omega)) HCH2.out, hme⟩
      | some y =>
        have HE : Hid (ancE N l (Q - 2) = 0) := ancE_some hac
        have HN : Hid (ancN N l (Q - 2) = y.d) := ancN_some hac
        obtain ⟨hy1, hy2, -⟩ := ancC_some hac
        have HCT : Hid (Calls Try.prog 69 #[.slice A6 n6 c6, .int .i64 y.d] w7 fun e w' => e = .returned (.bool (rchB L l s.1 y)) ∧ w' = w7) := by
          have := contains_is y.d ⟨A6, n6, c6⟩ ((rchR L l s.1 (Q - 2)).map CrtD.d) w7 (by rw [List.length_map]; exact HRC7.out.len) HRC7.out.rd (by have := HRC7.out.len; dsimp only at *; omega)
          rwa [inB_rch HM.out hy1 hy2] at this
        rw [HE.out, HN.out]
        cases hrb : rchB L l s.1 y with
        | false =>
          have HSTAY : Hid (stC N L l x R (k + 1) = stC N L l x R k) := by
            show _ = _
            rw [HNX.out, hac]
            unfold stepC
            dsimp only
            rw [hrb, HS0.out]
            rfl
          rw [hrb] at HCT
          have HCH2 : Hid (CH g N L o l x R w (k + 1) oc ⟨A6, n6, c6⟩ w7) := by
            have e : stC N L l x R (k + 1) = stC N L l x R k := HSTAY.out
            refine ⟨HBX7.out, ?_, ?_, ?_, HBW7.out⟩
            · rw [e]; exact HOC7.out
            · rw [e]; exact HH.out.len
            · rw [e, show R - 2 * ((k + 1 : Nat) : Int) = Q - 2 by have := HQ.out; omega, ← HS0.out]; exact HRC7.out
          clear hac hrb hy1 hy2
          go_upto_region 17 with (go_at_call 69; refine HCT.out.mono ?_; rintro e w8 ⟨rfl, h8⟩; obtain rfl : w7 = w8 := h8.symm)
          have HQN : Hid (Q - 2 = R - 2 * ((k + 1 : Nat) : Int)) := by show _ = _; have := HQ.out; omega
          have hme : (Q - 2 + 4).toNat < (Q + 4).toNat := by omega
          go_wp2_with fail
          go_step3
          show 0 = 0 ∧ (ChainJ g N L after o l x R lw w _ _ ∧ rOf _ < _)
          exact ⟨rfl, .mk _ _ _ _ _ _ _ _ _ _ _ _ _ _ _ _ _ _ _ _ _ _ _ _ _ _ _ _ _ _ _ _ _ _ _ _ _ _ _ _ _ _ _ _ _ _ _ _ _ _ _ _ _ _ _ _ _ _ _ _ _ _ _ _ _ _ _ _ _ _ _ _ _ (k + 1) _ _ ⟨A6, n6, c6⟩ _ HQN.out (.inr (by have := HQN.out; omega)) HCH2.out, hme⟩
        | true =>
          have HSTEP : Hid (stC N L l x R (k + 1) = (y, y :: (stC N L l x R k).2)) := by
            show _ = _
            rw [HNX.out, hac]
            unfold stepC
            dsimp only
            rw [hrb, HS0.out]
            rfl
          rw [hrb] at HCT
          clear hac hrb
          have hoc6 : oc.n ≤ 1000000 := by omega
          go_upto_region 17 with (go_at_call 69; refine HCT.out.mono ?_; rintro e w8 ⟨rfl, h8⟩; obtain rfl : w7 = w8 := h8.symm)
          go_upto_region 18 with (at_builtin; refine wpList_app_i64 _ rfl _ _ rfl (g + 1) oc.v oc.n _ rfl (own_below HOC7.out ((Below.refl _ _).alloc (Nat.le_refl _) _)) w7.heap.size y.d rfl (cell_new _ _ _) hoc6 (by simp; omega) ?_; intro v8 w8 ho8 ht8)
          obtain ⟨A8, c8, rfl, -⟩ := own_val ho8
          have hal7 : Below w7.heap.size w7 (w7.alloc (.cells #[.int .i64 y.d] 3)) := (Below.refl _ _).alloc (Nat.le_refl _) _
          have hb8 : Below (g + 1) w7 w8 := (hal7.mono hgw7).trans (ht8.below (fun b hb => (own_lt HOC7.out hb).2) (by simp; omega))
          have HB8 := Lib.hid hb8
          have HO8 := Lib.hid ho8
          have hgw8 : g + 1 ≤ w8.heap.size := Nat.le_trans hgw7 hb8.size
          have HY1 : Hid (y ∈ l ∧ y.r = Q - 2) := ⟨hy1, hy2⟩
          clear hal7 hb8 ho8 ht8 hy1 hy2
          go_wp2_with fail
          obtain ⟨w9, hw9⟩ : ∃ w9, w9 = w8.alloc (.cells [Value.int .i64 y.d].toArray 3) := ⟨_, rfl⟩
          have HW9 : Hid (w8.alloc (.cells #[.int .i64 y.d] 3) = w9) := hw9.symm
          have hb9 : Below w8.heap.size w8 w9 := by rw [hw9]; exact (Below.refl _ _).alloc (Nat.le_refl _) _
          have hb79 : Below (g + 1) w7 w9 := HB8.out.trans (hb9.mono hgw8)
          have HCH2 : Hid (CH g N L o l x R w (k + 1) ⟨A8, oc.n + 1, c8⟩ ⟨some ⟨w8.heap.size, 0, none⟩, 1, 1⟩ w9) := by
            refine ⟨HBX7.out.below hb79 (Nat.lt_succ_self g), ?_, ?_, ?_, HBW7.out.trans (hb79.mono (Nat.le_succ g))⟩
            · rw [HSTEP.out]
              have := own_below HO8.out hb9
              rw [List.map_cons, List.reverse_cons]
              exact this
            · rw [HSTEP.out]
              show (stC N L l x R k).2.length + 1 = oc.n + 1
              rw [HH.out.len]
            · rw [HSTEP.out, show R - 2 * ((k + 1 : Nat) : Int) = y.r by have := HQ.out; have := HY1.out.2; omega]
              dsimp only
              rw [rchR_self HM.out HY1.out.1]
              exact slIn_own (a := ⟨some ⟨w8.heap.size, 0, none⟩, 1, 1⟩) (by rw [hw9]; exact one_new w8 y.d (Nat.le_refl _)) rfl
          clear hw9 hb9 hb79
          have HQN : Hid (Q - 2 = R - 2 * ((k + 1 : Nat) : Int)) := by show _ = _; have := HQ.out; omega
          have hme : (Q - 2 + 4).toNat < (Q + 4).toNat := by omega
          rw [HW9.out]
          go_step3
          show 0 = 0 ∧ (ChainJ g N L after o l x R lw w _ _ ∧ rOf _ < _)
          exact ⟨rfl, .mk _ _ _ _ _ _ _ _ _ _ _ _ _ _ _ _ _ _ _ _ _ _ _ _ _ _ _ _ _ _ _ _ _ _ _ _ _ _ _ _ _ _ _ _ _ _ _ _ _ _ _ _ _ _ _ _ _ _ _ _ _ _ _ _ _ _ _ _ _ _ _ _ _ (k + 1) _ ⟨A8, oc.n + 1, c8⟩ ⟨some ⟨w8.heap.size, 0, none⟩, 1, 1⟩ _ HQN.out (.inr (by have := HQN.out; omega)) HCH2.out, hme⟩
  · intro HREST
    go_wp2_with fail
    go_upto_region 6 with (go_at_call 28; refine HC.out.mono ?_; rintro e w2 ⟨rfl, hb2⟩; obtain ⟨f0, f1, f2⟩ := HD.out w2 hb2)
    go_upto_region 8 with fail
    obtain ⟨G, hG⟩ : ∃ G, G = w2.heap.size := ⟨_, rfl⟩
    obtain ⟨w3, hw3⟩ : ∃ w3, w3 = (w2.alloc (.cells [Value.int .i64 x.d].toArray 3)).alloc (.cells [Value.int .i64 x.d].toArray 3) := ⟨_, rfl⟩
    have HGE : Hid (w2.heap.size = G) := hG.symm
    have HW3 : Hid ((w2.alloc (.cells #[.int .i64 x.d] 3)).alloc (.cells #[.int .i64 x.d] 3) = w3) := hw3.symm
    rw [HGE.out, HW3.out]
    have hgw2 : g + 1 ≤ w2.heap.size := by have := hb2.size; omega
    have hb23 : Below w2.heap.size w2 w3 := by rw [hw3]; exact ((Below.refl _ _).alloc (Nat.le_refl _) _).alloc (by simp) _
    have o1 : w3.ownsRow (g + 1) 3 1 (.slice (some ⟨G, 0, none⟩) 1 1) 1 (i64s [x.d]) := by
      rw [hw3, hG]
      exact own_below (one_new w2 x.d hgw2) ((Below.refl _ _).alloc (Nat.le_refl _) _)
    have o2 : w3.ownsRow (g + 1) 3 1 (.slice (some ⟨G + 1, 0, none⟩) 1 1) 1 (i64s [x.d]) := by
      have := one_new (w2.alloc (.cells [Value.int .i64 x.d].toArray 3)) x.d (B := g + 1) (by simp; omega)
      have e : (w2.alloc (.cells [Value.int .i64 x.d].toArray 3)).heap.size = G + 1 := by rw [hG]; simp
      rw [e] at this
      rw [hw3]
      exact this
    have hb13 : Below w1.heap.size w1 w3 := hb2.trans (hb23.mono hb2.size)
    have HCH0 : Hid (CH g N L o l x R w 0 ⟨some ⟨G, 0, none⟩, 1, 1⟩ ⟨some ⟨G + 1, 0, none⟩, 1, 1⟩ w3) := by
      have e0 : R - 2 * ((0 : Nat) : Int) = R := by omega
      refine ⟨HX0.out.below hb13 HX0.out.1, o1, rfl, ?_, HB.out.trans (hb13.mono (Nat.le_of_lt hgs))⟩
      rw [e0, show (stC N L l x R 0).1 = x from rfl, ← HXM.out.2, rchR_self HM.out HXM.out.1]
      exact slIn_own o2 rfl
    have hD3 := HD.out w3 hb13
    clear f0 f1 f2 hb2 hG hw3 hgw2 hb23 o1 o2 hb13 d0 d1 d2
    obtain ⟨d0, d1, d2⟩ := hD3
    have hR0 : R - 2 * ((0 : Nat) : Int) = R := by omega
    by_cases hll : after < L
    · obtain rfl : lw = L := by rw [HLW.out, if_pos hll]
      go_upto_region 9 with fail
      go_step3
      rename_i hK
      refine hK _ _ (HREST _ _ ?_)
      exact .mk _ _ _ _ _ _ _ _ _ _ _ _ _ _ _ _ _ _ _ _ _ _ _ _ _ _ _ _ _ _ _ _ _ _ _ _ _ _ _ _ _ _ _ _ _ _ _ _ _ _ _ _ _ _ _ _ _ _ _ _ _ _ _ _ _ _ _ _ _ _ _ _ _ 0 _ _ _ _ hR0.symm (.inl rfl) HCH0.out
    · obtain rfl : lw = after := by rw [HLW.out, if_neg hll]
      go_upto_region 9 with fail
      go_step3
      rename_i hK
      refine hK _ _ (HREST _ _ ?_)
      exact .mk _ _ _ _ _ _ _ _ _ _ _ _ _ _ _ _ _ _ _ _ _ _ _ _ _ _ _ _ _ _ _ _ _ _ _ _ _ _ _ _ _ _ _ _ _ _ _ _ _ _ _ _ _ _ _ _ _ _ _ _ _ _ _ _ _ _ _ _ _ _ _ _ _ 0 _ _ _ _ hR0.symm (.inl rfl) HCH0.out

end Go.Proofs.Ytejkeccoialogaa
/-
  What a chain's certificates are; and that what has few votes is reached by all that is two rounds above it, or more (P16.3).
-/
namespace Go.Proofs.Ytejkeccoialogaa
open Go.RowKit

section
variable {N L after R : Int} {l : List CrtD} {x y z : CrtD}
structure ChnOk (N L : Int) (l : List CrtD) (after R : Int) (x : CrtD) (cs : List CrtD) : Prop where
  all : ∀ y ∈ cs, y ∈ l ∧ ancC N l y.r = some y ∧ after < y.r ∧ y.r ≤ R ∧ y.r % 2 = 0
  asc : cs.Pairwise fun y z => y.r < z.r
  last : cs.getLast? = some x
  len : cs.length ≤ l.length
theorem chain_facts (hr : evn R = true) (hc : chnB after R = true) (ha : ancC N l R = some x) : ChnOk N L l after R x (chainC N L l after R x) := by
  obtain ⟨-, -, h3⟩ := evn_yes hr
  obtain ⟨h4, h5, h6⟩ := chnB_yes hc
  have hs := stC_ok (L := L) ha ((R - after) / 2 - 1).toNat
  refine ⟨fun y hy => ?_, hs.asc, hs.last, stOk_len hs⟩
  obtain ⟨a1, a2, a3, a4, a5⟩ := hs.all y hy
  exact ⟨a1, a2, by omega, a4, by omega⟩
/-- the round behind which the j-th one comes -/
def lastR (after : Int) (cs : List CrtD) : Nat → Int
  | 0 => after
  | j + 1 => match cs[j]? with
    | some y => y.r
    | none => 0
theorem lastR_next {cs : List CrtD} {j : Nat} (h : cs[j]? = some y) : lastR after cs (j + 1) = y.r := by rw [lastR, h]
theorem lastR_lt {cs : List CrtD} (h : ChnOk N L l after R x cs) : ∀ {j : Nat} {y : CrtD}, cs[j]? = some y → lastR after cs j < y.r
  | 0, y, hj => (h.all y (List.mem_of_getElem? hj)).2.2.1
  | j + 1, y, hj => by
    have hl := (List.getElem?_eq_some_iff.1 hj).1
    obtain ⟨z, hz⟩ : ∃ z, cs[j]? = some z := ⟨_, List.getElem?_eq_getElem (by omega)⟩
    rw [lastR_next hz]
    obtain ⟨h1, e1⟩ := List.getElem?_eq_some_iff.1 hz
    obtain ⟨h2, e2⟩ := List.getElem?_eq_some_iff.1 hj
    have := List.pairwise_iff_getElem.1 h.asc j (j + 1) h1 h2 (Nat.lt_succ_self j)
    rwa [e1, e2] at this
theorem lastR_end {cs : List CrtD} (h : ChnOk N L l after R x cs) (hx : x.r = R) : lastR after cs cs.length = R := by
  have h1 := h.last
  rw [List.getLast?_eq_getElem?] at h1
  have h2 := (List.getElem?_eq_some_iff.1 h1).1
  obtain ⟨n, hn⟩ : ∃ n, cs.length = n + 1 := ⟨cs.length - 1, by omega⟩
  rw [hn] at h1 ⊢
  rw [lastR_next (y := x) (by simpa using h1)]
  exact hx

/-! ### votes -/
theorem len_subC : ∀ {P D : List CrtD}, P.Nodup → (∀ p ∈ P, p ∈ D) → P.length ≤ D.length
  | [], _, _, _ => Nat.zero_le _
  | p :: r, D, hn, hs => by
    obtain ⟨h1, h2⟩ := List.nodup_cons.1 hn
    have hp := hs p (by simp)
    have h3 := len_subC (D := D.erase p) h2 fun q hq => (List.mem_erase_of_ne (fun (e : q = p) => h1 (by rw [← e]; exact hq))).2 (hs q (by simp [hq]))
    have h4 := List.length_erase_of_mem hp
    have h5 := List.length_pos_of_mem hp
    simp only [List.length_cons]
    omega
/-- two parts of a list that together are more than it have one in common -/
theorem two_meet (f g : CrtD → Bool) : ∀ m : List CrtD, m.length < (m.filter f).length + (m.filter g).length → ∃ y ∈ m, f y = true ∧ g y = true
  | [], h => by simp at h
  | y :: r, h => by
    by_cases hy : f y = true ∧ g y = true
    · exact ⟨y, by simp, hy⟩
    · have h1 : (r.filter f).length + (r.filter g).length > r.length := by
        simp only [List.filter_cons] at h
        cases hf : f y <;> cases hg : g y <;> simp [hf, hg] at h hy <;> omega
      obtain ⟨z, hz, h2⟩ := two_meet f g r h1
      exact ⟨z, by simp [hz], h2⟩
/-- a certificate's parents, in the round ahead -/
theorem par_count (h : MayG N L l) (hx : x ∈ l) (hr : L + 1 < x.r) : quoN N ≤ (((inR l (x.r - 1)).filter fun y => inB x.P y.d).length : Int) := by
  obtain ⟨-, -, h1, -, h2⟩ := ok_hdr (h.of_mem hx).1
  have h3 := len_sub (D := ((inR l (x.r - 1)).filter fun y => inB x.P y.d).map CrtD.d) h1 fun p hp => by
    obtain ⟨y, hy, e, -⟩ := parent_in h hx (by omega) hp
    exact List.mem_map.2 ⟨y, List.mem_filter.2 ⟨hy, by rw [e]; exact inB_iff.2 hp⟩, e⟩
  rw [List.length_map] at h3
  have := h2 (by have := h.l0; omega)
  omega
/-- what has few votes is reached from two rounds above -/
theorem few_two (h : MayG N L l) (hz : z ∈ l) (hzl : L < z.r) (hv : N / 3 + 1 ≤ (votN l z.r z.d : Int)) (hx : x ∈ l) (hxr : x.r = z.r + 2) : Rch L l x z := by
  have h1 := par_count h hx (by omega)
  have h2 := round_most h (z.r + 1)
  have h3 := h.n
  have h4 : N % 3 = 1 := by
    have : 1 ≤ N ∧ N ≤ 16 ∧ N % 3 = 1 := by simpa only [mayB, decide_eq_true_eq] using h3
    exact this.2.2
  rw [show x.r - 1 = z.r + 1 by omega] at h1
  unfold votN at hv
  unfold quoN at h1
  obtain ⟨y, hy, h5, h6⟩ := two_meet (fun y => inB x.P y.d) (fun y => inB y.P z.d) (inR l (z.r + 1)) (by omega)
  obtain ⟨y1, y2⟩ := mem_inR.1 hy
  exact .step (.step .refl (by omega) y1 (inB_iff.1 h5)) (by omega) hz (inB_iff.1 h6)
/-- and from all above -/
theorem few_all (h : MayG N L l) (hz : z ∈ l) (hzl : L < z.r) (hv : N / 3 + 1 ≤ (votN l z.r z.d : Int)) : ∀ (k : Nat) (x : CrtD), x ∈ l → x.r = z.r + 2 + k → Rch L l x z
  | 0, x, hx, hr => few_two h hz hzl hv hx (by omega)
  | k + 1, x, hx, hr => by
    have h1 := round_quo h hx (by omega)
    have h2 := par_count h hx (by omega)
    have h3 := h.pos
    have h4 : 0 < ((inR l (x.r - 1)).filter fun y => inB x.P y.d).length := by omega
    obtain ⟨y, hy⟩ : ∃ y, ((inR l (x.r - 1)).filter fun y => inB x.P y.d)[0]? = some y := ⟨_, List.getElem?_eq_getElem h4⟩
    obtain ⟨h5, h6⟩ := List.mem_filter.1 (List.mem_of_getElem? hy)
    obtain ⟨y1, y2⟩ := mem_inR.1 h5
    exact Rch.trans (.step .refl (by omega) y1 (inB_iff.1 h6)) (few_all h hz hzl hv k y y1 (by omega))
/-- a chain from below it on holds it -/
theorem few_chain (h : MayG N L l) {r q : Int} (hr : evn r = true) (hq : evn q = true) (hrq : r < q) (ha : ancC N l r = some z) (hv : N / 3 + 1 ≤ votC N l r) (hx : ancC N l q = some x) : z ∈ chainC N L l (r - 2) q x := by
  obtain ⟨hz1, hz2, -⟩ := ancC_some ha
  rw [votC_some ha] at hv
  obtain ⟨e1, e2, e3⟩ := evn_yes hr
  obtain ⟨f1, f2, f3⟩ := evn_yes hq
  unfold chainC
  obtain ⟨n, hn⟩ : ∃ n, ((q - (r - 2)) / 2 - 1).toNat = n + 1 := ⟨((q - (r - 2)) / 2 - 1).toNat - 1, by omega⟩
  rw [hn, stC_next, show q - 2 * ((n : Int) + 1) = r by omega, ha]
  have hs := stC_ok (L := L) hx n
  have h1 : Rch L l (stC N L l x q n).1 z := by
    have hlow := hs.low
    have hpar := hs.par
    exact few_all h hz1 (h.of_mem hz1).2 (by rw [hz2]; exact hv) ((stC N L l x q n).1.r - (r + 2)).toNat _ hs.mem (by omega)
  unfold stepC
  dsimp only
  rw [if_pos (rchB_iff.2 h1)]
  simp
end

end Go.Proofs.Ytejkeccoialogaa
