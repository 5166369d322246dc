/-
  The walk of 'PathLows'.
-/
import Derived.Test.YtfldfillcmamcaaQLaw
import Derived.Test.YtfldfillcmamcaaYRMay
import Derived.Test.YtfldfillcmamcaaQPlain
namespace Go.Proofs.Ytfldfillcmamcaa
open Go.RowKit

/-! ### what is below, as a list of certificates -/
noncomputable def rchL (L : Int) (l : List CrtD) (x : CrtD) : List CrtD := l.filter (rchB L l x)
section
variable {N L : Int} {l : List CrtD} {x y z : CrtD}
theorem bel_rch (low : Int) : belC L l x low = ((rchL L l x).filter fun y => decide (low < y.r)).map CrtD.d := by
  unfold belC rchL
  rw [List.filter_filter]
  congr 1
  refine List.filter_congr fun y _ => ?_
  unfold belF
  rw [Bool.and_comm]
theorem bel_all (h : MayG N L l) : belC L l x L = (rchL L l x).map CrtD.d := by
  rw [bel_rch, filter_all]
  intro y hy
  have := (h.of_mem ((List.mem_filter.1 hy).1)).2
  simpa using this
theorem bel_len_l (L : Int) (l : List CrtD) (x : CrtD) (low : Int) : (belC L l x low).length ≤ l.length := by
  unfold belC
  rw [List.length_map]
  exact List.length_filter_le _ _
/-- the last one is what was asked of -/
theorem rch_last (h : MayG N L l) {i : Nat} (hi : l[i]? = some x) : ∃ pre, rchL L l x = pre ++ [x] := by
  obtain ⟨hl, he⟩ := List.getElem?_eq_some_iff.1 hi
  refine ⟨(l.take i).filter (rchB L l x), ?_⟩
  unfold rchL
  have h1 : (l.drop (i + 1)).filter (rchB L l x) = [] := filter_none fun y hy => by
    obtain ⟨j, hj, hy⟩ := mem_drop_at hy
    exact rchB_no.2 fun hr => by have := hr.at h hi hy; omega
  have h2 : rchB L l x x = true := rchB_iff.2 .refl
  generalize rchB L l x = f at h1 h2
  conv => lhs; rw [← List.take_append_drop i l, List.filter_append, List.drop_eq_getElem_cons hl, he, List.filter_cons, if_pos h2, h1]
/-- each stands behind the one ahead of it -/
theorem rch_asc (h : MayG N L l) {k i j : Nat} (hk : (rchL L l x)[k]? = some y) (hk1 : (rchL L l x)[k + 1]? = some z) (hi : l[i]? = some y) (hj : l[j]? = some z) : i < j := by
  have hp : (rchL L l x).Pairwise fun a b => aheadB a.r a.a b.r b.a = true := (asc_pair h.asc).sublist List.filter_sublist
  have h1 := List.pairwise_iff_getElem.1 hp k (k + 1) (List.getElem?_eq_some_iff.1 hk).1 (List.getElem?_eq_some_iff.1 hk1).1 (by omega)
  rw [(List.getElem?_eq_some_iff.1 hk).2, (List.getElem?_eq_some_iff.1 hk1).2] at h1
  have h1 := aheadB_iff.1 h1
  rcases Nat.lt_trichotomy i j with h2 | h2 | h2
  · exact h2
  · subst h2
    rw [hi] at hj
    cases hj
    omega
  · have := aheadB_iff.1 (h.asc j i z y h2 hj hi)
    omega
theorem rch_mem (hy : y ∈ rchL L l x) : y ∈ l := (List.mem_filter.1 hy).1
/-- a digest's place -/
theorem idx_of (h : MayG N L l) {j : Nat} (hj : l[j]? = some y) : idxD l y.d = (j : Int) := by
  refine idxF_at hj (by simp [neD]) fun k z hk hz => ?_
  have : z.d ≠ y.d := fun e => by have := dig_at h hz hj e; omega
  simp [neD, this]
theorem cut_of (h : MayG N L l) {j : Nat} (hj : l[j]? = some y) : l[cutF (neD y.d) l]? = some y := by rw [← findC_cut]; exact findC_mem h.dig (List.mem_of_getElem? hj)
/-- how many of the first k are above a round -/
def upN (F : List CrtD) (low : Int) (k : Nat) : Nat := ((F.take k).filter fun y => decide (low < y.r)).length
theorem upN_next {F : List CrtD} {low : Int} {k : Nat} (hk : F[k]? = some y) : upN F low (k + 1) = upN F low k + (if low < y.r then 1 else 0) := by
  unfold upN
  rw [List.take_add_one, hk, List.filter_append, List.length_append]
  by_cases h : low < y.r <;> simp [h]
theorem upN_le (F : List CrtD) (low : Int) (k : Nat) : upN F low k ≤ k := by
  unfold upN
  exact Nat.le_trans (List.length_filter_le _ _) (by rw [List.length_take]; omega)
theorem up_at {F : List CrtD} {low : Int} {k : Nat} (hk : F[k]? = some y) (hr : low < y.r) : ((F.filter fun y => decide (low < y.r)).map CrtD.d)[upN F low k]? = some y.d := by
  obtain ⟨hl, he⟩ := List.getElem?_eq_some_iff.1 hk
  have e : F.filter (fun y => decide (low < y.r)) = (F.take k).filter (fun y => decide (low < y.r)) ++ y :: (F.drop (k + 1)).filter (fun y => decide (low < y.r)) := by
    conv => lhs; rw [← List.take_append_drop k F, List.filter_append, List.drop_eq_getElem_cons hl, he, List.filter_cons, if_pos (by simpa using hr)]
  rw [e, List.getElem?_map, upN, List.getElem?_append_right (Nat.le_refl _), Nat.sub_self]
  rfl
theorem upN_end (F : List CrtD) (low : Int) : upN F low F.length = ((F.filter fun y => decide (low < y.r)).map CrtD.d).length := by
  unfold upN
  rw [List.take_length, List.length_map]
end

set_option maxRecDepth 100000 in
set_option maxHeartbeats 8000000 in
theorem pathLows_walk (q : AskQ) (w : World) (h : AskQIn w q) : Calls Try.prog 12 #[askQV q] w fun e w' => e = .returned (.bool true) ∧ Below w.heap.size w w' := by
  obtain ⟨g, hg⟩ : ∃ g, g = w.heap.size := ⟨_, rfl⟩
  obtain ⟨w1, hw1⟩ : ∃ w1, w1 = w.alloc (.cells (askQC q).toArray 71) := ⟨_, rfl⟩
  obtain ⟨hb1, hsz, hx0⟩ := boxes1 w _ _ hw1
  rw [← hg] at hb1 hsz hx0
  have HG : Hid (w.heap.size = g) := hg.symm
  have HW : Hid (w.alloc (.cells #[.int .i64 q.N, .int .i64 q.L, .slice q.o.A q.o.n q.o.c, .slice q.oi.A q.oi.n q.oi.c, .slice q.oj.A q.oj.n q.oj.c] 71) = w1) := hw1.symm
  have HB := Lib.hid hb1
  have HX := Lib.hid hx0
  have HQ : Hid (∀ wX, Below g w wX → AskQIn wX q) := fun wX hb => h.below (by rw [← hg]; exact hb)
  have HH := Lib.hid (heavyQ_is q w1 (h.below (by rw [← hg]; exact hb1)))
  have HD : Hid (∀ wX, Below w1.heap.size w1 wX → wX.cell? ⟨g, 0, none⟩ = some (.int .i64 q.N) ∧ wX.cell? ⟨g, 1, none⟩ = some (.int .i64 q.L) ∧ wX.cell? ⟨g, 2, none⟩ = some (.slice q.o.A q.o.n q.o.c) ∧ wX.cell? ⟨g, 3, none⟩ = some (.slice q.oi.A q.oi.n q.oi.c) ∧ wX.cell? ⟨g, 4, none⟩ = some (.slice q.oj.A q.oj.n q.oj.c)) := fun wX hb => askQ_cells (HX.out.below hb HX.out.1)
  obtain ⟨a0, a1, a2, a3, a4⟩ := askQ_cells hx0
  have hgs := hx0.1
  clear hg hw1 hb1 hsz hx0 h
  rw [HG.out]
  unfold askQV at HH ⊢
  go_enter Try.func12, Try.ntmps12
  go_upto_region 1 with fail
  rw [HG.out, HW.out]
  go_wp2_with (go_at_call 41; refine HH.out.mono ?_; rintro e w2 ⟨b, rfl, hlight, hb2⟩; obtain ⟨e0, e1, e2, e3, e4⟩ := HD.out w2 hb2; cases b)
  · have hbw2 := HB.out.trans (hb2.mono (Nat.le_of_lt hgs))
    have HGI : Hid (∀ wX, Below w1.heap.size w1 wX → GIn wX q.o q.l) := fun wX hb => (HQ.out wX (HB.out.trans (hb.mono (Nat.le_of_lt hgs)))).d.gin (hlight (by simp)).d (by decide)
    have hn30 : q.oi.n ≤ 30 := by have := (hlight (by simp)).i; have := (HQ.out _ hbw2).i.len; omega
    have hn30j : q.oj.n ≤ 30 := by have := (hlight (by simp)).j; have := (HQ.out _ hbw2).j.len; omega
    have HLI : Hid (q.zs.length = q.oi.n) := (HQ.out _ hbw2).i.len
    have HLJ : Hid (q.ws.length = q.oj.n) := (HQ.out _ hbw2).j.len
    have HB12 := Lib.hid hb2
    clear hlight HH
    have HMY : Hid (∀ wX, Below w1.heap.size w1 wX → Calls Try.prog 20 #[.agg #[.int .i64 q.N, .int .i64 q.L, .slice q.o.A q.o.n q.o.c]] wX (RetMay q.N q.L q.l wX)) := fun wX hb => rMay_is q.N q.L q.o q.l wX (HGI.out wX hb)
    go_wp2_with (go_at_call 20; refine (HMY.out _ hb2).mono ?_; rintro e w3 ⟨bm, rfl, hbm, hb3⟩; have HBM := Lib.hid hbm; clear hbm; cases bm)
    · go_ret
      exact ⟨rfl, HB.out.trans ((hb2.trans (hb3.mono hb2.size)).mono (Nat.le_of_lt hgs))⟩
    · have HM : Hid (MayG q.N q.L q.l) := HBM.out.1 (by first | rfl | trivial)
      have HB13 : Hid (Below w1.heap.size w1 w3) := hb2.trans (hb3.mono hb2.size)
      have HLEN : Hid (q.l.length = q.o.n) := (HGI.out _ hb2).len
      have hfew := (HGI.out _ hb2).few
      have hL0 := HM.out.l0
      have hL1 := HM.out.l1
      clear e0 e1 e2 e3 e4 hb3 hb2 HMY HBM hbw2
      go_loopw [3] (fun i wr => ∃ t : Nat, i = .int .i64 t ∧ t ≤ q.o.n ∧ Hid (Below w1.heap.size w1 wr)) (fun i _ => q.o.n - (intOf i).toNat)
      case atStart => exact ⟨0, rfl, Nat.zero_le _, HB13.out⟩
      case round =>
        clear a0 a1 a2 a3 a4
        obtain ⟨t, rfl, ht, HBT⟩ := hrel
        obtain ⟨e0, e1, e2, e3, e4⟩ := HD.out wr HBT.out
        by_cases hlt : t < q.o.n
        · have i0 : (0 : Int) ≤ (t : Int) := by omega
          have i1 : (t : Int) < (q.o.n : Int) := by omega
          by_cases ht12 : t < 12
          · have i2 : (t : Int) < 12 := by omega
            obtain ⟨x, hx⟩ : ∃ x, q.l[t]? = some x := ⟨_, List.getElem?_eq_getElem (by rw [HLEN.out]; exact hlt)⟩
            obtain ⟨b, off, a, hA, hbl, -, hce⟩ := (HGI.out wr HBT.out).get hx
            obtain ⟨k0, k1, k2, k3, k4, k5, -⟩ := hce wr (Below.refl _ _)
            have HX := Lib.hid hx
            have HA := Lib.hid hA
            obtain ⟨hxok, hxl⟩ := HM.out.of_mem (List.mem_of_getElem? hx)
            obtain ⟨hxr0, hxr1⟩ := (ok_hdr hxok).2.1
            rw [hA] at e2
            clear hce hx hA hxok
            go_upto_region 7 with fail
            obtain ⟨G, hG⟩ : ∃ G, G = wr.heap.size := ⟨_, rfl⟩
            obtain ⟨w5, hw5⟩ : ∃ w5, w5 = wr.alloc (.cells (crtC x a).toArray 45) := ⟨_, rfl⟩
            obtain ⟨hb5, -, hx5⟩ := boxes1 wr _ _ hw5
            rw [← hG] at hx5
            have HGE : Hid (wr.heap.size = G) := hG.symm
            have HW5 : Hid (wr.alloc (.cells #[.int .i64 x.a, .int .i64 x.r, .slice a.B.A a.B.n a.B.c, .slice a.P.A a.P.n a.P.c, .int .i64 x.d, .slice a.S.A a.S.n a.S.c] 45) = w5) := hw5.symm
            rw [HGE.out, HW5.out]
            have hb15 : Below w1.heap.size w1 w5 := HBT.out.trans (hb5.mono HBT.out.size)
            have HX5 := Lib.hid hx5
            clear e0 e1 e2 e3 e4 k0 k1 k2 k3 k4 k5 hG hw5 hb5 hbl
            obtain ⟨c0, c1, c2, c3, c4, c5⟩ := crt_cells hx5
            obtain ⟨e0, e1, e2, e3, e4⟩ := HD.out w5 hb15
            rw [HA.out] at e2
            have HBW : Hid (∀ lo wX, Below w1.heap.size w1 wX → Calls Try.prog 47 #[.agg #[.int .i64 q.N, .int .i64 q.L, .slice (some ⟨b, off, none⟩) q.o.n q.o.c], .int .i64 x.d, .int .i64 lo] wX (BelowOk (belC q.L q.l x lo) wX)) := fun lo wX hb => by
              have := below_ok q.N q.L x.d lo q.o q.l x wX (HGI.out wX hb) HM.out (cut_of HM.out HX.out)
              unfold dagV at this
              rwa [HA.out] at this
            obtain ⟨F, hF⟩ : ∃ F, F = rchL q.L q.l x := ⟨_, rfl⟩
            have HFA : Hid (belC q.L q.l x q.L = F.map CrtD.d) := by show _ = _; rw [hF]; exact bel_all HM.out
            have HFB : Hid (∀ lo, belC q.L q.l x lo = (F.filter fun y => decide (lo < y.r)).map CrtD.d) := fun lo => by rw [hF]; exact bel_rch lo
            obtain ⟨pre, hpre⟩ := rch_last HM.out HX.out
            rw [← hF] at hpre
            have HPRE := Lib.hid hpre
            have HFM : Hid (∀ y ∈ F, y ∈ q.l) := fun y hy => rch_mem (by rw [hF] at hy; exact hy)
            have HASC : Hid (∀ (k i j : Nat) (y z : CrtD), F[k]? = some y → F[k + 1]? = some z → q.l[i]? = some y → q.l[j]? = some z → i < j) := fun k i j y z h1 h2 h3 h4 => rch_asc HM.out (by rw [hF] at h1; exact h1) (by rw [hF] at h2; exact h2) h3 h4
            have HB0 := Lib.hid (HBW.out q.L w5 hb15)
            rw [HFA.out] at HB0
            clear hpre hF hx5
            go_upto_region 8 with (go_at_call 47; refine HB0.out.mono ?_; rintro e w8 ⟨⟨A5, n5, q5⟩, rfl, ho5, hl5, hb58⟩)
            have hb18 : Below w1.heap.size w1 w8 := hb15.trans (hb58.mono hb15.size)
            have HFL : Hid (F.length = n5) := by have := hl5; rw [List.length_map] at this; exact this
            have hn50 : 0 < n5 := by rw [← HFL.out, HPRE.out]; simp
            obtain ⟨b5, cap5, hv5, -, hlt5⟩ := ho5.form hn50
            simp only [Ad.v, Value.slice.injEq, true_and] at hv5
            obtain ⟨rfl, rfl⟩ := hv5
            have hbox5 := row_box ho5
            have HALL : Hid (∀ wX, Below w8.heap.size w8 wX → wX.cell? ⟨g, 0, none⟩ = some (.int .i64 q.N) ∧ wX.cell? ⟨g, 1, none⟩ = some (.int .i64 q.L) ∧ wX.cell? ⟨g, 2, none⟩ = some (.slice (some ⟨b, off, none⟩) q.o.n q.o.c) ∧ wX.cell? ⟨G, 1, none⟩ = some (.int .i64 x.r) ∧ wX.cell? ⟨G, 4, none⟩ = some (.int .i64 x.d) ∧ ∀ (k : Nat) (y : CrtD), F[k]? = some y → wX.cell? ⟨b5, k, none⟩ = some (.int .i64 y.d)) := fun wX hb => by
              obtain ⟨r0, r1, r2, -, -⟩ := HD.out wX (hb18.trans (hb.mono hb18.size))
              rw [HA.out] at r2
              obtain ⟨-, s1, -, -, s4, -⟩ := crt_cells ((HX5.out.below hb58 HX5.out.1).below hb (Nat.lt_of_lt_of_le HX5.out.1 hb58.size))
              refine ⟨r0, r1, r2, s1, s4, fun k y hy => ?_⟩
              rw [hb.cell (p := ⟨b5, k, none⟩) hlt5]
              exact (hbox5.2 k _ (by simp [i64s, hy])).1
            have HGET : Hid (∀ (j : Nat) (y : CrtD), q.l[j]? = some y → ∃ a : CrtA, ∀ wX, Below w8.heap.size w8 wX → CrtAt wX b off j y a) := fun j y hy => by
              obtain ⟨b', off', a', h1, -, -, h4⟩ := (HGI.out w8 hb18).get hy
              rw [HA.out] at h1
              cases h1
              exact ⟨a', h4⟩
            have HFIND : Hid (∀ p wX, Below w8.heap.size w8 wX → Calls Try.prog 27 #[.agg #[.int .i64 q.N, .int .i64 q.L, .slice (some ⟨b, off, none⟩) q.o.n q.o.c], .int .i64 p] wX fun e w' => e = .returned (.int .i64 (idxD q.l p)) ∧ Below wX.heap.size wX w') := fun p wX hb => by
              have := rFind_is q.N q.L p q.o q.l wX (HGI.out wX (hb18.trans (hb.mono hb18.size)))
              unfold dagV at this
              rwa [HA.out] at this
            have HIDX : Hid (∀ (j : Nat) (y : CrtD), q.l[j]? = some y → idxD q.l y.d = (j : Int)) := fun j y hj => idx_of HM.out hj
            have HB18 := Lib.hid hb18
            have HLAST : Hid (F[n5 - 1]? = some x) := by
              show _ = _
              rw [← HFL.out, HPRE.out, List.length_append, List.getElem?_append_right (by simp)]
              simp
            have hn5m : n5 ≤ 1000000 := by
              have h1 : F.length ≤ q.l.length := by
                have := bel_len_l q.L q.l x q.L
                rw [HFA.out, List.length_map] at this
                exact this
              have := HFL.out
              have := HLEN.out
              omega
            have i6 : (0 : Int) ≤ (n5 : Int) - 1 := by omega
            have i7 : (n5 : Int) - 1 < (n5 : Int) := by omega
            have i8 : ((n5 : Int) - 1).toNat = n5 - 1 := by omega
            have i9 : ((n5 : Int) == 0) = false := by simp; omega
            have jx : (x.d == x.d) = true := by simp
            have hn := fun z : Calm w8 => numQ_any 0 z.val
            have HN := Lib.hid hn
            have hb88 : Below w8.heap.size w8 w8 := Below.refl _ _
            clear e0 e1 e2 e3 e4 c0 c1 c2 c3 c4 c5 ho5 hl5 hb58 hbox5 hn HB0
            have p0 : ∀ z : Calm w8, z.val.cell? ⟨b5, n5 - 1, none⟩ = some (.int .i64 x.d) := fun z => (HALL.out z.val (hb88.trans (z.ok.mono hb88.size))).2.2.2.2.2 _ x HLAST.out
            have p1 : ∀ z : Calm w8, z.val.cell? ⟨G, 4, none⟩ = some (.int .i64 x.d) := fun z => (HALL.out z.val (hb88.trans (z.ok.mono hb88.size))).2.2.2.2.1
            refine wp_region_calm (by kernel_rfl) (by kernel_rfl) ?_
            repeat (go_big_quiet_step ((go_at_call 44; exact calm_same (HN.out _))))
            refine wpQuiet_nil ?_
            rintro _ ⟨z, rfl⟩
            obtain ⟨w6, hwz⟩ : ∃ wz, wz = z.val := ⟨_, rfl⟩
            have hb86 : Below w8.heap.size w8 w6 := by rw [hwz]; exact hb88.trans (z.ok.mono hb88.size)
            rw [← hwz]
            clear hwz z p0 p1
            have HB86 := Lib.hid hb86
            obtain ⟨e0, e1, e2, e3, e4, -⟩ := HALL.out w6 hb86
            clear hb88 i6 i7 i8 i9 HN
            go_wp2_with fail
            go_loopw [7] (fun i wr => ∃ s : Nat, i = .int .i64 (q.L + (s : Int)) ∧ s ≤ 30 ∧ Hid (Below w8.heap.size w8 wr)) (fun i _ => 30 - (intOf i - q.L).toNat)
            case atStart => exact ⟨0, by simp, by omega, HB86.out⟩
            case round =>
              clear e0 e1 e2 e3 e4
              obtain ⟨s, rfl, hs, HBS⟩ := hrel
              obtain ⟨e0, e1, e2, e3, e4, -⟩ := HALL.out wr HBS.out
              by_cases hsr : q.L + s ≤ x.r
              · by_cases hs30 : s < 30
                · have s1 : q.L + (s : Int) < q.L + 30 := by omega
                  obtain ⟨v, hv⟩ : ∃ v, v = belC q.L q.l x (q.L + s) := ⟨_, rfl⟩
                  have HVV : Hid (v = (F.filter fun y => decide (q.L + (s : Int) < y.r)).map CrtD.d) := by show _ = _; rw [hv]; exact HFB.out _
                  have hbx := HBW.out (q.L + s) wr (HB18.out.trans (HBS.out.mono HB18.out.size))
                  rw [← hv] at hbx
                  have HB0 := Lib.hid hbx
                  clear hv hbx
                  go_upto_region 14 with (go_at_call 47; refine HB0.out.mono ?_; rintro e w9 ⟨⟨A6, n6, q6⟩, rfl, ho6, hl6, hb69⟩)
                  have hb89 : Below w8.heap.size w8 w9 := HBS.out.trans (hb69.mono HBS.out.size)
                  have HB89 := Lib.hid hb89
                  have HO6 : Hid (w9.ownsRow wr.heap.size 3 1 (.slice A6 n6 q6) n6 (i64s v)) := ho6
                  have HV6 : Hid (v.length = n6) := hl6
                  have hn6 : n6 ≤ 1000000 := by
                    rw [← HV6.out, HVV.out, List.length_map]
                    have := List.length_filter_le (fun y => decide (q.L + (s : Int) < y.r)) F
                    have := HFL.out
                    omega
                  have HALL9 : Hid (∀ wX, Below w9.heap.size w9 wX → wX.cell? ⟨g, 0, none⟩ = some (.int .i64 q.N) ∧ wX.cell? ⟨g, 1, none⟩ = some (.int .i64 q.L) ∧ wX.cell? ⟨g, 2, none⟩ = some (.slice (some ⟨b, off, none⟩) q.o.n q.o.c) ∧ wX.cell? ⟨G, 1, none⟩ = some (.int .i64 x.r) ∧ wX.cell? ⟨G, 4, none⟩ = some (.int .i64 x.d) ∧ ∀ (k : Nat) (y : CrtD), F[k]? = some y → wX.cell? ⟨b5, k, none⟩ = some (.int .i64 y.d)) := fun wX hb => HALL.out wX (HB89.out.trans (hb.mono HB89.out.size))
                  clear e0 e1 e2 e3 e4 ho6 hl6 hb69 hb89 HB0
                  go_wp2_with (go_at_call 44; refine (numQ_any _ _).mono ?_; rintro e w7 ⟨rfl, rfl⟩)
                  go_loopw [10, 11] (fun u i wr => ∃ k : Nat, u = .int .i64 ((upN F (q.L + s) k : Nat) : Int) ∧ i = .int .i64 k ∧ k ≤ n5 ∧ Hid (Below w9.heap.size w9 wr)) (fun _ i _ => n5 - (intOf i).toNat)
                  case atStart => exact ⟨0, rfl, rfl, Nat.zero_le _, Below.refl _ _⟩
                  case round =>
                    obtain ⟨k, rfl, rfl, hk, HB3⟩ := hrel
                    have hb3 := HB3.out
                    obtain ⟨e0, e1, e2, e3, e4, -⟩ := HALL9.out wr hb3
                    by_cases hkt : k < n5
                    · have k0' : (0 : Int) ≤ (k : Int) := by omega
                      have k1' : (k : Int) < (n5 : Int) := by omega
                      obtain ⟨y, hy⟩ : ∃ y, F[k]? = some y := ⟨_, List.getElem?_eq_getElem (by rw [HFL.out]; exact hkt)⟩
                      obtain ⟨j, hj⟩ := List.mem_iff_getElem?.1 (HFM.out y (List.mem_of_getElem? hy))
                      obtain ⟨a2, hcey⟩ := HGET.out j y hj
                      have hjl : j < q.o.n := by have := (List.getElem?_eq_some_iff.1 hj).1; have := HLEN.out; omega
                      have HFY : Hid (∀ wX, Below w9.heap.size w9 wX → Calls Try.prog 27 #[.agg #[.int .i64 q.N, .int .i64 q.L, .slice (some ⟨b, off, none⟩) q.o.n q.o.c], .int .i64 y.d] wX fun e w' => e = .returned (.int .i64 (j : Int)) ∧ Below wX.heap.size wX w') := fun wX hb => by
                        have := HFIND.out y.d wX (HB89.out.trans (hb.mono HB89.out.size))
                        rwa [HIDX.out j y hj] at this
                      have HCY : Hid (∀ wX, Below w9.heap.size w9 wX → wX.cell? ⟨b, off + j * 6 + 1, none⟩ = some (.int .i64 y.r)) := fun wX hb => (hcey wX (HB89.out.trans (hb.mono HB89.out.size))).c1
                      have HAY : Hid (∀ wX, Below w9.heap.size w9 wX → wX.cell? ⟨b5, k, none⟩ = some (.int .i64 y.d)) := fun wX hb => (HALL9.out wX hb).2.2.2.2.2 k y hy
                      have HUP : Hid (upN F (q.L + s) (k + 1) = upN F (q.L + s) k + (if q.L + s < y.r then 1 else 0)) := upN_next hy
                      have HUA : Hid (q.L + s < y.r → v[upN F (q.L + s) k]? = some y.d) := fun hr => by have := up_at (low := q.L + s) hy hr; rw [← HVV.out] at this; exact this
                      have HPREV : Hid (∀ k', k = k' + 1 → ∃ y' j', F[k']? = some y' ∧ q.l[j']? = some y' ∧ j' < j) := fun k' hk' => by
                        subst hk'
                        obtain ⟨y', hy'⟩ : ∃ y', F[k']? = some y' := ⟨_, List.getElem?_eq_getElem (by rw [HFL.out]; omega)⟩
                        obtain ⟨j', hj'⟩ := List.mem_iff_getElem?.1 (HFM.out y' (List.mem_of_getElem? hy'))
                        exact ⟨y', j', hy', hj', HASC.out k' j' j y' y hy' hy hj' hj⟩
                      have j4 : (0 : Int) ≤ (j : Int) := by omega
                      have j5 : (j : Int) < (q.o.n : Int) := by omega
                      have j6 : ¬ ((j : Int) < 0) := by omega
                      clear hy hj hcey
                      go_upto_region 20 with fail
                      clear e0 e1 e2 e3 e4
                      have p0 : ∀ z : Calm wr, z.val.cell? ⟨g, 0, none⟩ = some (.int .i64 q.N) := fun z => (HALL9.out z.val (hb3.trans (z.ok.mono hb3.size))).1
                      have p1 : ∀ z : Calm wr, z.val.cell? ⟨g, 1, none⟩ = some (.int .i64 q.L) := fun z => (HALL9.out z.val (hb3.trans (z.ok.mono hb3.size))).2.1
                      have p2 : ∀ z : Calm wr, z.val.cell? ⟨g, 2, none⟩ = some (.slice (some ⟨b, off, none⟩) q.o.n q.o.c) := fun z => (HALL9.out z.val (hb3.trans (z.ok.mono hb3.size))).2.2.1
                      have p3 : ∀ z : Calm wr, z.val.cell? ⟨b5, k, none⟩ = some (.int .i64 y.d) := fun z => HAY.out z.val (hb3.trans (z.ok.mono hb3.size))
                      refine wp_region_calm (by kernel_rfl) (by kernel_rfl) ?_
                      repeat (go_big_quiet_step ((go_at_call 27; exact calm_tells (HFY.out _ (hb3.trans ((Calm.ok _).mono hb3.size))))))
                      refine wpQuiet_nil ?_
                      rintro _ ⟨z, rfl⟩
                      obtain ⟨w10, hwz⟩ : ∃ wz, wz = z.val := ⟨_, rfl⟩
                      have hb10 : Below w9.heap.size w9 w10 := by rw [hwz]; exact hb3.trans (z.ok.mono hb3.size)
                      rw [← hwz]
                      clear hwz z p0 p1 p2 p3
                      go_upto_region 21 with fail
                      rcases Nat.eq_zero_or_pos k with hk0 | hk0
                      · subst hk0
                        have kz : ¬ ((0 : Int) < ((0 : Nat) : Int)) := by simp
                        refine wp_region_calm (by kernel_rfl) (by kernel_rfl) ?_
                        repeat (go_big_quiet_step (fail))
                        refine wpQuiet_nil ?_
                        rintro _ ⟨z, rfl⟩
                        obtain ⟨w11, hwz⟩ : ∃ wz, wz = z.val := ⟨_, rfl⟩
                        have hb11 : Below w9.heap.size w9 w11 := by rw [hwz]; exact hb10.trans (z.ok.mono hb10.size)
                        rw [← hwz]
                        clear hwz z hb10
                        obtain ⟨e0, e1, e2, e3, e4, -⟩ := HALL9.out w11 hb11
                        have ey := HCY.out w11 hb11
                        by_cases hyr : y.r ≤ q.L + s
                        · have HU1 : Hid (upN F (q.L + s) (0 + 1) = upN F (q.L + s) 0) := by show _ = _; rw [HUP.out, if_neg (by omega)]; rfl
                          have HB11 := Lib.hid hb11
                          go_wp2_with fail
                          go_roundw
                          case rel => exact ⟨0 + 1, by rw [HU1.out], by go_num, hkt, HB11.out⟩
                          case measure => simp [intOf]; omega
                        · have hgt : q.L + s < y.r := by omega
                          have HU1 : Hid (upN F (q.L + s) (0 + 1) = upN F (q.L + s) 0 + 1) := by show _ = _; rw [HUP.out, if_pos hgt]
                          have hva := HUA.out hgt
                          obtain ⟨u, hu⟩ : ∃ u, u = upN F (q.L + s) 0 := ⟨_, rfl⟩
                          have hun : u < n6 := by rw [← HV6.out, hu]; exact (List.getElem?_eq_some_iff.1 hva).1
                          rw [← hu] at hva
                          obtain ⟨g6, cap, hv6, -, hlt6⟩ := HO6.out.form (by omega)
                          simp only [Value.slice.injEq, true_and] at hv6
                          obtain ⟨rfl, rfl⟩ := hv6
                          have HCL : Hid (∀ wX, Below w9.heap.size w9 wX → wX.cell? ⟨g6, u, none⟩ = some (.int .i64 y.d)) := fun wX hb => by
                            rw [hb.cell (p := ⟨g6, u, none⟩) hlt6]
                            exact ((row_box HO6.out).2 u _ (by simp [i64s, hva])).1
                          have u0 : (0 : Int) ≤ (u : Int) := by omega
                          have u1 : (u : Int) < (n6 : Int) := by omega
                          have u2 : ¬ ((n6 : Int) ≤ (u : Int)) := by omega
                          have u3 : (u : Int) < 1000000 := by omega
                          have jj : (y.d == y.d) = true := by simp
                          have HU2 : Hid (u = upN F (q.L + s) 0) := hu
                          rw [← hu]
                          clear hva hu hlt6 hun
                          go_upto_region 24 with fail
                          clear e0 e1 e2 e3 e4 ey
                          have p0 : ∀ z : Calm w11, z.val.cell? ⟨g6, u, none⟩ = some (.int .i64 y.d) := fun z => HCL.out z.val (hb11.trans (z.ok.mono hb11.size))
                          have p1 : ∀ z : Calm w11, z.val.cell? ⟨b5, 0, none⟩ = some (.int .i64 y.d) := fun z => HAY.out z.val (hb11.trans (z.ok.mono hb11.size))
                          refine wp_region_calm (by kernel_rfl) (by kernel_rfl) ?_
                          repeat (go_big_quiet_step (fail))
                          refine wpQuiet_nil ?_
                          rintro _ ⟨z, rfl⟩
                          obtain ⟨w12, hwz⟩ : ∃ wz, wz = z.val := ⟨_, rfl⟩
                          have hb12 : Below w9.heap.size w9 w12 := by rw [hwz]; exact hb11.trans (z.ok.mono hb11.size)
                          rw [← hwz]
                          clear hwz z p0 p1
                          have HB12 := Lib.hid hb12
                          go_wp2_with fail
                          go_roundw
                          case rel => exact ⟨0 + 1, by rw [HU1.out, ← HU2.out]; rfl, by go_num, hkt, HB12.out⟩
                          case measure => simp [intOf]; omega
                      · obtain ⟨k', hk'⟩ : ∃ k', k = k' + 1 := ⟨k - 1, by omega⟩
                        obtain ⟨y', j', hy', hj', hjj⟩ := HPREV.out k' hk'
                        have HFP : Hid (∀ wX, Below w9.heap.size w9 wX → Calls Try.prog 27 #[.agg #[.int .i64 q.N, .int .i64 q.L, .slice (some ⟨b, off, none⟩) q.o.n q.o.c], .int .i64 y'.d] wX fun e w' => e = .returned (.int .i64 (j' : Int)) ∧ Below wX.heap.size wX w') := fun wX hb => by
                          have := HFIND.out y'.d wX (HB89.out.trans (hb.mono HB89.out.size))
                          rwa [HIDX.out j' y' hj'] at this
                        have HAP : Hid (∀ wX, Below w9.heap.size w9 wX → wX.cell? ⟨b5, k', none⟩ = some (.int .i64 y'.d)) := fun wX hb => (HALL9.out wX hb).2.2.2.2.2 k' y' hy'
                        have kz : (0 : Int) < (k : Int) := by omega
                        have ky0 : (k : Int) - 1 = (k' : Int) := by omega
                        have ky1 : (0 : Int) ≤ (k' : Int) := by omega
                        have ky2 : (k' : Int) < (n5 : Int) := by omega
                        have ky3 : ¬ ((j : Int) ≤ (j' : Int)) := by omega
                        clear hy' hj' hk'
                        have p0 : ∀ z : Calm w10, z.val.cell? ⟨g, 0, none⟩ = some (.int .i64 q.N) := fun z => (HALL9.out z.val (hb10.trans (z.ok.mono hb10.size))).1
                        have p1 : ∀ z : Calm w10, z.val.cell? ⟨g, 1, none⟩ = some (.int .i64 q.L) := fun z => (HALL9.out z.val (hb10.trans (z.ok.mono hb10.size))).2.1
                        have p2 : ∀ z : Calm w10, z.val.cell? ⟨g, 2, none⟩ = some (.slice (some ⟨b, off, none⟩) q.o.n q.o.c) := fun z => (HALL9.out z.val (hb10.trans (z.ok.mono hb10.size))).2.2.1
                        have p3 : ∀ z : Calm w10, z.val.cell? ⟨b5, k', none⟩ = some (.int .i64 y'.d) := fun z => HAP.out z.val (hb10.trans (z.ok.mono hb10.size))
                        refine wp_region_calm (by kernel_rfl) (by kernel_rfl) ?_
                        repeat (go_big_quiet_step ((go_at_call 27; exact calm_tells (HFP.out _ (hb10.trans ((Calm.ok _).mono hb10.size))))))
                        refine wpQuiet_nil ?_
                        rintro _ ⟨z, rfl⟩
                        obtain ⟨w11, hwz⟩ : ∃ wz, wz = z.val := ⟨_, rfl⟩
                        have hb11 : Below w9.heap.size w9 w11 := by rw [hwz]; exact hb10.trans (z.ok.mono hb10.size)
                        rw [← hwz]
                        clear hwz z p0 p1 p2 p3
                        clear HFP HAP kz ky0 ky1 ky2 ky3 hb10
                        obtain ⟨e0, e1, e2, e3, e4, -⟩ := HALL9.out w11 hb11
                        have ey := HCY.out w11 hb11
                        by_cases hyr : y.r ≤ q.L + s
                        · have HU1 : Hid (upN F (q.L + s) (k + 1) = upN F (q.L + s) k) := by show _ = _; rw [HUP.out, if_neg (by omega)]; rfl
                          have HB11 := Lib.hid hb11
                          go_wp2_with fail
                          go_roundw
                          case rel => exact ⟨k + 1, by rw [HU1.out], by go_num, hkt, HB11.out⟩
                          case measure => simp [intOf]; omega
                        · have hgt : q.L + s < y.r := by omega
                          have HU1 : Hid (upN F (q.L + s) (k + 1) = upN F (q.L + s) k + 1) := by show _ = _; rw [HUP.out, if_pos hgt]
                          have hva := HUA.out hgt
                          obtain ⟨u, hu⟩ : ∃ u, u = upN F (q.L + s) k := ⟨_, rfl⟩
                          have hun : u < n6 := by rw [← HV6.out, hu]; exact (List.getElem?_eq_some_iff.1 hva).1
                          rw [← hu] at hva
                          obtain ⟨g6, cap, hv6, -, hlt6⟩ := HO6.out.form (by omega)
                          simp only [Value.slice.injEq, true_and] at hv6
                          obtain ⟨rfl, rfl⟩ := hv6
                          have HCL : Hid (∀ wX, Below w9.heap.size w9 wX → wX.cell? ⟨g6, u, none⟩ = some (.int .i64 y.d)) := fun wX hb => by
                            rw [hb.cell (p := ⟨g6, u, none⟩) hlt6]
                            exact ((row_box HO6.out).2 u _ (by simp [i64s, hva])).1
                          have u0 : (0 : Int) ≤ (u : Int) := by omega
                          have u1 : (u : Int) < (n6 : Int) := by omega
                          have u2 : ¬ ((n6 : Int) ≤ (u : Int)) := by omega
                          have u3 : (u : Int) < 1000000 := by omega
                          have jj : (y.d == y.d) = true := by simp
                          have HU2 : Hid (u = upN F (q.L + s) k) := hu
                          rw [← hu]
                          clear hva hu hlt6 hun
                          go_upto_region 24 with fail
                          clear e0 e1 e2 e3 e4 ey
                          have p0 : ∀ z : Calm w11, z.val.cell? ⟨g6, u, none⟩ = some (.int .i64 y.d) := fun z => HCL.out z.val (hb11.trans (z.ok.mono hb11.size))
                          have p1 : ∀ z : Calm w11, z.val.cell? ⟨b5, k, none⟩ = some (.int .i64 y.d) := fun z => HAY.out z.val (hb11.trans (z.ok.mono hb11.size))
                          refine wp_region_calm (by kernel_rfl) (by kernel_rfl) ?_
                          repeat (go_big_quiet_step (fail))
                          refine wpQuiet_nil ?_
                          rintro _ ⟨z, rfl⟩
                          obtain ⟨w12, hwz⟩ : ∃ wz, wz = z.val := ⟨_, rfl⟩
                          have hb12 : Below w9.heap.size w9 w12 := by rw [hwz]; exact hb11.trans (z.ok.mono hb11.size)
                          rw [← hwz]
                          clear hwz z p0 p1
                          have HB12 := Lib.hid hb12
                          go_wp2_with fail
                          go_roundw
                          case rel => exact ⟨k + 1, by rw [HU1.out, ← HU2.out]; rfl, by go_num, hkt, HB12.out⟩
                          case measure => simp [intOf]; omega
                    · obtain rfl : k = n5 := by omega
                      have k1' : ¬ ((k : Int) < (k : Int)) := by omega
                      have HEND : Hid (upN F (q.L + s) k = n6) := by show _ = _; rw [← HFL.out, upN_end, ← HVV.out]; exact HV6.out
                      have uz : (((n6 : Nat) : Int) == (n6 : Int)) = true := by simp
                      rw [HEND.out]
                      clear hkt e0 e1 e2 e3 e4
                      go_wp2_with fail
                      go_roundw
                      case rel => exact ⟨s + 1, by rw [show q.L + (s : Int) + 1 = q.L + ((s + 1 : Nat) : Int) by omega], by omega, HB89.out.trans (HB3.out.mono HB89.out.size)⟩
                      case measure => simp [intOf]; omega
                · have s1 : ¬ (q.L + (s : Int) < q.L + 30) := by omega
                  go_wp2_with fail
                  go_roundw
                  case rel => exact ⟨t + 1, by go_num, hlt, HB18.out.trans (HBS.out.mono HB18.out.size)⟩
                  case measure => simp [intOf]; omega
              · go_wp2_with fail
                go_roundw
                case rel => exact ⟨t + 1, by go_num, hlt, HB18.out.trans (HBS.out.mono HB18.out.size)⟩
                case measure => simp [intOf]; omega
          · have i2 : ¬ ((t : Int) < 12) := by omega
            have hbr := HB.out.trans (HBT.out.mono (Nat.le_of_lt hgs))
            have hsr := HBT.out.size
            go_wp2_with (go_at_call 45; refine (wakesQ_any _).mono ?_; rintro e w5 ⟨rfl, hb5⟩)
            go_ret
            exact ⟨rfl, hbr.trans (hb5.mono (by omega))⟩
        · obtain rfl : t = q.o.n := by omega
          have i1 : ¬ ((q.o.n : Int) < (q.o.n : Int)) := by omega
          have hbr := HB.out.trans (HBT.out.mono (Nat.le_of_lt hgs))
          have hsr := HBT.out.size
          clear hlt
          go_wp2_with (go_at_call 45; refine (wakesQ_any _).mono ?_; rintro e w5 ⟨rfl, hb5⟩)
          go_ret
          exact ⟨rfl, hbr.trans (hb5.mono (by omega))⟩
  · go_wp2_with fail
    go_ret
    exact ⟨rfl, HB.out.trans (hb2.mono (Nat.le_of_lt hgs))⟩

end Go.Proofs.Ytfldfillcmamcaa
