/-
  The page's Anchor, Votes, Direct.
-/
import Derived.Test.YtejkeccoialogaaAVotes
import Derived.Test.YtejkeccoialogaaYMiss
namespace Go.Proofs.Ytejkeccoialogaa
open Go.RowKit

/-- the page's In -/
theorem inA_is (p : Int) (o : Ad) (l : List Int) (w : World) (hl : l.length = o.n) (hr : Rd w o.A (i64s l)) (hn : o.n ≤ 1000000) :
    Calls Try.prog 40 #[.slice o.A o.n o.c, .int .i64 p] w fun e w' => ∃ z : Int, e = .returned (.int .i64 z) ∧ decide (0 ≤ z) = inB l p ∧ w' = w := by
  by_cases h : p ∈ l
  · refine (in_yes o.A o.c o.n l p w h hl hr (by omega)).mono fun e w' hh => ?_
    obtain ⟨k, h1, h2, h3⟩ := hh
    exact ⟨k, h2, by rw [inB_iff.2 h]; simp, h3.symm⟩
  · refine (in_no o.A o.c o.n l p w h hl hr (by omega)).mono fun e w' hh => ?_
    exact ⟨-1, hh.1, by rw [inB_no.2 h]; rfl, hh.2.symm⟩
set_option maxRecDepth 100000 in
set_option maxHeartbeats 8000000 in
theorem rAnchor_is (N L r : Int) (o : Ad) (l : List CrtD) (w : World) (h : GIn w o l) (hm : mayB N = true) (hr : evn r = true) :
    Calls Try.prog 27 #[dagV N L o, .int .i64 r] w (Tells w.heap.size w (.int .i64 (ancN N l r))) := by
  obtain ⟨g, hg⟩ : ∃ g, g = w.heap.size := ⟨_, rfl⟩
  obtain ⟨w1, hw1⟩ : ∃ w1, w1 = w.alloc (.cells (dagC N L o).toArray 24) := ⟨_, rfl⟩
  obtain ⟨hb1, hsz, hx0⟩ := boxes1 w _ _ hw1
  rw [← hg] at hb1 hsz hx0
  have HG : Hid (w.heap.size = g) := hg.symm
  have HW : Hid (w.alloc (.cells #[.int .i64 N, .int .i64 L, .slice o.A o.n o.c] 24) = w1) := hw1.symm
  have HIN : Hid (∀ wX, Below g w wX → GIn wX o l) := fun wX hb => h.below (by rw [← hg]; exact hb)
  have HB := Lib.hid hb1
  have HX0 := Lib.hid hx0
  have HD : Hid (∀ wX, Below w1.heap.size w1 wX → wX.cell? ⟨g, 0, none⟩ = some (.int .i64 N) ∧ wX.cell? ⟨g, 1, none⟩ = some (.int .i64 L) ∧ wX.cell? ⟨g, 2, none⟩ = some (.slice o.A o.n o.c)) := fun wX hb => dag_cells (HX0.out.below hb HX0.out.1)
  have hgs := hx0.1
  obtain ⟨d0, d1, d2⟩ := dag_cells hx0
  obtain ⟨ld, hld⟩ : ∃ ld, leadC N r = ld := ⟨_, rfl⟩
  have HL : Hid (∀ wX, Calls Try.prog 64 #[.int .i64 N, .int .i64 r] wX fun e w' => e = .returned (.int .i64 ld) ∧ wX = w') := fun wX => by
    have := rleader_yes N r hm hr wX
    rwa [show ((r / 2 - 1) % N + 1) = ld from hld] at this
  have HAT : Hid (∀ wX, Below g w wX → _) := fun wX hb => rAt_is N L r ld o l wX (HIN.out wX hb)
  have hac : ancC N l r = l[cutF (neA r ld) l]? := by unfold ancC; rw [hld]; exact atC_cut r ld
  have HAC := Lib.hid hac
  have HGET : Hid (∀ (i : Nat) (x : CrtD), l[i]? = some x → ∃ (b off : Nat) (a : CrtA), o.A = some ⟨b, off, none⟩ ∧ b < w.heap.size ∧ CrtFit x ∧ ∀ wX, Below w.heap.size w wX → CrtAt wX b off i x a) := fun i x hx => h.get hx
  have HLEN := Lib.hid h.len
  have hfew := h.few
  clear hg hw1 hb1 hsz hx0 h hm
  clear hld hr hac
  obtain ⟨at_, hat⟩ : ∃ z, idxF (neA r ld) l = z := ⟨_, rfl⟩
  rw [hat] at HAT
  have HAE := Lib.hid hat
  clear hat
  unfold dagV at HAT ⊢
  go_enter Try.func27, Try.ntmps27
  go_upto_region 1 with fail
  rw [HG.out, HW.out]
  have p0 : ∀ z : Calm w1, z.val.cell? ⟨g, 0, none⟩ = some (.int .i64 N) := fun z => (HD.out z.val ((Below.refl w1.heap.size w1).trans (z.ok.mono (Below.refl w1.heap.size w1).size))).1
  have p1 : ∀ z : Calm w1, z.val.cell? ⟨g, 1, none⟩ = some (.int .i64 L) := fun z => (HD.out z.val ((Below.refl w1.heap.size w1).trans (z.ok.mono (Below.refl w1.heap.size w1).size))).2.1
  have p2 : ∀ z : Calm w1, z.val.cell? ⟨g, 2, none⟩ = some (.slice o.A o.n o.c) := fun z => (HD.out z.val ((Below.refl w1.heap.size w1).trans (z.ok.mono (Below.refl w1.heap.size w1).size))).2.2
  refine wp_region_calm (by kernel_rfl) (by kernel_rfl) ?_
  repeat (go_big_quiet_step (first
    | (go_at_call 64; exact calm_same (HL.out _))
    | (go_at_call 45; exact calm_tells (HAT.out _ (HB.out.trans ((Calm.ok _).mono (Nat.le_of_lt hgs)))))))
  refine wpQuiet_nil ?_
  rintro _ ⟨z, rfl⟩
  obtain ⟨w3, hwz⟩ : ∃ wz, wz = z.val := ⟨_, rfl⟩
  have hb3 : Below w1.heap.size w1 w3 := by rw [hwz]; exact z.ok
  rw [← hwz]
  clear hwz z p0 p1 p2 d0 d1 d2
  obtain ⟨e0, e1, e2⟩ := HD.out w3 hb3
  have hb13 : Below g w w3 := HB.out.trans (hb3.mono (Nat.le_of_lt hgs))
  cases hx : l[cutF (neA r ld) l]? with
  | none =>
    have HN : Hid (ancN N l r = 0) := ancN_none (by rw [HAC.out]; exact hx)
    have hneg : at_ < 0 := by rw [← HAE.out]; exact idxF_neg.2 hx
    clear hx
    go_wp2_with fail
    go_ret
    exact ⟨by rw [HN.out]; rfl, by rw [HG.out]; exact hb13⟩
  | some x =>
    have HN : Hid (ancN N l r = x.d) := ancN_some (by rw [HAC.out]; exact hx)
    have hk := (idxF_pos hx).1
    have hkl := (List.getElem?_eq_some_iff.1 hx).1
    obtain ⟨k, hkk⟩ : ∃ k, k = cutF (neA r ld) l := ⟨_, rfl⟩
    rw [← hkk] at hk hkl hx
    rw [HAE.out] at hk
    subst hk
    rw [HLEN.out] at hkl
    obtain ⟨b, off, a, hA, hbl, -, hce⟩ := HGET.out k x hx
    obtain ⟨k0, k1, k2, k3, k4, k5, -⟩ := hce w3 (by rw [HG.out]; exact hb13)
    have j0 : ¬ ((k : Int) < 0) := by omega
    have i0 : (0 : Int) ≤ (k : Int) := by omega
    have i1 : (k : Int) < (o.n : Int) := by omega
    obtain ⟨A, n, c⟩ := o
    dsimp only at hA e2 hfew i1 ⊢
    subst hA
    clear hx hkk hce hkl
    go_wp2_with fail
    go_ret
    exact ⟨by rw [HN.out]; rfl, by rw [HG.out]; exact hb13⟩
set_option maxRecDepth 100000 in
set_option maxHeartbeats 8000000 in
theorem rVotes_is (N L r : Int) (o : Ad) (l : List CrtD) (w : World) (h : GIn w o l) (hm : MayG N L l) (hr : evn r = true) :
    Calls Try.prog 31 #[dagV N L o, .int .i64 r] w (Tells w.heap.size w (.int .i64 (votC N l r))) := by
  obtain ⟨g, hg⟩ : ∃ g, g = w.heap.size := ⟨_, rfl⟩
  obtain ⟨w1, hw1⟩ : ∃ w1, w1 = w.alloc (.cells (dagC N L o).toArray 24) := ⟨_, rfl⟩
  obtain ⟨hb1, hsz, hx0⟩ := boxes1 w _ _ hw1
  rw [← hg] at hb1 hsz hx0
  have HG : Hid (w.heap.size = g) := hg.symm
  have HW : Hid (w.alloc (.cells #[.int .i64 N, .int .i64 L, .slice o.A o.n o.c] 24) = w1) := hw1.symm
  have HIN : Hid (∀ wX, Below g w wX → GIn wX o l) := fun wX hb => h.below (by rw [← hg]; exact hb)
  have HB := Lib.hid hb1
  have HX0 := Lib.hid hx0
  have HD : Hid (∀ wX, Below w1.heap.size w1 wX → wX.cell? ⟨g, 0, none⟩ = some (.int .i64 N) ∧ wX.cell? ⟨g, 1, none⟩ = some (.int .i64 L) ∧ wX.cell? ⟨g, 2, none⟩ = some (.slice o.A o.n o.c)) := fun wX hb => dag_cells (HX0.out.below hb HX0.out.1)
  have hgs := hx0.1
  obtain ⟨d0, d1, d2⟩ := dag_cells hx0
  have HC := Lib.hid (rAnchor_is N L r o l w1 (HIN.out _ hb1) hm.n hr)
  obtain ⟨hr1, hr2, -⟩ := evn_yes hr
  have HGET : Hid (∀ (i : Nat) (x : CrtD), l[i]? = some x → ∃ (b off : Nat) (a : CrtA), o.A = some ⟨b, off, none⟩ ∧ b < w.heap.size ∧ CrtFit x ∧ ∀ wX, Below w.heap.size w wX → CrtAt wX b off i x a) := fun i x hx => h.get hx
  have HLEN := Lib.hid h.len
  have hfew := h.few
  have HPOS : Hid (∀ x, ancC N l r = some x → 1 ≤ x.d) := fun x hx => (ancC_pos hm hx).1
  clear hg hw1 hb1 hsz hx0 h hm
  clear hr
  have hwr : IntKind.i64.wrap (r + 1) = r + 1 := IntWalk.i64_in _ (by omega)
  obtain ⟨A, n, c⟩ := o
  dsimp only at d2 HD HGET HLEN hfew HC
  unfold dagV at HC ⊢
  cases hac : ancC N l r with
  | none =>
    rw [ancN_none hac] at HC
    have HV : Hid (votC N l r = 0) := votC_none hac
    clear hac
    dsimp only
    go_enter Try.func31, Try.ntmps31
    go_upto_region 1 with fail
    rw [HG.out, HW.out]
    go_wp2_with (go_at_call 27; refine HC.out.mono ?_; rintro e w2 ⟨rfl, hb2⟩; obtain ⟨e0, e1, e2⟩ := HD.out w2 hb2)
    go_loopw [7, 6] (fun i v wr => i = .int .i64 0 ∧ v = .int .i64 0 ∧ wr = w2) (fun _ _ _ => 0)
    case atStart => exact ⟨rfl, rfl, rfl⟩
    case round =>
      obtain ⟨rfl, rfl, rfl⟩ := hrel
      by_cases hn : (0 : Int) < (n : Int)
      · go_wp2_with fail
        go_ret
        exact ⟨by rw [HV.out]; rfl, by rw [HG.out]; exact HB.out.trans (hb2.mono (Nat.le_of_lt hgs))⟩
      · go_wp2_with fail
        go_ret
        exact ⟨by rw [HV.out]; rfl, by rw [HG.out]; exact HB.out.trans (hb2.mono (Nat.le_of_lt hgs))⟩
  | some z =>
    rw [ancN_some hac] at HC
    have hpos := HPOS.out z hac
    have HV : Hid (votC N l r = (((inR l (r + 1)).filter fun y => inB y.P z.d).length : Nat)) := votC_some hac
    obtain ⟨p, hp⟩ : ∃ p, p = z.d := ⟨_, rfl⟩
    rw [← hp] at HV HC hpos
    have hppos : (0 : Int) < p := by omega
    clear hac hp hpos
    have HFF : Hid ((inR l (r + 1)).filter (fun y => inB y.P p) = l.filter fun y => inB y.P p && decide (y.r = r + 1)) := by
      show _ = _
      unfold inR
      rw [List.filter_filter]
    rw [HFF.out] at HV
    dsimp only
    go_enter Try.func31, Try.ntmps31
    go_upto_region 1 with fail
    rw [HG.out, HW.out]
    go_wp2_with (go_at_call 27; refine HC.out.mono ?_; rintro e w2 ⟨rfl, hb2⟩)
    have HB2 : Hid (Below g w w2) := HB.out.trans (hb2.mono (Nat.le_of_lt hgs))
    have HD2 : Hid (_ ∧ _ ∧ _) := HD.out w2 hb2
    clear d0 d1 d2 hb2
    go_loopw [7, 6] (fun i v wr => ∃ t c : Nat, i = .int .i64 t ∧ v = .int .i64 c ∧ t ≤ n ∧ c ≤ t ∧ Hid (c = ((l.take t).filter fun y => inB y.P p && decide (y.r = r + 1)).length) ∧ wr = w2) (fun i _ _ => n - (intOf i).toNat)
    case atStart => exact ⟨0, 0, rfl, rfl, Nat.zero_le _, Nat.le_refl _, rfl, rfl⟩
    case round =>
      obtain ⟨t, k, rfl, rfl, ht, hct, HCT, rfl⟩ := hrel
      obtain ⟨e0, e1, e2⟩ := HD2.out
      by_cases hlt : t < n
      · obtain ⟨x, hx⟩ : ∃ x, l[t]? = some x := ⟨_, List.getElem?_eq_getElem (by rw [HLEN.out]; exact hlt)⟩
        obtain ⟨b, off, a', rfl, hbl, hfx, hce⟩ := HGET.out t x hx
        obtain ⟨k0, k1, k2, k3, k4, k5, hin⟩ := hce _ (by rw [HG.out]; exact HB2.out)
        have HIX := Lib.hid (inA_is p a'.P x.P _ hin.p.len hin.p.rd (by have := hfx.lP; have := hin.p.len; omega))
        have HNX : Hid (((l.take (t + 1)).filter fun y => inB y.P p && decide (y.r = r + 1)).length = k + (if (inB x.P p && decide (x.r = r + 1)) = true then 1 else 0)) := by show _ = _; rw [take_filterA (f := fun y => inB y.P p && decide (y.r = r + 1)) hx, ← HCT.out]
        have i0 : (0 : Int) ≤ (t : Int) := by omega
        have i1 : (t : Int) < (n : Int) := by omega
        clear hx hce hin
        by_cases hxr : x.r = r + 1
        · have j1 : (x.r == r + 1) = true := by simp [hxr]
          obtain ⟨bq, hbq⟩ : ∃ bq, inB x.P p = bq := ⟨_, rfl⟩
          rw [hbq] at HIX
          cases bq
          · have HN0 : Hid (((l.take (t + 1)).filter fun y => inB y.P p && decide (y.r = r + 1)).length = k) := by show _ = _; rw [HNX.out, hbq]; rfl
            clear hbq hxr HNX
            go_wp2_with (go_at_call 40; refine HIX.out.mono ?_; rintro e w6 ⟨zz, rfl, hzz, rfl⟩; have jz : ¬ ((0 : Int) ≤ zz) := of_decide_eq_false hzz)
            go_roundw
            case rel => exact ⟨t + 1, k, by go_num, rfl, hlt, by omega, HN0.out.symm, trivial⟩
            case measure => simp [intOf]; omega
          · have HN0 : Hid (((l.take (t + 1)).filter fun y => inB y.P p && decide (y.r = r + 1)).length = k + 1) := by show _ = _; rw [HNX.out, hbq]; simp [hxr]
            clear hbq hxr HNX
            go_wp2_with (go_at_call 40; refine HIX.out.mono ?_; rintro e w6 ⟨zz, rfl, hzz, rfl⟩; have jz : (0 : Int) ≤ zz := of_decide_eq_true hzz)
            go_roundw
            case rel => exact ⟨t + 1, k + 1, by go_num, by go_num, hlt, by omega, HN0.out.symm, trivial⟩
            case measure => simp [intOf]; omega
        · have j1 : (x.r == r + 1) = false := by simp [hxr]
          have HN0 : Hid (((l.take (t + 1)).filter fun y => inB y.P p && decide (y.r = r + 1)).length = k) := by show _ = _; rw [HNX.out]; simp [hxr]
          clear hxr HNX
          go_wp2_with fail
          go_roundw
          case rel => exact ⟨t + 1, k, by go_num, rfl, hlt, by omega, HN0.out.symm, trivial⟩
          case measure => simp [intOf]; omega
      · obtain rfl : t = n := by omega
        have i1 : ¬ ((t : Int) < (t : Int)) := by omega
        have HV2 : Hid (votC N l r = k) := by
          show _ = _
          rw [HV.out, HCT.out, List.take_of_length_le (by rw [HLEN.out]; exact Nat.le_refl _)]
        clear hlt
        go_wp2_with fail
        go_ret
        exact ⟨by rw [HV2.out]; rfl, by rw [HG.out]; exact HB2.out⟩
set_option maxRecDepth 100000 in
set_option maxHeartbeats 8000000 in
theorem rDirect_is (N L r : Int) (o : Ad) (l : List CrtD) (w : World) (h : GIn w o l) (hm : MayG N L l) (hr : evn r = true) :
    Calls Try.prog 32 #[dagV N L o, .int .i64 r] w (Tells w.heap.size w (.bool (dirC N l r))) := by
  obtain ⟨g, hg⟩ : ∃ g, g = w.heap.size := ⟨_, rfl⟩
  obtain ⟨w1, hw1⟩ : ∃ w1, w1 = w.alloc (.cells (dagC N L o).toArray 24) := ⟨_, rfl⟩
  obtain ⟨hb1, hsz, hx0⟩ := boxes1 w _ _ hw1
  rw [← hg] at hb1 hsz hx0
  have HG : Hid (w.heap.size = g) := hg.symm
  have HW : Hid (w.alloc (.cells #[.int .i64 N, .int .i64 L, .slice o.A o.n o.c] 24) = w1) := hw1.symm
  have HIN : Hid (∀ wX, Below g w wX → GIn wX o l) := fun wX hb => h.below (by rw [← hg]; exact hb)
  have HB := Lib.hid hb1
  have HX0 := Lib.hid hx0
  have HD : Hid (∀ wX, Below w1.heap.size w1 wX → wX.cell? ⟨g, 0, none⟩ = some (.int .i64 N) ∧ wX.cell? ⟨g, 1, none⟩ = some (.int .i64 L) ∧ wX.cell? ⟨g, 2, none⟩ = some (.slice o.A o.n o.c)) := fun wX hb => dag_cells (HX0.out.below hb HX0.out.1)
  have hgs := hx0.1
  obtain ⟨d0, d1, d2⟩ := dag_cells hx0
  have HC : Hid (∀ wX, Below g w wX → _) := fun wX hb => rAnchor_is N L r o l wX (HIN.out _ hb) hm.n hr
  have HVO : Hid (∀ wX, Below g w wX → _) := fun wX hb => rVotes_is N L r o l wX (HIN.out _ hb) hm hr
  have HFW : Hid (∀ wX, Calls Try.prog 67 #[.int .i64 N] wX fun e w' => e = .returned (.int .i64 (N / 3 + 1)) ∧ wX = w') := fun wX => rfew_yes N hm.n wX
  have hpos := (MayG.pos hm).1
  have HPOS : Hid (∀ x, ancC N l r = some x → 1 ≤ x.d) := fun x hx => (ancC_pos hm hx).1
  clear hg hw1 hb1 hsz hx0 h hm
  clear hr
  have HDC : Hid (dirC N l r = decide (N / 3 + 1 ≤ votC N l r)) := rfl
  obtain ⟨v, hv⟩ : ∃ v, votC N l r = v := ⟨_, rfl⟩
  obtain ⟨f, hf⟩ : ∃ f, N / 3 + 1 = f := ⟨_, rfl⟩
  have hfp : (0 : Int) < f := by omega
  rw [hv] at HVO HDC
  rw [hf] at HFW HDC
  unfold dagV at HC HVO ⊢
  cases hac : ancC N l r with
  | none =>
    have HD0 : Hid (dirC N l r = false) := by show _ = _; rw [HDC.out, ← hv, votC_none hac]; simp; omega
    rw [ancN_none hac] at HC
    clear hac hv hf
    go_enter Try.func32, Try.ntmps32
    go_upto_region 1 with fail
    rw [HG.out, HW.out]
    have p0 : ∀ z : Calm w1, z.val.cell? ⟨g, 0, none⟩ = some (.int .i64 N) := fun z => (HD.out z.val ((Below.refl w1.heap.size w1).trans (z.ok.mono (Below.refl w1.heap.size w1).size))).1
    have p1 : ∀ z : Calm w1, z.val.cell? ⟨g, 1, none⟩ = some (.int .i64 L) := fun z => (HD.out z.val ((Below.refl w1.heap.size w1).trans (z.ok.mono (Below.refl w1.heap.size w1).size))).2.1
    have p2 : ∀ z : Calm w1, z.val.cell? ⟨g, 2, none⟩ = some (.slice o.A o.n o.c) := fun z => (HD.out z.val ((Below.refl w1.heap.size w1).trans (z.ok.mono (Below.refl w1.heap.size w1).size))).2.2
    refine wp_region_calm (by kernel_rfl) (by kernel_rfl) ?_
    repeat (go_big_quiet_step (first
      | (go_at_call 27; exact calm_tells (HC.out _ (HB.out.trans ((Calm.ok _).mono (Nat.le_of_lt hgs)))))))
    refine wpQuiet_nil ?_
    rintro _ ⟨z, rfl⟩
    obtain ⟨w3, hwz⟩ : ∃ wz, wz = z.val := ⟨_, rfl⟩
    have hb3 : Below w1.heap.size w1 w3 := by rw [hwz]; exact z.ok
    rw [← hwz]
    clear hwz z p0 p1 p2 d0 d1 d2
    go_wp2_with fail
    go_ret
    exact ⟨by rw [HD0.out]; rfl, by rw [HG.out]; exact HB.out.trans (hb3.mono (Nat.le_of_lt hgs))⟩
  | some x =>
    have hxd := HPOS.out x hac
    rw [ancN_some hac] at HC
    obtain ⟨p, hp⟩ : ∃ p, p = x.d := ⟨_, rfl⟩
    rw [← hp] at HC hxd
    have hpp : (0 : Int) < p := by omega
    clear hac hv hf hp hxd
    go_enter Try.func32, Try.ntmps32
    go_upto_region 1 with fail
    rw [HG.out, HW.out]
    have p0 : ∀ z : Calm w1, z.val.cell? ⟨g, 0, none⟩ = some (.int .i64 N) := fun z => (HD.out z.val ((Below.refl w1.heap.size w1).trans (z.ok.mono (Below.refl w1.heap.size w1).size))).1
    have p1 : ∀ z : Calm w1, z.val.cell? ⟨g, 1, none⟩ = some (.int .i64 L) := fun z => (HD.out z.val ((Below.refl w1.heap.size w1).trans (z.ok.mono (Below.refl w1.heap.size w1).size))).2.1
    have p2 : ∀ z : Calm w1, z.val.cell? ⟨g, 2, none⟩ = some (.slice o.A o.n o.c) := fun z => (HD.out z.val ((Below.refl w1.heap.size w1).trans (z.ok.mono (Below.refl w1.heap.size w1).size))).2.2
    refine wp_region_calm (by kernel_rfl) (by kernel_rfl) ?_
    repeat (go_big_quiet_step (first
      | (go_at_call 27; exact calm_tells (HC.out _ (HB.out.trans ((Calm.ok _).mono (Nat.le_of_lt hgs)))))
      | (go_at_call 31; exact calm_tells (HVO.out _ (HB.out.trans ((Calm.ok _).mono (Nat.le_of_lt hgs)))))
      | (go_at_call 67; exact calm_same (HFW.out _))))
    refine wpQuiet_nil ?_
    rintro _ ⟨z, rfl⟩
    obtain ⟨w3, hwz⟩ : ∃ wz, wz = z.val := ⟨_, rfl⟩
    have hb3 : Below w1.heap.size w1 w3 := by rw [hwz]; exact z.ok
    rw [← hwz]
    clear hwz z p0 p1 p2 d0 d1 d2
    go_wp2_with fail
    go_ret
    exact ⟨by rw [HDC.out]; rfl, by rw [HG.out]; exact HB.out.trans (hb3.mono (Nat.le_of_lt hgs))⟩

end Go.Proofs.Ytejkeccoialogaa
