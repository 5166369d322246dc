/-
  Searches of a row of certificates, one by one: the landed code's and the page's own.
-/
import Derived.Test.YtejkeccoialogaaYMem
import Derived.WalkSpells
import Derived.Test.YtejkeccoialogaaYSrch
namespace Go.Proofs.Ytejkeccoialogaa
open Go.RowKit

set_option maxRecDepth 100000 in
set_option maxHeartbeats 2000000 in
theorem findDigest_is (p : Int) (o : Ad) (l : List CrtD) (w : World) (h : GIn w o l) :
    Calls Try.prog 84 #[.slice o.A o.n o.c, .int .i64 p] w fun e w' => e = .returned (.int .i64 (idxF (neD p) l)) ∧ Below w.heap.size w w' := by
  have hlen := h.len
  have hn1 := h.few
  have hget : ∀ (i : Nat) (x : CrtD), l[i]? = some x → ∃ (b off : Nat) (a : CrtA), o.A = some ⟨b, off, none⟩ ∧ b < w.heap.size ∧ CrtFit x ∧ ∀ wX, Below w.heap.size w wX → CrtAt wX b off i x a := fun i x hx => h.get hx
  obtain ⟨A, n, c⟩ := o
  simp only at hlen hn1 hget
  have HL := Lib.hid hlen
  have HG := Lib.hid hget
  clear hlen hget h
  go_enter Try.func84, Try.ntmps84
  go_wp2
  go_loopw [8] (fun i wr => ∃ t : Nat, i = .int .i64 t ∧ t ≤ n ∧ Hid (∀ k y, k < t → l[k]? = some y → (neD p) y = true) ∧ wr = w) (fun i _ => n - (intOf i).toNat)
  case atStart => exact ⟨0, rfl, by omega, fun k y h => by omega, rfl⟩
  case round =>
    obtain ⟨t, rfl, htn, HT, rfl⟩ := hrel
    by_cases hlt : t < n
    · obtain ⟨x, hx⟩ : ∃ x, l[t]? = some x := ⟨_, List.getElem?_eq_getElem (by rw [HL.out]; omega)⟩
      obtain ⟨b, off, a, rfl, hbl, -, hce⟩ := HG.out _ _ hx
      obtain ⟨k0, k1, k2, k3, k4, k5, -⟩ := hce _ (Below.refl _ _)
      have HX := Lib.hid hx
      have i0 : (0 : Int) ≤ (t : Int) := by omega
      have i1 : (t : Int) < (n : Int) := by omega
      clear hx hce
      by_cases hd : x.d = p
      · have HEQ : Hid (neD p x = false) := by show _ = _; simp [neD, hd]
        have j1 : (x.d == p) = true := by simp [hd]
        have HD := Lib.hid hd
        clear hd
        have HN : Hid (idxF (neD p) l = t) := idxF_at HX.out HEQ.out HT.out
        go_wp2_with fail
        go_ret
        exact ⟨by rw [HN.out]; rfl, Below.refl _ _⟩
      · have HNE : Hid (neD p x = true) := by show _ = _; simp [neD, hd]
        have j1 : (x.d == p) = false := by simp [hd]
        clear hd
        go_wp2_with fail
        go_roundw
        case rel =>
          refine ⟨t + 1, by go_num, by omega, fun k y h1 hy => ?_, trivial⟩
          rcases Nat.lt_or_ge k t with h3 | h3
          · exact HT.out k y h3 hy
          · have : k = t := by omega
            subst this
            rw [HX.out] at hy
            cases hy
            exact HNE.out
        case measure => simp [intOf]; omega
    · obtain rfl : t = n := by omega
      have i1 : ¬ ((t : Int) < (t : Int)) := by omega
      have HN : Hid (idxF (neD p) l = -1) := idxF_none fun k y hy => HT.out k y (by have := (List.getElem?_eq_some_iff.1 hy).1; have := HL.out; omega) hy
      clear hlt
      go_wp2_with fail
      go_ret
      exact ⟨by rw [HN.out]; rfl, (Below.refl _ _)⟩

set_option maxRecDepth 100000 in
set_option maxHeartbeats 2000000 in
theorem rFind_is (N L p : Int) (o : Ad) (l : List CrtD) (w : World) (h : GIn w o l) :
    Calls Try.prog 41 #[dagV N L o, .int .i64 p] w fun e w' => e = .returned (.int .i64 (idxF (neD p) l)) ∧ Below w.heap.size w w' := by
  have hlen := h.len
  have hn1 := h.few
  have hget : ∀ (i : Nat) (x : CrtD), l[i]? = some x → ∃ (b off : Nat) (a : CrtA), o.A = some ⟨b, off, none⟩ ∧ b < w.heap.size ∧ CrtFit x ∧ ∀ wX, Below w.heap.size w wX → CrtAt wX b off i x a := fun i x hx => h.get hx
  obtain ⟨A, n, c⟩ := o
  simp only at hlen hn1 hget
  have HL := Lib.hid hlen
  have HG := Lib.hid hget
  clear hlen hget h
  obtain ⟨w1, hw1⟩ : ∃ w1, w1 = w.alloc (.cells (dagC N L ⟨A, n, c⟩).toArray 24) := ⟨_, rfl⟩
  have hb1 : Below w.heap.size w w1 := by rw [hw1]; exact (Below.refl _ _).alloc (Nat.le_refl _) _
  have hbx : Box w1 w.heap.size (dagC N L ⟨A, n, c⟩) := by rw [hw1]; exact box_new _ _ _
  have HBX := Lib.hid hbx
  have HW : Hid (w1 = w.alloc (.cells #[.int .i64 N, .int .i64 L, .slice A n c] 24)) := hw1
  have HB := Lib.hid hb1
  clear hw1 hb1 hbx
  unfold dagV
  go_enter Try.func41, Try.ntmps41
  go_upto_region 1 with fail
  rw [← HW.out]
  go_wp2_with fail
  go_loopw [5] (fun i wr => ∃ t : Nat, i = .int .i64 t ∧ t ≤ n ∧ Hid (∀ k y, k < t → l[k]? = some y → (neD p) y = true) ∧ wr = w1) (fun i _ => n - (intOf i).toNat)
  case atStart => exact ⟨0, rfl, by omega, fun k y h => by omega, rfl⟩
  case round =>
    obtain ⟨t, rfl, htn, HT, rfl⟩ := hrel
    obtain ⟨d0, d1, d2⟩ := dag_cells HBX.out
    by_cases hlt : t < n
    · obtain ⟨x, hx⟩ : ∃ x, l[t]? = some x := ⟨_, List.getElem?_eq_getElem (by rw [HL.out]; omega)⟩
      obtain ⟨b, off, a, rfl, hbl, -, hce⟩ := HG.out _ _ hx
      obtain ⟨k0, k1, k2, k3, k4, k5, -⟩ := hce _ HB.out
      have HX := Lib.hid hx
      have i0 : (0 : Int) ≤ (t : Int) := by omega
      have i1 : (t : Int) < (n : Int) := by omega
      clear hx hce
      by_cases hd : x.d = p
      · have HEQ : Hid (neD p x = false) := by show _ = _; simp [neD, hd]
        have j1 : (x.d == p) = true := by simp [hd]
        have HD := Lib.hid hd
        clear hd
        have HN : Hid (idxF (neD p) l = t) := idxF_at HX.out HEQ.out HT.out
        go_wp2_with fail
        go_ret
        exact ⟨by rw [HN.out]; rfl, HB.out⟩
      · have HNE : Hid (neD p x = true) := by show _ = _; simp [neD, hd]
        have j1 : (x.d == p) = false := by simp [hd]
        clear hd
        go_wp2_with fail
        go_roundw
        case rel =>
          refine ⟨t + 1, by go_num, by omega, fun k y h1 hy => ?_, trivial⟩
          rcases Nat.lt_or_ge k t with h3 | h3
          · exact HT.out k y h3 hy
          · have : k = t := by omega
            subst this
            rw [HX.out] at hy
            cases hy
            exact HNE.out
        case measure => simp [intOf]; omega
    · obtain rfl : t = n := by omega
      have i1 : ¬ ((t : Int) < (t : Int)) := by omega
      have HN : Hid (idxF (neD p) l = -1) := idxF_none fun k y hy => HT.out k y (by have := (List.getElem?_eq_some_iff.1 hy).1; have := HL.out; omega) hy
      clear hlt
      go_wp2_with fail
      go_ret
      exact ⟨by rw [HN.out]; rfl, HB.out⟩

set_option maxRecDepth 100000 in
set_option maxHeartbeats 2000000 in
theorem rAt_is (N L R C : Int) (o : Ad) (l : List CrtD) (w : World) (h : GIn w o l) :
    Calls Try.prog 45 #[dagV N L o, .int .i64 R, .int .i64 C] w fun e w' => e = .returned (.int .i64 (idxF (neA R C) l)) ∧ Below w.heap.size w w' := by
  have hlen := h.len
  have hn1 := h.few
  have hget : ∀ (i : Nat) (x : CrtD), l[i]? = some x → ∃ (b off : Nat) (a : CrtA), o.A = some ⟨b, off, none⟩ ∧ b < w.heap.size ∧ CrtFit x ∧ ∀ wX, Below w.heap.size w wX → CrtAt wX b off i x a := fun i x hx => h.get hx
  obtain ⟨A, n, c⟩ := o
  simp only at hlen hn1 hget
  have HL := Lib.hid hlen
  have HG := Lib.hid hget
  clear hlen hget h
  obtain ⟨w1, hw1⟩ : ∃ w1, w1 = w.alloc (.cells (dagC N L ⟨A, n, c⟩).toArray 24) := ⟨_, rfl⟩
  have hb1 : Below w.heap.size w w1 := by rw [hw1]; exact (Below.refl _ _).alloc (Nat.le_refl _) _
  have hbx : Box w1 w.heap.size (dagC N L ⟨A, n, c⟩) := by rw [hw1]; exact box_new _ _ _
  have HBX := Lib.hid hbx
  have HW : Hid (w1 = w.alloc (.cells #[.int .i64 N, .int .i64 L, .slice A n c] 24)) := hw1
  have HB := Lib.hid hb1
  clear hw1 hb1 hbx
  unfold dagV
  go_enter Try.func45, Try.ntmps45
  go_upto_region 1 with fail
  rw [← HW.out]
  go_wp2_with fail
  go_loopw [7] (fun i wr => ∃ t : Nat, i = .int .i64 t ∧ t ≤ n ∧ Hid (∀ k y, k < t → l[k]? = some y → (neA R C) y = true) ∧ wr = w1) (fun i _ => n - (intOf i).toNat)
  case atStart => exact ⟨0, rfl, by omega, fun k y h => by omega, rfl⟩
  case round =>
    obtain ⟨t, rfl, htn, HT, rfl⟩ := hrel
    obtain ⟨d0, d1, d2⟩ := dag_cells HBX.out
    by_cases hlt : t < n
    · obtain ⟨x, hx⟩ : ∃ x, l[t]? = some x := ⟨_, List.getElem?_eq_getElem (by rw [HL.out]; omega)⟩
      obtain ⟨b, off, a, rfl, hbl, -, hce⟩ := HG.out _ _ hx
      obtain ⟨k0, k1, k2, k3, k4, k5, -⟩ := hce _ HB.out
      have HX := Lib.hid hx
      have i0 : (0 : Int) ≤ (t : Int) := by omega
      have i1 : (t : Int) < (n : Int) := by omega
      clear hx hce
      by_cases hr : x.r = R
      · have j1 : (x.r == R) = true := by simp [hr]
        by_cases ha : x.a = C
        · have HEQ : Hid (neA R C x = false) := by show _ = _; simp [neA, hr, ha]
          have j2 : (x.a == C) = true := by simp [ha]
          clear hr ha
          have HN : Hid (idxF (neA R C) l = t) := idxF_at HX.out HEQ.out HT.out
          go_wp2_with fail
          go_ret
          exact ⟨by rw [HN.out]; rfl, HB.out⟩
        · have HNE : Hid (neA R C x = true) := by show _ = _; simp [neA, hr, ha]
          have j2 : (x.a == C) = false := by simp [ha]
          clear hr ha
          go_wp2_with fail
          go_roundw
          case rel =>
            refine ⟨t + 1, by go_num, by omega, fun k y h1 hy => ?_, trivial⟩
            rcases Nat.lt_or_ge k t with h3 | h3
            · exact HT.out k y h3 hy
            · have : k = t := by omega
              subst this
              rw [HX.out] at hy
              cases hy
              exact HNE.out
          case measure => simp [intOf]; omega
      · have HNE : Hid (neA R C x = true) := by show _ = _; simp [neA, hr]
        have j1 : (x.r == R) = false := by simp [hr]
        clear hr
        go_wp2_with fail
        go_roundw
        case rel =>
          refine ⟨t + 1, by go_num, by omega, fun k y h1 hy => ?_, trivial⟩
          rcases Nat.lt_or_ge k t with h3 | h3
          · exact HT.out k y h3 hy
          · have : k = t := by omega
            subst this
            rw [HX.out] at hy
            cases hy
            exact HNE.out
        case measure => simp [intOf]; omega
    · obtain rfl : t = n := by omega
      have i1 : ¬ ((t : Int) < (t : Int)) := by omega
      have HN : Hid (idxF (neA R C) l = -1) := idxF_none fun k y hy => HT.out k y (by have := (List.getElem?_eq_some_iff.1 hy).1; have := HL.out; omega) hy
      clear hlt
      go_wp2_with fail
      go_ret
      exact ⟨by rw [HN.out]; rfl, HB.out⟩

set_option maxHeartbeats 1000000 in
theorem hasDigest_is (p : Int) (o : Ad) (l : List CrtD) (w : World) (h : GIn w o l) :
    Calls Try.prog 53 #[.slice o.A o.n o.c, .int .i64 p] w fun e w' => e = .returned (.bool (hasDg l p)) ∧ Below w.heap.size w w' := by
  have HF := Lib.hid (findDigest_is p o l w h)
  have hd := hasDg_idx (l := l) p
  rw [idxD] at hd
  have HD := Lib.hid hd
  clear h hd
  obtain ⟨z, hz⟩ : ∃ z, z = idxF (neD p) l := ⟨_, rfl⟩
  rw [← hz] at HF HD
  clear hz
  go_enter Try.func53, Try.ntmps53
  go_wp2_with (go_at_call 84; refine HF.out.mono ?_; rintro e w' ⟨rfl, hb⟩)
  go_ret
  exact ⟨by rw [HD.out]; rfl, hb⟩

end Go.Proofs.Ytejkeccoialogaa
/-
  Package dag's missing: which parents are not there.
-/
namespace Go.Proofs.Ytejkeccoialogaa
open Go.RowKit

theorem filter_next {f : Int → Bool} {l : List Int} {k : Nat} {p : Int} (h : l[k]? = some p) : (l.take (k + 1)).filter f = (l.take k).filter f ++ (if f p then [p] else []) := by
  rw [List.take_add_one, h, List.filter_append]
  cases hf : f p <;> simp [hf]
/-- new numbers -/
def NewI (z : List Int) (w : World) (en : Ending) (w' : World) : Prop := ∃ o' : Ad, en = .returned (.slice o'.A o'.n o'.c) ∧ w'.ownsRow w.heap.size 3 1 o'.v o'.n (i64s z) ∧ z.length = o'.n ∧ Below w.heap.size w w'
theorem newI_of {z : List Int} {w w' : World} {v : Value} {q : Nat} (h : w'.ownsRow w.heap.size 3 1 v q (i64s z)) (hq : q = z.length) (hb : Below w.heap.size w w') : NewI z w (.returned v) w' := by
  obtain ⟨A, c, rfl, _⟩ := own_val h
  exact ⟨⟨A, q, c⟩, rfl, h, hq.symm, hb⟩
theorem newI_nil (w w' : World) (hb : Below w.heap.size w w') : NewI [] w (.returned (.slice none 0 0)) w' := newI_of (World.ownsRow_nil _ _ _ _) rfl hb

set_option maxRecDepth 100000 in
set_option maxHeartbeats 4000000 in
theorem missing_is (N L : Int) (o : Ad) (l : List CrtD) (x : CrtD) (a : CrtA) (w : World) (h : GIn w o l) (ha : AscC l) (hi : CIn w x a) (hf : CrtFit x) (hL : 0 ≤ L ∧ L ≤ 1099511627776) (hr : 0 ≤ x.r ∧ x.r ≤ 1099511627776) :
    Calls Try.prog 54 #[dagV N L o, crtV x a] w (NewI (lacksC L l x) w) := by
  obtain ⟨w1, hw1⟩ : ∃ w1, w1 = (w.alloc (.cells #[.int .i64 N, .int .i64 L, .slice o.A o.n o.c] 24)).alloc (.cells #[.int .i64 x.a, .int .i64 x.r, .slice a.B.A a.B.n a.B.c, .slice a.P.A a.P.n a.P.c, .int .i64 x.d, .slice a.S.A a.S.n a.S.c] 37) := ⟨_, rfl⟩
  obtain ⟨hb1, hsz, hD1, hC1⟩ := two_new w N L o x a _ _ hw1
  have HW := Lib.hid hw1
  have HD := Lib.hid hD1
  have HE := Lib.hid hC1
  have HZ := Lib.hid hsz
  have HB := Lib.hid hb1
  have HH := Lib.hid h
  have HA := Lib.hid ha
  have HI := Lib.hid hi
  have hlP := hf.lP
  have hnP := hi.p.len
  have hcP := hi.p.cap
  clear hw1 hb1 h ha hi hf
  obtain ⟨d0, d1, d2⟩ := dag_cells hD1
  obtain ⟨c0, c1, c2, c3, c4, c5⟩ := crt_cells hC1
  by_cases h1 : x.r = L + 1
  · have HN : Hid (lacksC L l x = []) := by show _ = _; rw [lacksC, if_pos h1]
    have j1 : (x.r == L + 1) = true := by simp [h1]
    clear h1 hD1 hC1 hsz
    unfold dagV crtV
    go_enter Try.func54, Try.ntmps54
    go_upto_region 1 with fail
    rw [← HW.out]
    go_wp2_with fail
    go_ret
    rw [HN.out]
    exact newI_nil _ _ HB.out
  · have HN : Hid (lacksC L l x = x.P.filter fun p => !hasDg (inR l (x.r - 1)) p) := by show _ = _; rw [lacksC, if_neg h1]
    have j1 : (x.r == L + 1) = false := by simp [h1]
    obtain ⟨ms, hrow, hml⟩ := HH.out
    have HR := Lib.hid (inRound_is N L (x.r - 1) o ms l w1 (hrow.below HB.out) hml HA.out)
    clear h1 hrow hml hD1 hC1 hsz
    obtain ⟨f, hff⟩ : ∃ f : Int → Bool, f = fun p => !hasDg (inR l (x.r - 1)) p := ⟨_, rfl⟩
    have HFF : Hid (∀ p, f p = !hasDg (inR l (x.r - 1)) p) := fun p => by rw [hff]
    rw [← hff] at HN
    clear hff
    obtain ⟨pn, hpn⟩ : ∃ pn, pn = a.P.n := ⟨_, rfl⟩
    obtain ⟨PA, hPA⟩ : ∃ PA, PA = a.P.A := ⟨_, rfl⟩
    have HPR : Hid (∀ wX, Below w.heap.size w wX → Rd wX PA (i64s x.P)) := fun wX hb => by rw [hPA]; exact (HI.out.below hb).p.rd
    have HPL : Hid (x.P.length = pn) := by show _ = _; rw [hpn]; exact hnP
    have hpl : pn ≤ 100000 := by omega
    rw [← hPA, ← hpn] at c3
    have HP3 : Hid (∀ wX, Below w1.heap.size w1 wX → wX.cell? ⟨w.heap.size + 1, 3, none⟩ = some (.slice PA pn a.P.c)) := fun wX hb => by
      rw [hPA, hpn]
      have := HZ.out
      exact (crt_cells (HE.out.below hb (by omega))).2.2.2.1
    clear hnP hcP hlP hpn hPA
    unfold dagV crtV
    unfold dagV at HR
    go_enter Try.func54, Try.ntmps54
    go_upto_region 1 with fail
    rw [← HW.out]
    go_upto_region 4 with (go_at_call 85; refine HR.out.mono ?_; rintro e w2 ⟨⟨A2, n2, cq⟩, ms2, rfl, hrow2, hml2, hb2⟩)
    have HG2 : Hid (GIn w2 ⟨A2, n2, cq⟩ (inR l (x.r - 1))) := ⟨ms2, hrow2.below hb2, hml2⟩
    have k3 := HP3.out _ hb2
    have hbw2 := HB.out.trans (hb2.mono HB.out.size)
    clear hrow2 hml2 d0 d1 d2 c0 c1 c2 c3 c4 c5 HR
    go_wp2_with fail
    go_loopw [6, 26] (fun v i wr => ∃ k q : Nat, i = .int .i64 k ∧ k ≤ pn ∧ q ≤ k ∧ Hid (wr.ownsRow w2.heap.size 3 1 v q (i64s ((x.P.take k).filter f)) ∧ q = ((x.P.take k).filter f).length) ∧ Hid (Below w2.heap.size w2 wr)) (fun _ i _ => pn - (intOf i).toNat)
    case atStart => exact ⟨0, 0, rfl, by omega, by omega, ⟨by rw [List.take_zero]; exact World.ownsRow_nil _ _ _ _, by simp⟩, Below.refl _ _⟩
    case round =>
      clear k3
      obtain ⟨k, q, rfl, hk, hqk, HO, HBR⟩ := hrel
      have hbr := hbw2.trans (HBR.out.mono hbw2.size)
      by_cases hlt : k < pn
      · obtain ⟨p, hp⟩ : ∃ p, x.P[k]? = some p := ⟨_, List.getElem?_eq_getElem (by rw [HPL.out]; exact hlt)⟩
        obtain ⟨b, off, rfl, hbl, hcell⟩ := (HPR.out _ hbr).open_ (by rw [i64s_length, HPL.out]; omega)
        have hc1 := hcell k (.int .i64 p) (by simp [i64s, hp])
        have HX := Lib.hid (filter_next (f := f) hp)
        have HG3 := Lib.hid (hasDigest_is p ⟨A2, n2, cq⟩ (inR l (x.r - 1)) wr (HG2.out.below HBR.out))
        have hfp := HFF.out p
        clear hcell hp
        have i0 : (0 : Int) ≤ (k : Int) := by omega
        have i1 : (k : Int) < (pn : Int) := by omega
        cases hh : hasDg (inR l (x.r - 1)) p with
        | true =>
          rw [hh] at hfp HG3
          have HT : Hid ((x.P.take (k + 1)).filter f = (x.P.take k).filter f) := by show _ = _; rw [HX.out, hfp]; simp
          clear hh hfp HX
          go_wp2_with (go_at_call 53; refine HG3.out.mono ?_; rintro e w3 ⟨rfl, hb3⟩)
          go_roundw
          case rel =>
            refine ⟨k + 1, q, by go_num, by omega, by omega, ?_, HBR.out.trans (hb3.mono HBR.out.size)⟩
            show _ ∧ _
            rw [HT.out]
            exact ⟨own_below HO.out.1 hb3, HO.out.2⟩
          case measure => simp [intOf]; omega
        | false =>
          rw [hh] at hfp HG3
          have HT : Hid ((x.P.take (k + 1)).filter f = (x.P.take k).filter f ++ [p]) := by show _ = _; rw [HX.out, hfp]; simp
          clear hh hfp HX
          go_upto_region 9 with (go_at_call 53; refine HG3.out.mono ?_; rintro e w3 ⟨rfl, hb3⟩)
          have hO3 := own_below HO.out.1 hb3
          have hbr3 := hbr.trans (hb3.mono hbr.size)
          go_wp2_with (at_builtin; refine wpList_app_one _ rfl _ _ 25 rfl w2.heap.size 3 (.int .i64 0) 8 Try.underlying25 info_i64 rfl (by decide) _ q _ rfl (hO3.alloc _) w3.heap.size (.int .i64 p) rfl (cell_new _ _ _) rfl (by omega) (by have := (HBR.out.trans (hb3.mono HBR.out.size)).size; simp; omega) ?_)
          intro v' w4 hown4 hb4
          have hown5 : w4.ownsRow w2.heap.size 3 1 v' (q + 1) (i64s ((x.P.take (k + 1)).filter f)) := by rw [HT.out, i64s_append]; exact hown4
          have hbw4 : Below w2.heap.size w2 w4 := by
            have h1 := HBR.out.trans (hb3.mono HBR.out.size)
            have h2 := h1.alloc h1.size (.cells #[.int .i64 p] 3)
            exact h2.trans hb4
          clear hown4 hO3
          go_wp2
          go_roundw
          case rel =>
            refine ⟨k + 1, q + 1, by go_num, by omega, by omega, ⟨hown5, ?_⟩, hbw4⟩
            rw [HT.out, List.length_append, ← HO.out.2]; rfl
          case measure => simp [intOf]; omega
      · obtain rfl : k = pn := by omega
        have i1 : ¬ ((k : Int) < (k : Int)) := by omega
        have HT : Hid (x.P.take k = x.P) := List.take_of_length_le (by rw [HPL.out]; exact Nat.le_refl _)
        have ho := HO.out
        rw [HT.out, ← HN.out] at ho
        have HO2 := Lib.hid ho
        clear hlt ho
        go_wp2_with fail
        go_ret
        exact newI_of (own_more HO2.out.1 hbw2.size) HO2.out.2 hbr

end Go.Proofs.Ytejkeccoialogaa
