/-
  Searches of a row of certificates, one by one: the landed code's and the page's own.
-/
import Derived.Test.YtlblhpbhcaljhaaYMem
import Derived.WalkSpells
namespace Go.Proofs.Ytlblhpbhcaljhaa
open Go.RowKit

set_option maxRecDepth 100000 in
set_option maxHeartbeats 2000000 in
theorem findDigest_is (p : Int) (o : Ad) (l : List CrtD) (w : World) (h : GIn w o l) :
    Calls Try.prog 67 #[.slice o.A o.n o.c, .int .i64 p] w fun e w' => e = .returned (.int .i64 (idxF (neD p) l)) ∧ Below w.heap.size w w' := by
  have hlen := h.len
  have hn1 := h.few
  have hget : ∀ (i : Nat) (x : CrtD), l[i]? = some x → ∃ (b off : Nat) (a : CrtA), o.A = some ⟨b, off, none⟩ ∧ b < w.heap.size ∧ CrtFit x ∧ ∀ wX, Below w.heap.size w wX → CrtAt wX b off i x a := fun i x hx => h.get hx
  obtain ⟨A, n, c⟩ := o
  simp only at hlen hn1 hget
  have HL := Lib.hid hlen
  have HG := Lib.hid hget
  clear hlen hget h
  go_enter Try.func67, Try.ntmps67
  go_wp2
  go_loopw [8] (fun i wr => ∃ t : Nat, i = .int .i64 t ∧ t ≤ n ∧ Hid (∀ k y, k < t → l[k]? = some y → (neD p) y = true) ∧ wr = w) (fun i _ => n - (intOf i).toNat)
  case atStart => exact ⟨0, rfl, by omega, fun k y h => by omega, rfl⟩
  case round =>
    obtain ⟨t, rfl, htn, HT, rfl⟩ := hrel
    by_cases hlt : t < n
    · obtain ⟨x, hx⟩ : ∃ x, l[t]? = some x := ⟨_, List.getElem?_eq_getElem (by rw [HL.out]; omega)⟩
      obtain ⟨b, off, a, rfl, hbl, -, hce⟩ := HG.out _ _ hx
      obtain ⟨k0, k1, k2, k3, k4, k5, -⟩ := hce _ (Below.refl _ _)
      have HX := Lib.hid hx
      have i0 : (0 : Int) ≤ (t : Int) := by omega
      have i1 : (t : Int) < (n : Int) := by omega
      clear hx hce
      by_cases hd : x.d = p
      · have HEQ : Hid (neD p x = false) := by show _ = _; simp [neD, hd]
        have j1 : (x.d == p) = true := by simp [hd]
        have HD := Lib.hid hd
        clear hd
        have HN : Hid (idxF (neD p) l = t) := idxF_at HX.out HEQ.out HT.out
        go_wp2_with fail
        go_ret
        exact ⟨by rw [HN.out]; rfl, Below.refl _ _⟩
      · have HNE : Hid (neD p x = true) := by show _ = _; simp [neD, hd]
        have j1 : (x.d == p) = false := by simp [hd]
        clear hd
        go_wp2_with fail
        go_roundw
        case rel =>
          refine ⟨t + 1, by go_num, by omega, fun k y h1 hy => ?_, trivial⟩
          rcases Nat.lt_or_ge k t with h3 | h3
          · exact HT.out k y h3 hy
          · have : k = t := by omega
            subst this
            rw [HX.out] at hy
            cases hy
            exact HNE.out
        case measure => simp [intOf]; omega
    · obtain rfl : t = n := by omega
      have i1 : ¬ ((t : Int) < (t : Int)) := by omega
      have HN : Hid (idxF (neD p) l = -1) := idxF_none fun k y hy => HT.out k y (by have := (List.getElem?_eq_some_iff.1 hy).1; have := HL.out; omega) hy
      clear hlt
      go_wp2_with fail
      go_ret
      exact ⟨by rw [HN.out]; rfl, (Below.refl _ _)⟩

set_option maxRecDepth 100000 in
set_option maxHeartbeats 2000000 in
theorem rFind_is (N L p : Int) (o : Ad) (l : List CrtD) (w : World) (h : GIn w o l) :
    Calls Try.prog 31 #[dagV N L o, .int .i64 p] w fun e w' => e = .returned (.int .i64 (idxF (neD p) l)) ∧ Below w.heap.size w w' := by
  have hlen := h.len
  have hn1 := h.few
  have hget : ∀ (i : Nat) (x : CrtD), l[i]? = some x → ∃ (b off : Nat) (a : CrtA), o.A = some ⟨b, off, none⟩ ∧ b < w.heap.size ∧ CrtFit x ∧ ∀ wX, Below w.heap.size w wX → CrtAt wX b off i x a := fun i x hx => h.get hx
  obtain ⟨A, n, c⟩ := o
  simp only at hlen hn1 hget
  have HL := Lib.hid hlen
  have HG := Lib.hid hget
  clear hlen hget h
  obtain ⟨w1, hw1⟩ : ∃ w1, w1 = w.alloc (.cells (dagC N L ⟨A, n, c⟩).toArray 24) := ⟨_, rfl⟩
  have hb1 : Below w.heap.size w w1 := by rw [hw1]; exact (Below.refl _ _).alloc (Nat.le_refl _) _
  have hbx : Box w1 w.heap.size (dagC N L ⟨A, n, c⟩) := by rw [hw1]; exact box_new _ _ _
  have HBX := Lib.hid hbx
  have HW : Hid (w1 = w.alloc (.cells #[.int .i64 N, .int .i64 L, .slice A n c] 24)) := hw1
  have HB := Lib.hid hb1
  clear hw1 hb1 hbx
  unfold dagV
  go_enter Try.func31, Try.ntmps31
  go_upto_region 1 with fail
  rw [← HW.out]
  go_wp2_with fail
  go_loopw [5] (fun i wr => ∃ t : Nat, i = .int .i64 t ∧ t ≤ n ∧ Hid (∀ k y, k < t → l[k]? = some y → (neD p) y = true) ∧ wr = w1) (fun i _ => n - (intOf i).toNat)
  case atStart => exact ⟨0, rfl, by omega, fun k y h => by omega, rfl⟩
  case round =>
    obtain ⟨t, rfl, htn, HT, rfl⟩ := hrel
    obtain ⟨d0, d1, d2⟩ := dag_cells HBX.out
    by_cases hlt : t < n
    · obtain ⟨x, hx⟩ : ∃ x, l[t]? = some x := ⟨_, List.getElem?_eq_getElem (by rw [HL.out]; omega)⟩
      obtain ⟨b, off, a, rfl, hbl, -, hce⟩ := HG.out _ _ hx
      obtain ⟨k0, k1, k2, k3, k4, k5, -⟩ := hce _ HB.out
      have HX := Lib.hid hx
      have i0 : (0 : Int) ≤ (t : Int) := by omega
      have i1 : (t : Int) < (n : Int) := by omega
      clear hx hce
      by_cases hd : x.d = p
      · have HEQ : Hid (neD p x = false) := by show _ = _; simp [neD, hd]
        have j1 : (x.d == p) = true := by simp [hd]
        have HD := Lib.hid hd
        clear hd
        have HN : Hid (idxF (neD p) l = t) := idxF_at HX.out HEQ.out HT.out
        go_wp2_with fail
        go_ret
        exact ⟨by rw [HN.out]; rfl, HB.out⟩
      · have HNE : Hid (neD p x = true) := by show _ = _; simp [neD, hd]
        have j1 : (x.d == p) = false := by simp [hd]
        clear hd
        go_wp2_with fail
        go_roundw
        case rel =>
          refine ⟨t + 1, by go_num, by omega, fun k y h1 hy => ?_, trivial⟩
          rcases Nat.lt_or_ge k t with h3 | h3
          · exact HT.out k y h3 hy
          · have : k = t := by omega
            subst this
            rw [HX.out] at hy
            cases hy
            exact HNE.out
        case measure => simp [intOf]; omega
    · obtain rfl : t = n := by omega
      have i1 : ¬ ((t : Int) < (t : Int)) := by omega
      have HN : Hid (idxF (neD p) l = -1) := idxF_none fun k y hy => HT.out k y (by have := (List.getElem?_eq_some_iff.1 hy).1; have := HL.out; omega) hy
      clear hlt
      go_wp2_with fail
      go_ret
      exact ⟨by rw [HN.out]; rfl, HB.out⟩

set_option maxRecDepth 100000 in
set_option maxHeartbeats 2000000 in
theorem rAt_is (N L R C : Int) (o : Ad) (l : List CrtD) (w : World) (h : GIn w o l) :
    Calls Try.prog 34 #[dagV N L o, .int .i64 R, .int .i64 C] w fun e w' => e = .returned (.int .i64 (idxF (neA R C) l)) ∧ Below w.heap.size w w' := by
  have hlen := h.len
  have hn1 := h.few
  have hget : ∀ (i : Nat) (x : CrtD), l[i]? = some x → ∃ (b off : Nat) (a : CrtA), o.A = some ⟨b, off, none⟩ ∧ b < w.heap.size ∧ CrtFit x ∧ ∀ wX, Below w.heap.size w wX → CrtAt wX b off i x a := fun i x hx => h.get hx
  obtain ⟨A, n, c⟩ := o
  simp only at hlen hn1 hget
  have HL := Lib.hid hlen
  have HG := Lib.hid hget
  clear hlen hget h
  obtain ⟨w1, hw1⟩ : ∃ w1, w1 = w.alloc (.cells (dagC N L ⟨A, n, c⟩).toArray 24) := ⟨_, rfl⟩
  have hb1 : Below w.heap.size w w1 := by rw [hw1]; exact (Below.refl _ _).alloc (Nat.le_refl _) _
  have hbx : Box w1 w.heap.size (dagC N L ⟨A, n, c⟩) := by rw [hw1]; exact box_new _ _ _
  have HBX := Lib.hid hbx
  have HW : Hid (w1 = w.alloc (.cells #[.int .i64 N, .int .i64 L, .slice A n c] 24)) := hw1
  have HB := Lib.hid hb1
  clear hw1 hb1 hbx
  unfold dagV
  go_enter Try.func34, Try.ntmps34
  go_upto_region 1 with fail
  rw [← HW.out]
  go_wp2_with fail
  go_loopw [7] (fun i wr => ∃ t : Nat, i = .int .i64 t ∧ t ≤ n ∧ Hid (∀ k y, k < t → l[k]? = some y → (neA R C) y = true) ∧ wr = w1) (fun i _ => n - (intOf i).toNat)
  case atStart => exact ⟨0, rfl, by omega, fun k y h => by omega, rfl⟩
  case round =>
    obtain ⟨t, rfl, htn, HT, rfl⟩ := hrel
    obtain ⟨d0, d1, d2⟩ := dag_cells HBX.out
    by_cases hlt : t < n
    · obtain ⟨x, hx⟩ : ∃ x, l[t]? = some x := ⟨_, List.getElem?_eq_getElem (by rw [HL.out]; omega)⟩
      obtain ⟨b, off, a, rfl, hbl, -, hce⟩ := HG.out _ _ hx
      obtain ⟨k0, k1, k2, k3, k4, k5, -⟩ := hce _ HB.out
      have HX := Lib.hid hx
      have i0 : (0 : Int) ≤ (t : Int) := by omega
      have i1 : (t : Int) < (n : Int) := by omega
      clear hx hce
      by_cases hr : x.r = R
      · have j1 : (x.r == R) = true := by simp [hr]
        by_cases ha : x.a = C
        · have HEQ : Hid (neA R C x = false) := by show _ = _; simp [neA, hr, ha]
          have j2 : (x.a == C) = true := by simp [ha]
          clear hr ha
          have HN : Hid (idxF (neA R C) l = t) := idxF_at HX.out HEQ.out HT.out
          go_wp2_with fail
          go_ret
          exact ⟨by rw [HN.out]; rfl, HB.out⟩
        · have HNE : Hid (neA R C x = true) := by show _ = _; simp [neA, hr, ha]
          have j2 : (x.a == C) = false := by simp [ha]
          clear hr ha
          go_wp2_with fail
          go_roundw
          case rel =>
            refine ⟨t + 1, by go_num, by omega, fun k y h1 hy => ?_, trivial⟩
            rcases Nat.lt_or_ge k t with h3 | h3
            · exact HT.out k y h3 hy
            · have : k = t := by omega
              subst this
              rw [HX.out] at hy
              cases hy
              exact HNE.out
          case measure => simp [intOf]; omega
      · have HNE : Hid (neA R C x = true) := by show _ = _; simp [neA, hr]
        have j1 : (x.r == R) = false := by simp [hr]
        clear hr
        go_wp2_with fail
        go_roundw
        case rel =>
          refine ⟨t + 1, by go_num, by omega, fun k y h1 hy => ?_, trivial⟩
          rcases Nat.lt_or_ge k t with h3 | h3
          · exact HT.out k y h3 hy
          · have : k = t := by omega
            subst this
            rw [HX.out] at hy
            cases hy
            exact HNE.out
        case measure => simp [intOf]; omega
    · obtain rfl : t = n := by omega
      have i1 : ¬ ((t : Int) < (t : Int)) := by omega
      have HN : Hid (idxF (neA R C) l = -1) := idxF_none fun k y hy => HT.out k y (by have := (List.getElem?_eq_some_iff.1 hy).1; have := HL.out; omega) hy
      clear hlt
      go_wp2_with fail
      go_ret
      exact ⟨by rw [HN.out]; rfl, HB.out⟩

set_option maxHeartbeats 1000000 in
theorem hasDigest_is (p : Int) (o : Ad) (l : List CrtD) (w : World) (h : GIn w o l) :
    Calls Try.prog 58 #[.slice o.A o.n o.c, .int .i64 p] w fun e w' => e = .returned (.bool (hasDg l p)) ∧ Below w.heap.size w w' := by
  have HF := Lib.hid (findDigest_is p o l w h)
  have hd := hasDg_idx (l := l) p
  rw [idxD] at hd
  have HD := Lib.hid hd
  clear h hd
  obtain ⟨z, hz⟩ : ∃ z, z = idxF (neD p) l := ⟨_, rfl⟩
  rw [← hz] at HF HD
  clear hz
  go_enter Try.func58, Try.ntmps58
  go_wp2_with (go_at_call 67; refine HF.out.mono ?_; rintro e w' ⟨rfl, hb⟩)
  go_ret
  exact ⟨by rw [HD.out]; rfl, hb⟩

end Go.Proofs.Ytlblhpbhcaljhaa
