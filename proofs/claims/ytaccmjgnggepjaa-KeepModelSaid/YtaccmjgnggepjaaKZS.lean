/-
  What the statements on stores say themselves: where a key stands, a copy of pairs.
-/
import Derived.Test.YtaccmjgnggepjaaKZM
import Derived.Test.YtaccmjgnggepjaaKScr
import Derived.BigQuiet
namespace Go.Proofs.Ytaccmjgnggepjaa
open Go.RowKit

theorem rd_cells {w : World} {b off : Nat} {l : List PP} (hc : ∀ i v, (cellsP l)[i]? = some v → w.cell? ⟨b, off + i, none⟩ = some v) {k : Nat} {x : PP} (hx : l[k]? = some x) :
    w.cell? ⟨b, off + k * 2, none⟩ = some (.string x.1) ∧ w.cell? ⟨b, off + k * 2 + 1, none⟩ = some (.string x.2) := by
  have h0 := hc _ _ (cellsP_at hx (j := 0) rfl)
  have h1 := hc _ _ (cellsP_at hx (j := 1) rfl)
  rw [Nat.add_zero] at h0
  exact ⟨h0, by rw [Nat.add_assoc]; exact h1⟩
/-- a row of pairs that is only read -/
structure PrIn (w : World) (A : Option Addr) (n c : Nat) (l : List PP) : Prop where
  hz : l.length = n
  rd : Rd w A (cellsP l)
  hc : n ≤ c
  hm : c ≤ maxLen
theorem PrIn.below {w w' : World} {A : Option Addr} {n c : Nat} {l : List PP} (h : PrIn w A n c l) (hb : Below w.heap.size w w') : PrIn w' A n c l := ⟨h.hz, h.rd.below hb, h.hc, h.hm⟩
theorem PrIn.open_ {w : World} {A : Option Addr} {n c : Nat} {l : List PP} (h : PrIn w A n c l) (h0 : 0 < n) : ∃ b off, A = some ⟨b, off, none⟩ ∧ b < w.heap.size ∧ ∀ i v, (cellsP l)[i]? = some v → w.cell? ⟨b, off + i, none⟩ = some v :=
  h.rd.open_ (by rw [cellsP_length, h.hz]; omega)

set_option maxHeartbeats 2000000 in
theorem find11_any (A : Option Addr) (c n : Nat) (l : List PP) (s : ByteArray) (w : World) (h : PrIn w A n c l) (hn : n ≤ 1000000) :
    Calls Try.prog 12 #[.slice A n c, .string s] w fun e w' => e = .returned (.tuple #[.int .i64 (posP l s : Nat), .bool (hasP l s)]) ∧ ∃ d, w' = w.drewN d := by
  have HI := Lib.hid h
  have HZ := Lib.hid h.hz
  clear h
  obtain ⟨q, hq⟩ : ∃ q, posP l s = q := ⟨_, rfl⟩
  obtain ⟨t, ht⟩ : ∃ t, hasP l s = t := ⟨_, rfl⟩
  rw [hq, ht]
  have HQ := Lib.hid hq
  have HT := Lib.hid ht
  clear hq ht
  go_enter Try.func12, Try.ntmps12
  go_wp2_with fail
  go_loop [6] (fun i => ∃ k : Nat, i = .int .i64 k ∧ k ≤ n ∧ Hid (∀ j a, j < k → (keysP l)[j]? = some a → ltN a s = true)) (fun i => n - (intOf i).toNat)
  case atStart => exact ⟨0, rfl, by omega, fun j a hj => absurd hj (by omega)⟩
  case round =>
    obtain ⟨k, rfl, hk, HA⟩ := hrel
    have i0 : (0 : Int) ≤ (k : Int) := by omega
    by_cases hlt : k < n
    · have i1 : (k : Int) < (n : Int) := by omega
      obtain ⟨b, off, rfl, _, hcl⟩ := HI.out.open_ (by omega)
      obtain ⟨x, hx⟩ : ∃ x, l[k]? = some x := ⟨_, List.getElem?_eq_getElem (by rw [HZ.out]; exact hlt)⟩
      obtain ⟨d0, _⟩ := rd_cells hcl hx
      have hkx : (keysP l)[k]? = some x.1 := by rw [keysP, List.getElem?_map, hx]; rfl
      obtain ⟨y, hy⟩ : ∃ y, x.1 = y := ⟨_, rfl⟩
      rw [hy] at d0 hkx
      have HKX := Lib.hid hkx
      clear hcl hx hy hkx
      cases hl : ltN y s with
      | true =>
        have j0 : Op.bytesLess y.toList s.toList = true := hl
        have HA2 : Hid (∀ j a, j < k + 1 → (keysP l)[j]? = some a → ltN a s = true) := fun j a hj ha => by
          rcases Nat.lt_or_ge j k with h1 | h1
          · exact HA.out j a h1 ha
          · have : j = k := by omega
            subst this
            rw [HKX.out] at ha
            cases ha
            exact hl
        clear hl
        go_wp2_with fail
        go_round
        case rel => exact ⟨k + 1, by go_num, by omega, HA2.out⟩
        case measure => simp [intOf]; omega
      | false =>
        have j0 : Op.bytesLess y.toList s.toList = false := hl
        have hpk : k = posP l s := posN_unique (by rw [keysP_len, HZ.out]; exact hk) HA.out (fun a ha => by rw [HKX.out] at ha; cases ha; exact hl)
        have HPK : Hid (k = q) := hpk.trans HQ.out
        have hhs : hasP l s = decide (y = s) := by
          rw [hasP, hasN]
          have e : posN (keysP l) s = k := hpk.symm
          rw [e, HKX.out]
          simp
        have HHS : Hid (t = decide (y = s)) := HT.out.symm.trans hhs
        clear hl hpk hhs
        by_cases hxy : y = s
        · have HHT : Hid (t = true) := by show t = true; rw [HHS.out]; exact decide_eq_true hxy
          subst hxy
          go_wp2_with fail
          go_quiet (fail)
          go_wp2_with fail
          go_ret2
          refine ⟨?_, _, rfl⟩
          rw [HHT.out, ← HPK.out]
          rfl
        · have j1 : (y.toList == s.toList) = false := by simp only [beq_eq_false_iff_ne, ne_eq]; exact fun h => hxy (ba_inj h)
          have j3 : ¬ y.toList = s.toList := fun h => hxy (ba_inj h)
          have HHF : Hid (t = false) := by show t = false; rw [HHS.out]; exact decide_eq_false hxy
          clear hxy
          go_wp2_with fail
          go_quiet (fail)
          go_wp2_with fail
          go_ret2
          refine ⟨?_, _, rfl⟩
          rw [HHF.out, ← HPK.out]
          rfl
    · have i1 : ¬ ((k : Int) < (n : Int)) := by omega
      obtain rfl : k = n := by omega
      have hpk : k = posP l s := posN_unique (by rw [keysP_len, HZ.out]; exact hk) HA.out (fun a ha => by rw [List.getElem?_eq_none (by rw [keysP_len, HZ.out]; exact Nat.le_refl _)] at ha; cases ha)
      have HPK : Hid (k = q) := hpk.trans HQ.out
      have hhs : hasP l s = false := by
        rw [hasP, hasN]
        have e : posN (keysP l) s = k := hpk.symm
        rw [e, List.getElem?_eq_none (by rw [keysP_len, HZ.out]; exact Nat.le_refl _)]
        rfl
      have HHF : Hid (t = false) := HT.out.symm.trans hhs
      clear hpk hhs
      go_wp2_with fail
      go_quiet (fail)
      go_wp2_with fail
      go_ret2
      refine ⟨?_, _, rfl⟩
      rw [HHF.out, ← HPK.out]
      rfl

set_option maxHeartbeats 1000000 in
theorem copyPairs_any (A : Option Addr) (c n : Nat) (l : List PP) (w : World) (hz : l.length = n) (hr : Rd w A (cellsP l)) (hn : n ≤ 1000000) :
    Calls Try.prog 28 #[.slice A n c] w (MadeS 2 w.heap.size 65 w n (cellsP l)) := by
  have HZ := Lib.hid hz
  have HR := Lib.hid hr
  clear hz hr
  go_enter Try.func28, Try.ntmps28
  go_wp2
  go_loopw [3, 4] (fun v i wr => ∃ k : Nat, i = .int .i64 k ∧ k ≤ n ∧ wr.ownsRow w.heap.size 65 2 v k (cellsP (l.take k)) ∧ Below w.heap.size w wr) (fun _ i _ => n - (intOf i).toNat)
  case atStart => exact ⟨0, rfl, by omega, World.ownsRow_nil _ _ _ _, Below.refl _ _⟩
  case round =>
    obtain ⟨k, rfl, hk, hown, hb⟩ := hrel
    have i0 : (0 : Int) ≤ (k : Int) := by omega
    by_cases hlt : k < n
    · have i1 : (k : Int) < (n : Int) := by omega
      obtain ⟨b, off, rfl, _, hcl⟩ := (HR.out.below hb).open_ (by rw [cellsP_length, HZ.out]; omega)
      obtain ⟨x, hx⟩ : ∃ x, l[k]? = some x := ⟨_, List.getElem?_eq_getElem (by rw [HZ.out]; exact hlt)⟩
      obtain ⟨d0, d1⟩ := rd_cells hcl hx
      have HAT := Lib.hid (take_next hx)
      have hbs := hb.size
      clear hcl hx
      go_wp2_with (at_builtin; refine wpList_app_elem _ rfl _ _ 34 rfl w.heap.size 65 _ 2 32 Try.underlying34 info_pair rfl (by decide) (by decide) _ k _ rfl (hown.alloc _) wr.heap.size (PP.cells x) rfl rfl (cells_new _ _ _) (fun v hv => cellsP_one' (l := [x]) v (by rw [cellsP_one]; exact hv)) (by omega) (by simp; omega) ?_)
      intro v' w1 hown1 hb1
      have hown2 := ownS_conv (n' := k + 1) hown1 (ys := cellsP (l.take (k + 1))) (by rw [HAT.out, cellsP_append, cellsP_one]) rfl
      clear hown1 hown d0 d1
      go_wp2
      go_roundw
      case rel => exact ⟨k + 1, by go_num, by omega, hown2, (hb.alloc hb.size _).trans hb1⟩
      case measure => simp [intOf]; omega
    · have i1 : ¬ ((k : Int) < (n : Int)) := by omega
      obtain rfl : k = n := by omega
      go_wp2
      go_ret
      rw [List.take_of_length_le (by rw [HZ.out]; omega)] at hown
      exact ⟨_, rfl, hown, hb⟩

end Go.Proofs.Ytaccmjgnggepjaa
/-
  What the statements on stores say themselves: does a store tell just these pairs? An act done to it.
-/
namespace Go.Proofs.Ytaccmjgnggepjaa
open Go.RowKit

/-- what an act does to pairs, and its error -/
def nextK (l : List PP) (m : Nat) (a : ActW) : List PP × Int :=
  if m = 4 then (if dropE l a.S = 0 then (l.take (posP l a.S) ++ l.drop (posP l a.S + 1), 0) else (l, dropE l a.S))
  else if m = 5 ∨ m = 6 ∨ m = 7 then (l, 0)
  else if ¬ (1 ≤ a.S.size ∧ a.S.size ≤ 32 ∧ a.S.size + a.V.size ≤ 4032) then (l, 1) else (setP l a.S a.V, 0)

/-- a store whose disk has power, and where it lies -/
def LiveF {K : LogK} (hP : LogP K) (F : Nat → Prop) (gk gd c : Nat) (l : List PP) (w : World) : Prop := ∃ s, IsKeep K w gk gd F s ∧ FineK hP s ∧ s.ps = l ∧ (K.dsk s.S).calls ≤ c
def LiveFL {K : LogK} (hP : LogP K) (F : Nat → Prop) (gk gd c : Nat) (l : List PP) (w : World) : Prop := ∃ s, IsKeep K w gk gd F s ∧ FineK hP s ∧ s.ps = l ∧ (K.dsk s.S).calls ≤ c ∧ hP.Last s.S
/-- what an act leaves -/
def DoesK {K : LogK} (hP : LogP K) (F : Nat → Prop) (gk gd c m : Nat) (l : List PP) (w w' : World) : Prop :=
  ∃ F' : Nat → Prop, LiveF hP F' gk gd c l w' ∧ (m = 7 → LiveFL hP F' gk gd c l w') ∧ Touch F w w' ∧ ∀ k, F' k → F k ∨ w.heap.size ≤ k
section
variable {K : LogK} {hP : LogP K} {gk gd c : Nat} {F : Nat → Prop} {l : List PP} {w w' : World}
theorem LiveF.below (hK : LogC K) (h : LiveF hP F gk gd c l w) (hb : Below w.heap.size w w') : LiveF hP F gk gd c l w' := by
  obtain ⟨s, h1, h2⟩ := h
  exact ⟨s, h1.below hK hb, h2⟩
theorem LiveFL.below (hK : LogC K) (h : LiveFL hP F gk gd c l w) (hb : Below w.heap.size w w') : LiveFL hP F gk gd c l w' := by
  obtain ⟨s, h1, h2⟩ := h
  exact ⟨s, h1.below hK hb, h2⟩
theorem LiveF.live (h : LiveF hP F gk gd c l w) : Live hP 0 gk gd c l w := by
  obtain ⟨s, h1, h2⟩ := h
  exact ⟨F, s, ⟨h1, fun _ _ => Nat.zero_le _, Nat.zero_le _⟩, h2⟩
theorem LiveF.lt (h : LiveF hP F gk gd c l w) : ∀ k, F k → k < w.heap.size := by
  obtain ⟨s, h1, h2⟩ := h
  exact h1.lt
theorem LiveF.more {c' : Nat} (h : LiveF hP F gk gd c l w) (hc : c ≤ c') : LiveF hP F gk gd c' l w := by
  obtain ⟨s, h1, h2, h3, h4⟩ := h
  exact ⟨s, h1, h2, h3, Nat.le_trans h4 hc⟩
theorem LiveFL.liveL (h : LiveFL hP F gk gd c l w) : LiveL hP 0 gk gd c l w := by
  obtain ⟨s, h1, h2⟩ := h
  exact ⟨F, s, ⟨h1, fun _ _ => Nat.zero_le _, Nat.zero_le _⟩, h2⟩
theorem livef_put (hK : LogC K) (hE : LogE K) (k v : ByteArray) (m : Nat) (hm : m ≠ 7) (h : LiveF hP F gk gd c l w) (hc : c ≤ 800000) (hv : v.size ≤ 140737488351232) :
    Calls Try.prog 18 #[.pointer (some ⟨gk, 0, none⟩), .string k, .string v] w fun e w' => e = .returned (.int .i64 (checkP l k v)) ∧ DoesK hP F gk gd (c + 8) m (if checkP l k v = 0 then setP l k v else l) w w' := by
  obtain ⟨s, h1, h2, h3, h4⟩ := h
  subst h3
  refine (kput_is hK k v h1 hv (by omega)).mono ?_
  rintro e w' ⟨rfl, F', h5, h6, h7⟩
  obtain ⟨p1, p2, p3⟩ := put_fine h2 k v
  have hcc := put_cost hE (s := s) k v
  exact ⟨by rw [p1], F', ⟨_, h5, p3, p2, by omega⟩, fun h => absurd h hm, h6, h7⟩
theorem livef_drop (hK : LogC K) (hE : LogE K) (k : ByteArray) (m : Nat) (hm : m ≠ 7) (h : LiveF hP F gk gd c l w) (hc : c ≤ 800000) :
    Calls Try.prog 21 #[.pointer (some ⟨gk, 0, none⟩), .string k] w fun e w' => e = .returned (.int .i64 (dropE l k)) ∧ DoesK hP F gk gd (c + 8) m (if dropE l k = 0 then delP l k else l) w w' := by
  obtain ⟨s, h1, h2, h3, h4⟩ := h
  subst h3
  refine (kdrop_is hK k h1 (by omega)).mono ?_
  rintro e w' ⟨rfl, F', h5, h6, h7⟩
  obtain ⟨p1, p2, p3⟩ := drop_fine h2 k
  have hcc := drop_cost hE (s := s) k
  exact ⟨by rw [p1], F', ⟨_, h5, p3, p2, by omega⟩, fun h => absurd h hm, h6, h7⟩
theorem livef_sync (hK : LogC K) (hE : LogE K) (m : Nat) (h : LiveF hP F gk gd c l w) (hc : c ≤ 800000) :
    Calls Try.prog 19 #[.pointer (some ⟨gk, 0, none⟩)] w fun e w' => e = .returned (.int .i64 0) ∧ DoesK hP F gk gd (c + 8) m l w w' := by
  obtain ⟨s, h1, h2, h3, h4⟩ := h
  subst h3
  refine (ksync_is hK h1 (by omega)).mono ?_
  rintro e w' ⟨rfl, F', h5, h6, h7⟩
  obtain ⟨p1, p2, p3, p4⟩ := sync_fine h2
  have hcc := sync_cost hE (s := s)
  exact ⟨by rw [p1], F', ⟨_, h5, p3, p2, by omega⟩, fun _ => ⟨_, h5, p3, p2, by omega, p4⟩, h6, h7⟩
theorem DoesK.from {w1 : World} {m c : Nat} (h : DoesK hP F gk gd c m l w1 w') (hb : Below w.heap.size w w1) : DoesK hP F gk gd c m l w w' := by
  obtain ⟨F', h1, h2, h3, h4⟩ := h
  exact ⟨F', h1, h2, (Touch.of hb : Touch F w w1).trans h3 fun j hj => .inl hj, fun j hj => (h4 j hj).imp id fun h => Nat.le_trans hb.size h⟩
/-- opened -/
theorem livef_open (hK : LogC K) (hE : LogE K) {D : PD} {FD : Nat → Prop} (hd : IsDisk w gd FD D) (hr : Ready hP D l) (hc : D.calls = 0) :
    Calls Try.prog 8 #[.pointer (some ⟨gd, 0, none⟩)] w fun e w' => ∃ (gk : Nat) (F' : Nat → Prop), e = .returned (.tuple #[.pointer (some ⟨gk, 0, none⟩), .int .i64 0]) ∧ LiveF hP F' gk gd 4 l w' ∧ Touch FD w w' ∧ ∀ k, F' k → FD k ∨ w.heap.size ≤ k := by
  obtain ⟨s, ho, hf, hl⟩ := hr
  refine (kopen_is hK hE hd (by omega)).mono ?_
  rintro e w' ⟨F', ht, hF', hor⟩
  have hcc := open_cost hE D
  rw [ho] at hor hcc
  rcases hor with ⟨s', gk, e1, e2, h1, h2⟩ | ⟨e1, _⟩
  · cases e1
    have hcc2 : (K.dsk s.S).calls ≤ D.calls + 4 := hcc
    exact ⟨gk, F', e2, ⟨s, h1, hf, hl, by omega⟩, ht, hF'⟩
  · cases e1
end

set_option maxRecDepth 100000 in
set_option maxHeartbeats 4000000 in
theorem same11_any {K : LogK} (hK : LogC K) {hP : LogP K} {B gk gd c : Nat} {l : List PP} (A : Option Addr) (n cA : Nat) (w : World) (h : Live hP B gk gd c l w) (hp : PrIn w A n cA l) (hn : n ≤ 100000) :
    Calls Try.prog 14 #[.pointer (some ⟨gk, 0, none⟩), .slice A n cA] w fun e w' => e = .returned (.bool true) ∧ Below w.heap.size w w' := by
  have HL := Lib.hid h
  have HP := Lib.hid hp
  have HZ := Lib.hid hp.hz
  have HG := Lib.hid h.good
  have hkl : (keysP l).length = n := by rw [keysP_len, hp.hz]
  have HKL := Lib.hid hkl
  clear h hp hkl
  go_enter Try.func14, Try.ntmps14
  go_wp2_with fail
  refine (live_keys hK HL.out).mono ?_
  rintro e w2 ⟨v2, rfl, ho2, hb2⟩
  have ho2b := own_cast ho2 ((strs_length _).trans HKL.out)
  obtain ⟨A2, c2, rfl, _, _, hr2, _, _⟩ := own_val ho2b
  have HO2 := Lib.hid ho2b
  have HR2 := Lib.hid hr2
  have HB2 := Lib.hid hb2
  have HL2 := Lib.hid (HL.out.below hK hb2)
  have HP2 := Lib.hid (HP.out.below hb2)
  clear ho2 ho2b hr2 hb2
  go_wp2_with fail
  go_loopw [6] (fun i wr => ∃ k : Nat, i = .int .i64 k ∧ k ≤ n ∧ Below w2.heap.size w2 wr) (fun i _ => n - (intOf i).toNat)
  case atStart => exact ⟨0, rfl, by omega, Below.refl _ _⟩
  case round =>
    obtain ⟨k, rfl, hk, hb⟩ := hrel
    have i0 : (0 : Int) ≤ (k : Int) := by omega
    by_cases hlt : k < n
    · have i1 : (k : Int) < (n : Int) := by omega
      obtain ⟨x, hx⟩ : ∃ x, l[k]? = some x := ⟨_, List.getElem?_eq_getElem (by rw [HZ.out]; exact hlt)⟩
      have hkx : (keysP l)[k]? = some x.1 := by rw [keysP, List.getElem?_map, hx]; rfl
      have hgt := get_at HG.out.1 (j := k) (k := x.1) (v := x.2) hx
      obtain ⟨b, off, rfl, _, hcl⟩ := (HP2.out.below hb).open_ (by omega)
      obtain ⟨b2, off2, rfl, _, hcl2⟩ := (HR2.out.below hb).open_ (by rw [strs_length, HKL.out]; omega)
      have HDD : Hid (∀ wX, Below wr.heap.size wr wX → (wX.cell? ⟨b, off + k * 2, none⟩ = some (.string x.1) ∧ wX.cell? ⟨b, off + k * 2 + 1, none⟩ = some (.string x.2)) ∧ wX.cell? ⟨b2, off2 + k, none⟩ = some (.string x.1)) := fun wX hX => by
        obtain ⟨b', off', e', _, hc'⟩ := ((HP2.out.below hb).below hX).open_ (by omega)
        cases e'
        obtain ⟨b'', off'', e'', _, hc''⟩ := ((HR2.out.below hb).below hX).open_ (by rw [strs_length, HKL.out]; omega)
        cases e''
        refine ⟨rd_cells hc' hx, ?_⟩
        rw [hc'' k (.string x.1) (by rw [strs, List.getElem?_map, hkx]; rfl)]
      obtain ⟨key, val⟩ := x
      simp only at hgt HDD
      obtain ⟨⟨d0, d1⟩, d2⟩ := HDD.out wr (Below.refl _ _)
      have HGT := Lib.hid hgt
      have HL3 := Lib.hid (HL2.out.below hK hb)
      clear hx hkx hgt hcl hcl2
      go_wp2_with fail
      refine (live_get hK key HL3.out).mono ?_
      rintro e w4 ⟨he, hb4⟩
      rw [HGT.out] at he
      subst he
      obtain ⟨⟨y0, y1⟩, y2⟩ := HDD.out w4 hb4
      have hb24 := hb.trans (hb4.mono hb.size)
      clear d0 d1 d2 hb4
      go_wp2_with fail
      go_quiet ((go_at_call 9; exact quietK_same (num11_any _ _)))
      go_wp2_with fail
      go_roundw
      case rel => exact ⟨k + 1, by go_num, by omega, below_n hb24 _⟩
      case measure => simp [intOf]; omega
    · have i1 : ¬ ((k : Int) < (n : Int)) := by omega
      have hbw := HB2.out.trans (hb.mono HB2.out.size)
      have HOW := Lib.hid (own_below HO2.out hb)
      have hzw := hbw.size
      go_wp2_with fail
      refine (spoilStrings_any w.heap.size _ n (keysP l) _ HOW.out hzw (by omega)).mono ?_
      rintro e w5 ⟨rfl, hb5⟩
      go_wp2_with fail
      go_ret
      exact ⟨rfl, hbw.trans hb5⟩

end Go.Proofs.Ytaccmjgnggepjaa
