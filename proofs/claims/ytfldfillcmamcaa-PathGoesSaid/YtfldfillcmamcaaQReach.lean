/-
  Package path's find; slices.Index and slices.Contains of numbers.
-/
import Derived.Test.YtfldfillcmamcaaYMiss
import Derived.Test.YtfldfillcmamcaaYApiA
import Derived.Test.YtfldfillcmamcaaQPlain
import Derived.Deep.AppendLies
import Derived.ScopeJumps
namespace Go.Proofs.Ytfldfillcmamcaa
open Go.RowKit

set_option maxHeartbeats 1000000 in
theorem cloD_is (p : Int) (x : CrtD) (a : CrtA) (gp : Nat) (w : World) (hg : gp < w.heap.size) (hp : w.cell? ⟨gp, 0, none⟩ = some (.int .i64 p)) :
    Calls Try.prog 99 #[crtV x a, .pointer (some ⟨gp, 0, none⟩)] w fun e w' => e = .returned (.bool (!neD p x)) ∧ Below w.heap.size w w' := by
  obtain ⟨g, hgg⟩ : ∃ g, g = w.heap.size := ⟨_, rfl⟩
  obtain ⟨w1, hw1⟩ : ∃ w1, w1 = w.alloc (.cells (crtC x a).toArray 45) := ⟨_, rfl⟩
  obtain ⟨hb1, hsz, hx0⟩ := boxes1 w _ _ hw1
  have hp1 : w1.cell? ⟨gp, 0, none⟩ = some (.int .i64 p) := (hb1.cell (p := ⟨gp, 0, none⟩) hg).trans hp
  rw [← hgg] at hb1 hsz hx0
  have HG : Hid (w.heap.size = g) := hgg.symm
  have HW : Hid (w.alloc (.cells #[.int .i64 x.a, .int .i64 x.r, .slice a.B.A a.B.n a.B.c, .slice a.P.A a.P.n a.P.c, .int .i64 x.d, .slice a.S.A a.S.n a.S.c] 45) = w1) := hw1.symm
  have HB := Lib.hid hb1
  obtain ⟨c0, c1, c2, c3, c4, c5⟩ := crt_cells hx0
  have HN : Hid ((!neD p x) = (x.d == p)) := by show _ = _; by_cases h : x.d = p <;> simp [neD, h]
  clear hgg hw1 hb1 hsz hx0 hp hg
  unfold crtV
  rw [HG.out]
  go_enter Try.func99, Try.ntmps99
  go_upto_region 1 with fail
  rw [HG.out, HW.out]
  go_wp2_with fail
  go_ret
  exact ⟨by rw [HN.out]; rfl, HB.out⟩

set_option maxRecDepth 100000 in
set_option maxHeartbeats 2000000 in
theorem indexD_is (p : Int) (o : Ad) (l : List CrtD) (gp : Nat) (w : World) (h : GIn w o l) (hg : gp < w.heap.size) (hp : w.cell? ⟨gp, 0, none⟩ = some (.int .i64 p)) :
    Calls Try.prog 98 #[.slice o.A o.n o.c, .func (.func 99) #[] #[.pointer (some ⟨gp, 0, none⟩)]] w fun e w' => e = .returned (.int .i64 (idxF (neD p) l)) ∧ Below w.heap.size w w' := by
  have hlen := h.len
  have hn1 := h.few
  have hget : ∀ (i : Nat) (x : CrtD), l[i]? = some x → ∃ (b off : Nat) (a : CrtA), o.A = some ⟨b, off, none⟩ ∧ b < w.heap.size ∧ CrtFit x ∧ ∀ wX, Below w.heap.size w wX → CrtAt wX b off i x a := fun i x hx => h.get hx
  have hclo : ∀ (x : CrtD) (a : CrtA) (wX : World), Below w.heap.size w wX → Calls Try.prog 99 #[crtV x a, .pointer (some ⟨gp, 0, none⟩)] wX fun e w' => e = .returned (.bool (!neD p x)) ∧ Below wX.heap.size wX w' := fun x a wX hb => cloD_is p x a gp wX (Nat.lt_of_lt_of_le hg hb.size) ((hb.cell (p := ⟨gp, 0, none⟩) hg).trans hp)
  obtain ⟨A, n, c⟩ := o
  simp only at hlen hn1 hget
  have HL := Lib.hid hlen
  have HG := Lib.hid hget
  have HC := Lib.hid hclo
  clear hlen hget h hclo hg hp
  go_enter Try.func98, Try.ntmps98
  go_wp2
  go_loopw [8] (fun i wr => ∃ t : Nat, i = .int .i64 t ∧ t ≤ n ∧ Hid (∀ k y, k < t → l[k]? = some y → (neD p) y = true) ∧ Below w.heap.size w wr) (fun i _ => n - (intOf i).toNat)
  case atStart => exact ⟨0, rfl, by omega, fun k y h => by omega, Below.refl _ _⟩
  case round =>
    obtain ⟨t, rfl, htn, HT, hb⟩ := hrel
    by_cases hlt : t < n
    · obtain ⟨x, hx⟩ : ∃ x, l[t]? = some x := ⟨_, List.getElem?_eq_getElem (by rw [HL.out]; omega)⟩
      obtain ⟨b, off, a, rfl, hbl, -, hce⟩ := HG.out _ _ hx
      obtain ⟨k0, k1, k2, k3, k4, k5, -⟩ := hce _ hb
      have HX := Lib.hid hx
      have HCL := Lib.hid (HC.out x a wr hb)
      have i0 : (0 : Int) ≤ (t : Int) := by omega
      have i1 : (t : Int) < (n : Int) := by omega
      unfold crtV at HCL
      clear hx hce
      by_cases hd : x.d = p
      · have HEQ : Hid (neD p x = false) := by show _ = _; simp [neD, hd]
        rw [HEQ.out] at HCL
        clear hd
        have HN : Hid (idxF (neD p) l = t) := idxF_at HX.out HEQ.out HT.out
        go_wp2_with (go_at_call 99; refine HCL.out.mono ?_; rintro e w2 ⟨rfl, hb2⟩)
        go_ret
        exact ⟨by rw [HN.out]; rfl, hb.trans (hb2.mono hb.size)⟩
      · have HNE : Hid (neD p x = true) := by show _ = _; simp [neD, hd]
        rw [HNE.out] at HCL
        clear hd
        go_wp2_with (go_at_call 99; refine HCL.out.mono ?_; rintro e w2 ⟨rfl, hb2⟩)
        go_roundw
        case rel =>
          refine ⟨t + 1, by go_num, by omega, fun k y h1 hy => ?_, hb.trans (hb2.mono hb.size)⟩
          rcases Nat.lt_or_ge k t with h3 | h3
          · exact HT.out k y h3 hy
          · have : k = t := by omega
            subst this
            rw [HX.out] at hy
            cases hy
            exact HNE.out
        case measure => simp [intOf]; omega
    · obtain rfl : t = n := by omega
      have i1 : ¬ ((t : Int) < (t : Int)) := by omega
      have HN : Hid (idxF (neD p) l = -1) := idxF_none fun k y hy => HT.out k y (by have := (List.getElem?_eq_some_iff.1 hy).1; have := HL.out; omega) hy
      clear hlt
      go_wp2_with fail
      go_ret
      exact ⟨by rw [HN.out]; rfl, hb⟩

set_option maxRecDepth 100000 in
set_option maxHeartbeats 2000000 in
theorem findQ_is (N L p : Int) (o : Ad) (l : List CrtD) (w : World) (h : GIn w o l) :
    Calls Try.prog 77 #[dagV N L o, .int .i64 p] w fun e w' => e = .returned (.int .i64 (idxD l p)) ∧ Below w.heap.size w w' := by
  obtain ⟨g, hg⟩ : ∃ g, g = w.heap.size := ⟨_, rfl⟩
  obtain ⟨w1, hw1⟩ : ∃ w1, w1 = (w.alloc (.cells (dagC N L o).toArray 24)).alloc (.cells [Value.int .i64 p].toArray 3) := ⟨_, rfl⟩
  obtain ⟨hb1, hsz, hx0, hx1⟩ := boxes2 w _ _ _ _ hw1
  rw [← hg] at hb1 hsz hx0 hx1
  have HG : Hid (w.heap.size = g) := hg.symm
  have HW : Hid ((w.alloc (.cells #[.int .i64 N, .int .i64 L, .slice o.A o.n o.c] 24)).alloc (.cells #[.int .i64 p] 3) = w1) := hw1.symm
  have HB := Lib.hid hb1
  have HI := Lib.hid (indexD_is p o l (g + 1) w1 (h.below (by rw [← hg]; exact hb1)) hx1.1 (hx1.2 0 _ rfl).1)
  have hgs := hx0.1
  obtain ⟨d0, d1, d2⟩ := dag_cells hx0
  clear hg hw1 hb1 hsz hx0 hx1 h
  have hmf : ∀ (fn : Fn) (first cap : Array Value) (w : World), (Instr.makeFunc fn first cap).run Try.prog w = .ok (.func fn first cap) w := fun _ _ _ _ => rfl
  unfold idxD
  obtain ⟨z, hz⟩ : ∃ z, z = idxF (neD p) l := ⟨_, rfl⟩
  rw [← hz] at HI ⊢
  clear hz
  rw [HG.out]
  unfold dagV
  go_enter Try.func77, Try.ntmps77
  go_upto_region 1 with fail
  rw [HG.out, HW.out]
  go_wp2_with (go_at_call 98; refine HI.out.mono ?_; rintro e w' ⟨rfl, hb⟩)
  go_ret
  exact ⟨rfl, HB.out.trans (hb.mono (Nat.le_of_lt hgs))⟩

/-! ### numbers -/
def inB (l : List Int) (p : Int) : Bool := l.any fun y => decide (y = p)
theorem inB_iff {l : List Int} {p : Int} : inB l p = true ↔ p ∈ l := by
  unfold inB
  rw [List.any_eq_true]
  simp
theorem inB_no {l : List Int} {p : Int} : inB l p = false ↔ p ∉ l := by rw [← inB_iff]; simp
/-- where a number is: at most -1, if nowhere -/
def AtI (l : List Int) (p z : Int) : Prop := (p ∈ l ∧ 0 ≤ z ∧ z < 1000000 ∧ l[z.toNat]? = some p) ∨ (p ∉ l ∧ z = -1)
set_option maxRecDepth 100000 in
set_option maxHeartbeats 2000000 in
theorem index_is (p : Int) (o : Ad) (l : List Int) (w : World) (hl : l.length = o.n) (hr : Rd w o.A (i64s l)) (hn : o.n ≤ 1000000) :
    Calls Try.prog 100 #[.slice o.A o.n o.c, .int .i64 p] w fun e w' => ∃ z : Int, e = .returned (.int .i64 z) ∧ AtI l p z ∧ w' = w := by
  obtain ⟨A, n, c⟩ := o
  simp only at hl hr hn
  have HL := Lib.hid hl
  have HR := Lib.hid hr
  clear hl hr
  go_enter Try.func100, Try.ntmps100
  go_wp2
  go_loopw [8] (fun i wr => ∃ t : Nat, i = .int .i64 t ∧ t ≤ n ∧ Hid (∀ (k : Nat) (y : Int), k < t → l[k]? = some y → y ≠ p) ∧ wr = w) (fun i _ => n - (intOf i).toNat)
  case atStart => exact ⟨0, rfl, by omega, fun k y h => by omega, rfl⟩
  case round =>
    obtain ⟨t, rfl, htn, HT, rfl⟩ := hrel
    by_cases hlt : t < n
    · obtain ⟨x, hx⟩ : ∃ x, l[t]? = some x := ⟨_, List.getElem?_eq_getElem (by rw [HL.out]; omega)⟩
      obtain ⟨b, off, rfl, hbl, hcell⟩ := HR.out.open_ (by rw [i64s_length, HL.out]; omega)
      have hc1 := hcell t (.int .i64 x) (by simp [i64s, hx])
      have HX := Lib.hid hx
      have i0 : (0 : Int) ≤ (t : Int) := by omega
      have i1 : (t : Int) < (n : Int) := by omega
      clear hx hcell
      by_cases hd : p = x
      · have j1 : (p == x) = true := by simp [hd]
        have HZ : Hid (AtI l p (t : Int)) := .inl ⟨by rw [hd]; exact List.mem_of_getElem? HX.out, by omega, by omega, by rw [hd]; exact HX.out⟩
        clear hd
        go_wp2_with fail
        go_ret
        exact ⟨_, rfl, HZ.out, rfl⟩
      · have HD : Hid (x ≠ p) := fun h => hd h.symm
        have j1 : (p == x) = false := by simp [hd]
        clear hd
        go_wp2_with fail
        go_roundw
        case rel =>
          refine ⟨t + 1, by go_num, by omega, fun k y h1 hy => ?_, trivial⟩
          rcases Nat.lt_or_ge k t with h3 | h3
          · exact HT.out k y h3 hy
          · have : k = t := by omega
            subst this
            rw [HX.out] at hy
            cases hy
            exact HD.out
        case measure => simp [intOf]; omega
    · obtain rfl : t = n := by omega
      have i1 : ¬ ((t : Int) < (t : Int)) := by omega
      have HZ : Hid (AtI l p (-1)) := .inr ⟨fun h => by
        obtain ⟨k, hk⟩ := List.mem_iff_getElem?.1 h
        have hkl := (List.getElem?_eq_some_iff.1 hk).1
        rw [HL.out] at hkl
        exact HT.out k p hkl hk rfl, rfl⟩
      clear hlt
      go_wp2_with fail
      go_ret
      exact ⟨_, rfl, HZ.out, rfl⟩
set_option maxRecDepth 100000 in
set_option maxHeartbeats 2000000 in
theorem contains_is (p : Int) (o : Ad) (l : List Int) (w : World) (hl : l.length = o.n) (hr : Rd w o.A (i64s l)) (hn : o.n ≤ 1000000) :
    Calls Try.prog 78 #[.slice o.A o.n o.c, .int .i64 p] w fun e w' => e = .returned (.bool (inB l p)) ∧ w' = w := by
  have HI := Lib.hid (index_is p o l w hl hr hn)
  clear hl hr hn
  go_enter Try.func78, Try.ntmps78
  go_wp2_with (go_at_call 100; refine HI.out.mono ?_; rintro e w' ⟨z, rfl, hz, rfl⟩)
  go_ret
  rcases hz with ⟨h1, h2, h3, -⟩ | ⟨h1, rfl⟩
  · rw [inB_iff.2 h1]
    simp [h2]
  · rw [inB_no.2 h1]
    simp

end Go.Proofs.Ytfldfillcmamcaa
/-
  slices.Reverse of numbers, in a row that the call owns.
-/
namespace Go.Proofs.Ytfldfillcmamcaa
open Go.RowKit

/-- turned round as far as i from both ends -/
def RevTo (z : List Int) (i : Nat) (y : List Int) : Prop := y.length = z.length ∧ ∀ j, j < z.length → y[j]? = if j < i ∨ z.length ≤ j + i then z[z.length - 1 - j]? else z[j]?
theorem revTo_start (z : List Int) : RevTo z 0 z := ⟨rfl, fun j hj => by rw [if_neg (by omega)]⟩
theorem revTo_end {z y : List Int} {i : Nat} (h : RevTo z i y) (hi : z.length ≤ 2 * i + 1) : y = z.reverse := by
  refine List.ext_getElem? fun j => ?_
  rcases Nat.lt_or_ge j z.length with hj | hj
  · rw [h.2 j hj, List.getElem?_reverse hj]
    split
    · rfl
    · rw [show z.length - 1 - j = j by omega]
  · rw [List.getElem?_eq_none (by rw [h.1]; exact hj), List.getElem?_eq_none (by rw [List.length_reverse]; exact hj)]
theorem revTo_step {z y : List Int} {i : Nat} {a b : Int} (h : RevTo z i y) (hi : 2 * i + 1 < z.length) (ha : y[i]? = some a) (hb : y[z.length - 1 - i]? = some b) : RevTo z (i + 1) ((y.set i b).set (z.length - 1 - i) a) := by
  refine ⟨by simp [h.1], fun j hj => ?_⟩
  have h1 := h.2 i (by omega)
  have h2 := h.2 (z.length - 1 - i) (by omega)
  rw [if_neg (by omega)] at h1 h2
  have hl := h.1
  rcases Nat.lt_trichotomy j (z.length - 1 - i) with h3 | h3 | h3
  · rw [List.getElem?_set_ne (by omega)]
    by_cases h4 : j = i
    · subst h4
      rw [List.getElem?_set_self (by omega), if_pos (by omega), ← h2, hb]
    · rw [List.getElem?_set_ne (by omega), h.2 j hj]
      by_cases h5 : j < i
      · rw [if_pos (by omega), if_pos (by omega)]
      · rw [if_neg (by omega), if_neg (by omega)]
  · subst h3
    rw [List.getElem?_set_self (by simp; omega), if_pos (by omega), show z.length - 1 - (z.length - 1 - i) = i by omega, ← h1, ha]
  · rw [List.getElem?_set_ne (by omega), List.getElem?_set_ne (by omega), h.2 j hj, if_pos (by omega), if_pos (by omega)]
theorem i64s_set (z : List Int) (j : Nat) (a : Int) : i64s (z.set j a) = (i64s z).set j (.int .i64 a) := by simp [i64s, List.map_set]

set_option maxRecDepth 100000 in
set_option maxHeartbeats 4000000 in
theorem reverse_is (B : Nat) (o : Ad) (z : List Int) (w : World) (h : w.ownsRow B 3 1 o.v o.n (i64s z)) (hl : z.length = o.n) (hn : o.n ≤ 1000000) (hB : B ≤ w.heap.size) :
    Calls Try.prog 101 #[.slice o.A o.n o.c] w fun e w' => e = .returned (.tuple #[]) ∧ w'.ownsRow B 3 1 o.v o.n (i64s z.reverse) ∧ Below B w w' := by
  obtain ⟨A, n, c⟩ := o
  simp only [Ad.v] at h hl hn ⊢
  have HO := Lib.hid h
  have HL := Lib.hid hl
  have HBB := Lib.hid hB
  clear h hl hB
  go_enter Try.func101, Try.ntmps101
  go_wp2
  go_loopw [2, 3] (fun u v wr => ∃ (t : Nat) (y : List Int), u = .int .i64 t ∧ v = .int .i64 ((n : Int) - 1 - t) ∧ t ≤ n ∧ Hid (RevTo z t y) ∧ Hid (wr.ownsRow B 3 1 (.slice A n c) n (i64s y)) ∧ Hid (Below B w wr)) (fun u _ _ => n - (intOf u).toNat)
  case atStart => exact ⟨0, z, rfl, by simp, Nat.zero_le _, revTo_start z, HO.out, Below.refl _ _⟩
  case round =>
    obtain ⟨t, y, rfl, rfl, ht, HR, HY, HB⟩ := hrel
    by_cases hlt : 2 * t + 1 < n
    · obtain ⟨p, hp⟩ : ∃ p, y[t]? = some p := ⟨_, List.getElem?_eq_getElem (by rw [HR.out.1, HL.out]; omega)⟩
      obtain ⟨q, hq⟩ : ∃ q, y[n - 1 - t]? = some q := ⟨_, List.getElem?_eq_getElem (by rw [HR.out.1, HL.out]; omega)⟩
      obtain ⟨g, cap, hv, hBg, hglt⟩ := HY.out.form (by omega)
      simp only [Value.slice.injEq, true_and] at hv
      obtain ⟨rfl, rfl⟩ := hv
      have hbx := row_box HY.out
      obtain ⟨c1, f1⟩ := hbx.2 t (.int .i64 p) (by simp [i64s, hp])
      obtain ⟨c2, f2⟩ := hbx.2 (n - 1 - t) (.int .i64 q) (by simp [i64s, hq])
      have HR2 := Lib.hid (revTo_step HR.out (by rw [HL.out]; omega) hp (by rw [HL.out]; exact hq))
      rw [HL.out] at HR2
      have e1 : ((n : Int) - 1 - (t : Int)).toNat = n - 1 - t := by omega
      have i0 : (0 : Int) ≤ (t : Int) := by omega
      have i1 : (t : Int) < (n : Int) := by omega
      have i2 : (0 : Int) ≤ (n : Int) - 1 - (t : Int) := by omega
      have i3 : (n : Int) - 1 - (t : Int) < (n : Int) := by omega
      have i4 : (t : Int) < (n : Int) - 1 - (t : Int) := by omega
      have HBG : Hid (B ≤ g) := hBg
      clear hp hq hbx hBg
      go_wp2_with fail
      go_region
      go_wp2_with fail
      refine ⟨⟨t + 1, (y.set t q).set (n - 1 - t) p, by go_num, ?_, by omega, HR2, ?_, ?_⟩, by simp [intOf]; omega⟩
      · rw [show (n : Int) - 1 - (t : Int) - 1 = (n : Int) - 1 - ((t + 1 : Nat) : Int) by omega]
      · show World.ownsRow _ _ _ _ _ _ _
        rw [i64s_set, i64s_set]
        exact own_below ((HY.out.stored t (.int .i64 q)).1.stored (n - 1 - t) (.int .i64 p)).1 (Below.refl _ _).drew
      · exact ((HB.out.setCell HBG.out _).setCell HBG.out _).drew
    · have i4 : ¬ ((t : Int) < (n : Int) - 1 - (t : Int)) := by omega
      have HE : Hid (y = z.reverse) := revTo_end HR.out (by rw [HL.out]; omega)
      go_wp2_with fail
      go_end0
      exact ⟨rfl, by rw [← HE.out]; exact HY.out, HB.out⟩

end Go.Proofs.Ytfldfillcmamcaa
/-
  Package path's reached: what a certificate reaches above a round.
-/
namespace Go.Proofs.Ytfldfillcmamcaa
open Go.RowKit

/-! ### flags by a property -/
open Classical in
noncomputable def flP (S : Int → Prop) (j : Nat) : Bool := decide (S (j : Int))
theorem flP_iff {S : Int → Prop} {j : Nat} : flP S j = true ↔ S (j : Int) := by simp [flP]
theorem flP_no {S : Int → Prop} {j : Nat} : flP S j = false ↔ ¬ S (j : Int) := by simp [flP]
theorem flP_congr {S T : Int → Prop} (h : ∀ p, S p ↔ T p) : flP S = flP T := by
  have : S = T := funext fun p => propext (h p)
  rw [this]
theorem flP_off {S : Int → Prop} (h : ∀ p, ¬ S p) : flP S = fun _ => false := funext fun _ => flP_no.2 (h _)
theorem FlagsY.setP {w : World} {B x : Nat} {S T : Int → Prop} (h : FlagsY w B (flP S)) (e : ∀ p, T p ↔ S p ∨ p = (x : Int)) : FlagsY (w.setCell ⟨B, x, none⟩ (.bool true)) B (flP T) :=
  h.set (flP_iff.2 ((e _).2 (.inr rfl))) fun i hi => by
    rw [Bool.eq_iff_iff, flP_iff, flP_iff, e]
    exact ⟨fun h => h.elim id fun h => absurd (by omega) hi, .inl⟩
/-- what the walk carries: the flags, the list -/
structure RC (g : Nat) (N L : Int) (o : Ad) (S : Int → Prop) (z : List Int) (w : World) (v : Value) (n : Nat) (wr : World) : Prop where
  box : Box wr g (dagC N L o)
  fl : FlagsY wr (g + 1) (flP S)
  below : Below g w wr
  own : wr.ownsRow (g + 2) 3 1 v n (i64s z)
  len : z.length = n
section
variable {g : Nat} {N L : Int} {o : Ad} {S T : Int → Prop} {z z' : List Int} {w : World} {v v' : Value} {n n' : Nat} {wr w' : World}
theorem RC.less (h : RC g N L o S z w v n wr) (hb : Below wr.heap.size wr w') : RC g N L o S z w v n w' := by
  have := h.fl.lt
  exact ⟨h.box.below hb (by omega), h.fl.below hb, h.below.trans (hb.mono (by omega)), own_below h.own hb, h.len⟩
theorem RC.as (h : RC g N L o S z w v n wr) (hs : ∀ p, S p ↔ T p) (hz : z = z') : RC g N L o T z' w v n wr := by
  subst hz
  exact ⟨h.box, by rw [← flP_congr hs]; exact h.fl, h.below, h.own, h.len⟩
theorem RC.set (h : RC g N L o S z w v n wr) {x : Nat} (e : ∀ p, T p ↔ S p ∨ p = (x : Int)) : RC g N L o T z w v n (wr.setCell ⟨g + 1, x, none⟩ (.bool true)) :=
  ⟨h.box.far (by omega), h.fl.setP e, h.below.setCell (by show g ≤ g + 1; omega) _, ownsRow_setCell_below h.own (by simp) _, h.len⟩
/-- the list turns, nothing else -/
theorem RC.list (hw : RC g N L o S z w v n w') {w2 : World} (ht : Touch (fun k => v.ownBlock = some k) w' w2) (ho : w2.ownsRow (g + 2) 3 1 v' n' (i64s z')) (hl : z'.length = n') : RC g N L o S z' w v' n' w2 := by
  have hlt := hw.fl.lt
  have hfar : ∀ k, v.ownBlock = some k → g + 2 ≤ k := fun k hk => (own_lt hw.own hk).2
  refine ⟨hw.box.touch ht (fun hf => by have := hfar _ hf; omega), ⟨by have := ht.size; omega, fun j hj => (ht.cell (b := g + 1) hlt (fun hf => by have := hfar _ hf; simp at this)).trans (hw.fl.cell j hj), fun j => (ht.frozen (b := g + 1) hlt (fun hf => by have := hfar _ hf; simp at this)).trans (hw.fl.free j)⟩, hw.below.trans (ht.below (fun k hk => by have := hfar k hk; omega) (by have := hw.box.1; omega)), ho, hl⟩
end
theorem dn_len (f : CrtD → Bool) (l : List CrtD) (k : Nat) : (dnC f l k).length ≤ l.length := by
  unfold dnC
  rw [List.length_reverse, List.length_map]
  exact Nat.le_trans (List.length_filter_le _ _) (by simp)
/-- one number more behind a row -/
theorem wpList_app_i64 (w : World) {ops : Array Oper} {rest : List Oper} {o : Oper} {a : Act} {Q : Exit → Act → World → Prop} (hgd : o.guard = none) (s x : Operand)
    (ho : o.op = .call { callee := .builtin .append, args := #[s, x], argTypes := #[25, 25] })
    (B : Nat) (v : Value) (n : Nat) (zs : List Int) (hs : a.eval s = v) (hown : w.ownsRow B 3 1 v n (i64s zs)) (g : Nat) (p : Int) (hx : a.eval x = .slice (some ⟨g, 0, none⟩) 1 1) (hc : w.cell? ⟨g, 0, none⟩ = some (.int .i64 p)) (hn : n ≤ 1000000) (hB : B ≤ w.heap.size)
    (h : ∀ v' w', w'.ownsRow B 3 1 v' (n + 1) (i64s (zs ++ [p])) → Touch (fun k => v.ownBlock = some k) w w' → wpList Try.prog ops Q rest (a.put o.dst v') w') : wpList Try.prog ops Q (o :: rest) a w := by
  obtain ⟨i, hi, hz, hsize, hbytes⟩ := info_parts info_i64
  refine wpList_append_lies (P := Try.prog) w hgd s x 25 ho B 3 i _ 1 _ Try.underlying25 hi hz hsize hbytes rfl (by decide) v n (i64s zs) hs hown ⟨g, 0, none⟩ 1 1 [.int .i64 p] hx rfl ?_ (fun u hu => by simp at hu; rw [hu]; rfl) (by decide) (by unfold maxLen; omega) (by omega) hB _ rfl ?_
  · intro j y hj
    rw [Addr.add_lit]
    match j, hj with
    | 0, hj => simp at hj; rw [← hj]; exact hc
    | j + 1, hj => simp at hj
  · intro g' c' w' h1 h2 h3 _
    exact h _ w' (by rw [i64s_append]; exact h1) (Touch.grown h2 fun k hk => hk)
theorem wp_scope_label {P : Program} {a : Act} {w : World} {Q : Exit → Act → World → Prop} {c rest : Code} (l : Nat) (J : Act → World → Prop) (μ : Act → World → Nat) (hf : findLabel c l = some (Code.skip.seq rest))
    (pass : ∀ a w, J a w → rest.wp P (Exit.jump l (fun a' w' => J a' w' ∧ μ a' w' < μ a w) Q) a w)
    (first : (∀ a w, J a w → rest.wp P (Exit.jump l J Q) a w) → c.wp P (Exit.jump l J Q) a w) : (Code.scope c).wp P Q a w :=
  wp_scope_jumps l J μ hf (first fun a w h => wp_mono (pass a w h) fun e a' w' hq => by
    cases e <;> first | exact hq | exact ⟨hq.1, hq.2.1⟩) fun a w h => wp_seq (wp_skip (pass a w h))
theorem par_bounds {N : Int} {y : CrtD} (h : y.ok N = true) : ∀ p ∈ y.P, 1 ≤ p ∧ p ≤ 65536 := by
  have h1 := cert_is.1 h
  obtain ⟨m1, m2, m3, m4, m5, m6⟩ : mayB N = true ∧ (1 ≤ y.a ∧ y.a ≤ N) ∧ (1 ≤ y.r ∧ y.r ≤ 1099511627776) ∧ digsB y.B 8 = true ∧ digsB y.P N = true ∧ (if y.r = 1 then y.P.length = 0 else quoN N ≤ (y.P.length : Int)) := by simpa only [hdrB, decide_eq_true_eq] using h1.1
  exact (digsB_iff.1 m5).2.1
/-- at the label: a round -/
inductive ReachJ (g : Nat) (N L : Int) (o : Ad) (l : List CrtD) (x : CrtD) (low : Int) (w : World) : Act → World → Prop
  | mk (u4 u5 u10 u11 u12 u13 u14 u15 u16 u17 u18 u19 u20 u21 u22 u23 u24 u25 u26 u27 u28 u29 u30 u31 u32 u33 u34 u35 u36 u37 u38 u39 u40 u41 u42 u43 u44 u45 u46 u47 u48 u49 u50 u51 u52 u53 u54 u55 u56 u57 u58 u59 u60 u61 u62 u63 u64 u65 u66 u67 u68 u69 u70 u71 u72 u73 u74 u75 u76 u77 u78 u79 u80 u81 u82 u83 u84 : Value) (k : Nat) (R : Int) (v : Value) (n : Nat) (wr : World) : k ≤ o.n → 0 ≤ R → R ≤ 1099511627776 → (∀ j y, j < k → l[j]? = some y → y.r ≤ R) → RC g N L o (NmD L l x k) (dnC (belF L l x low) l k) w v n wr →
      ReachJ g N L o l x low w { tmps := #[.agg #[.int .i64 N, .int .i64 L, .slice o.A o.n o.c], .int .i64 ((k : Int) - 1), .int .i64 low, .pointer (some ⟨g, 0, none⟩), u4, u5, .slice none 0 0, v, .pointer (some ⟨g + 1, 0, none⟩), .int .i64 R, u10, u11, u12, u13, u14, u15, u16, u17, u18, u19, u20, u21, u22, u23, u24, u25, u26, u27, u28, u29, u30, u31, u32, u33, u34, u35, u36, u37, u38, u39, u40, u41, u42, u43, u44, u45, u46, u47, u48, u49, u50, u51, u52, u53, u54, u55, u56, u57, u58, u59, u60, u61, u62, u63, u64, u65, u66, u67, u68, u69, u70, u71, u72, u73, u74, u75, u76, u77, u78, u79, u80, u81, u82, u83, u84], defers := [] } wr
def roundOf (a : Act) : Nat := match a.tmps[9]? with
  | some (Value.int _ z) => z.toNat
  | _ => 0
theorem reachJ_elim {g : Nat} {N L : Int} {o : Ad} {l : List CrtD} {x : CrtD} {low : Int} {w : World} {C : Act → World → Prop}
    (h : ∀ (u4 u5 u10 u11 u12 u13 u14 u15 u16 u17 u18 u19 u20 u21 u22 u23 u24 u25 u26 u27 u28 u29 u30 u31 u32 u33 u34 u35 u36 u37 u38 u39 u40 u41 u42 u43 u44 u45 u46 u47 u48 u49 u50 u51 u52 u53 u54 u55 u56 u57 u58 u59 u60 u61 u62 u63 u64 u65 u66 u67 u68 u69 u70 u71 u72 u73 u74 u75 u76 u77 u78 u79 u80 u81 u82 u83 u84 : Value) (k : Nat) (R : Int) (v : Value) (n : Nat) (wr : World), k ≤ o.n → 0 ≤ R → R ≤ 1099511627776 → (∀ j y, j < k → l[j]? = some y → y.r ≤ R) → RC g N L o (NmD L l x k) (dnC (belF L l x low) l k) w v n wr → C { tmps := #[.agg #[.int .i64 N, .int .i64 L, .slice o.A o.n o.c], .int .i64 ((k : Int) - 1), .int .i64 low, .pointer (some ⟨g, 0, none⟩), u4, u5, .slice none 0 0, v, .pointer (some ⟨g + 1, 0, none⟩), .int .i64 R, u10, u11, u12, u13, u14, u15, u16, u17, u18, u19, u20, u21, u22, u23, u24, u25, u26, u27, u28, u29, u30, u31, u32, u33, u34, u35, u36, u37, u38, u39, u40, u41, u42, u43, u44, u45, u46, u47, u48, u49, u50, u51, u52, u53, u54, u55, u56, u57, u58, u59, u60, u61, u62, u63, u64, u65, u66, u67, u68, u69, u70, u71, u72, u73, u74, u75, u76, u77, u78, u79, u80, u81, u82, u83, u84], defers := [] } wr) :
    ∀ a w', ReachJ g N L o l x low w a w' → C a w' := fun a w' k => by
  cases k with
  | mk u4 u5 u10 u11 u12 u13 u14 u15 u16 u17 u18 u19 u20 u21 u22 u23 u24 u25 u26 u27 u28 u29 u30 u31 u32 u33 u34 u35 u36 u37 u38 u39 u40 u41 u42 u43 u44 u45 u46 u47 u48 u49 u50 u51 u52 u53 u54 u55 u56 u57 u58 u59 u60 u61 u62 u63 u64 u65 u66 u67 u68 u69 u70 u71 u72 u73 u74 u75 u76 u77 u78 u79 u80 u81 u82 u83 u84 k R v n wr h1 h2 h3 h4 h5 => exact h u4 u5 u10 u11 u12 u13 u14 u15 u16 u17 u18 u19 u20 u21 u22 u23 u24 u25 u26 u27 u28 u29 u30 u31 u32 u33 u34 u35 u36 u37 u38 u39 u40 u41 u42 u43 u44 u45 u46 u47 u48 u49 u50 u51 u52 u53 u54 u55 u56 u57 u58 u59 u60 u61 u62 u63 u64 u65 u66 u67 u68 u69 u70 u71 u72 u73 u74 u75 u76 u77 u78 u79 u80 u81 u82 u83 u84 k R v n _ h1 h2 h3 h4 h5

set_option maxRecDepth 100000 in
set_option maxHeartbeats 8000000 in
theorem reached_is (N L low : Int) (o : Ad) (l : List CrtD) (i : Nat) (x : CrtD) (w : World) (h : GIn w o l) (hm : MayG N L l) (hx : l[i]? = some x) :
    Calls Try.prog 79 #[dagV N L o, .int .i64 i, .int .i64 low] w (NewI (belC L l x low) w) := by
  obtain ⟨g, hg⟩ : ∃ g, g = w.heap.size := ⟨_, rfl⟩
  obtain ⟨w1, hw1⟩ : ∃ w1, w1 = w.alloc (.cells (dagC N L o).toArray 24) := ⟨_, rfl⟩
  obtain ⟨hb1, hsz, hx0⟩ := boxes1 w _ _ hw1
  rw [← hg] at hb1 hsz hx0
  have HG : Hid (w.heap.size = g) := hg.symm
  have HW : Hid (w.alloc (.cells #[.int .i64 N, .int .i64 L, .slice o.A o.n o.c] 24) = w1) := hw1.symm
  have HIN : Hid (∀ wX, Below g w wX → GIn wX o l) := fun wX hb => h.below (by rw [← hg]; exact hb)
  have HSZ : Hid (w1.heap.size = g + 1) := hsz
  have HLEN : Hid (l.length = o.n) := h.len
  have hfew := h.few
  have HM := Lib.hid hm
  have HX := Lib.hid hx
  have hin : i < o.n := by have := (List.getElem?_eq_some_iff.1 hx).1; have := h.len; omega
  obtain ⟨hxok, hxl⟩ := hm.of_mem (List.mem_of_getElem? hx)
  obtain ⟨-, -, hxr0, hxd0, hxd1⟩ := CrtD.pl_of hxok
  have hxr1 := (ok_hdr hxok).2.1
  -- the flags
  obtain ⟨w2, hw2⟩ : ∃ w2, w2 = w1.alloc (.cells Try.zeroCells86 86) := ⟨_, rfl⟩
  have hb12 : Below w1.heap.size w1 w2 := by rw [hw2]; exact (Below.refl _ _).alloc (Nat.le_refl _) _
  have hsz2 : w2.heap.size = g + 2 := by rw [hw2]; simp [hsz]
  have hf2 : FlagsY w2 (g + 1) (flP fun _ => False) := by
    have := flagsY_new w1 86
    rw [hsz, ← hw2] at this
    rw [flP_off fun _ h => h]
    exact this
  have hx2 : Box w2 g (dagC N L o) := hx0.below hb12 hx0.1
  have hb2 : Below g w w2 := hb1.trans (hb12.mono (by omega))
  have HW2 : Hid (w1.alloc (.cells Try.zeroCells86 86) = w2) := hw2.symm
  obtain ⟨D, hD⟩ : ∃ D : Nat, x.d = (D : Int) := ⟨x.d.toNat, by omega⟩
  obtain ⟨w3, hw3⟩ : ∃ w3, w3 = w2.setCell ⟨g + 1, D, none⟩ (.bool true) := ⟨_, rfl⟩
  have HW3 : Hid (w2.setCell ⟨g + 1, D, none⟩ (.bool true) = w3) := hw3.symm
  have hsz3 : w3.heap.size = g + 2 := by rw [hw3]; simpa using hsz2
  obtain ⟨lw, hlw⟩ : ∃ lw, lw = if low < L then L else low := ⟨_, rfl⟩
  have hrc3 : RC g N L o (NmD L l x (i + 1)) (dnC (belF L l x lw) l (i + 1)) w (.slice none 0 0) 0 w3 := by
    refine ⟨by rw [hw3]; exact hx2.far (by omega), ?_, by rw [hw3]; exact hb2.setCell (by show g ≤ g + 1; omega) _, ?_, ?_⟩
    · rw [hw3]
      refine hf2.setP fun p => ?_
      rw [nm_start hm hx (Nat.lt_succ_self i), hD]
      simp
    · rw [dnC_start hm hx]; exact World.ownsRow_nil _ _ _ _
    · rw [dnC_start hm hx]; rfl
  have HRC3 := Lib.hid hrc3
  have HR3 : Hid (∀ j y, j < i + 1 → l[j]? = some y → y.r ≤ x.r) := fun j y hj hy => by
    rcases Nat.lt_or_ge j i with h1 | h1
    · have := aheadB_iff.1 (hm.asc j i y x h1 hy hx)
      omega
    · obtain rfl : j = i := by omega
      rw [hx] at hy; cases hy; exact Int.le_refl _
  have HN : Hid (belC L l x low = belC L l x lw) := by show _ = _; rw [hlw]; exact (bel_max hm low).symm
  have HLW : Hid (lw = if low < L then L else low) := hlw
  obtain ⟨b, off, a, hA, hbl, hfit, hce⟩ := h.get hx
  have HCE : Hid (∀ wX, Below g w wX → CrtAt wX b off i x a) := fun wX hb => hce wX (by rw [HG.out]; exact hb)
  have HGET : Hid (∀ (j : Nat) (y : CrtD), l[j]? = some y → ∃ a : CrtA, CrtFit y ∧ ∀ wX, Below g w wX → CrtAt wX b off j y a) := fun j y hy => by
    obtain ⟨b', off', a', h1, h2, h3, h4⟩ := h.get hy
    rw [hA] at h1
    cases h1
    exact ⟨a', h3, fun wX hb => h4 wX (by rw [HG.out]; exact hb)⟩
  have HBL : Hid (b < g) := by show b < g; omega
  obtain ⟨k0, k1, k2, k3, k4, k5, -⟩ := HCE.out w2 hb2
  obtain ⟨j0, j1, j2, j3, j4, j5, -⟩ := HCE.out w3 hrc3.below
  obtain ⟨d0, d1, d2⟩ := dag_cells hx0
  obtain ⟨e0, e1, e2⟩ := dag_cells hx2
  obtain ⟨f0, f1, f2⟩ := dag_cells hrc3.box
  rw [hD] at k4
  have z4 := hf2.cell D (by omega)
  have z5 := hf2.free D
  have i0 : (0 : Int) ≤ (i : Int) := by omega
  have i1 : (i : Int) < (o.n : Int) := by omega
  have i2 : (0 : Int) ≤ (D : Int) := by omega
  have i3 : (D : Int) < 65537 := by omega
  rw [hA] at d2 e2 f2
  have HA := Lib.hid hA
  clear hA hw1 hsz hw2 hb12 hsz2 hf2 hx2 hb2 hw3 hsz3 hrc3 hlw hce h hm hx hxok hxl hx0 hb1 hg hfit
  unfold dagV
  go_enter Try.func79, Try.ntmps79
  have hL0 := HM.out.l0
  have hL1 := HM.out.l1
  go_upto_region 1 with fail
  refine wp_scope_label 0 (ReachJ g N L o l x lw w) (fun a _ => roundOf a) rfl ?_ ?_
  · refine reachJ_elim ?_
    intro u4 u5 u10 u11 u12 u13 u14 u15 u16 u17 u18 u19 u20 u21 u22 u23 u24 u25 u26 u27 u28 u29 u30 u31 u32 u33 u34 u35 u36 u37 u38 u39 u40 u41 u42 u43 u44 u45 u46 u47 u48 u49 u50 u51 u52 u53 u54 u55 u56 u57 u58 u59 u60 u61 u62 u63 u64 u65 u66 u67 u68 u69 u70 u71 u72 u73 u74 u75 u76 u77 u78 u79 u80 u81 u82 u83 u84 k R v n wr hk hR0 hR1 hle hrc
    have HLE : Hid (∀ j y, j < k → l[j]? = some y → y.r ≤ R) := hle
    have HRC := Lib.hid hrc
    have hlw0 : 0 ≤ lw ∧ L ≤ lw := by have := HLW.out; split at this <;> omega
    obtain ⟨d0, d1, d2⟩ := dag_cells hrc.box
    have hnn : n ≤ 1000000 := by have := dn_len (belF L l x lw) l k; have := hrc.len; have := HLEN.out; omega
    have HNN : Hid (∀ q, (dnC (belF L l x lw) l q).length ≤ 1000000) := fun q => by have := dn_len (belF L l x lw) l q; have := HLEN.out; omega
    rw [HA.out] at d2
    by_cases hRl : R ≤ lw
    · obtain ⟨A', c', rfl, -⟩ := ownS_slice hrc.own
      have HRV := Lib.hid (reverse_is (g + 2) ⟨A', n, c'⟩ _ wr hrc.own hrc.len hnn (by have := hrc.fl.lt; omega))
      have HEND : Hid ((dnC (belF L l x lw) l k).reverse = belC L l x low) := by show _ = _; rw [HN.out]; exact dnC_end fun j y hj hy => Int.le_trans (hle j y hj hy) hRl
      have HLN : Hid (n = (belC L l x low).length) := by show _ = _; rw [← HEND.out, List.length_reverse]; exact hrc.len.symm
      clear hle hrc
      go_wp2_with (go_at_call 101; refine HRV.out.mono ?_; rintro e w5 ⟨rfl, ho5, hb5⟩)
      simp only [Exit.jump]
      go_ret
      have ho6 := ho5
      rw [HEND.out] at ho6
      exact newI_of (own_more ho6 (by rw [HG.out]; omega)) HLN.out (by rw [HG.out]; exact HRC.out.below.trans (hb5.mono (by omega)))
    · clear hle hrc
      go_upto_region 9 with fail
      go_loopw [1, 7] (fun u v' wr' => ∃ m n' : Nat, u = .int .i64 ((m : Int) - 1) ∧ m ≤ k ∧ Hid (RC g N L o (NmD L l x m) (dnC (belF L l x lw) l m) w v' n' wr')) (fun u _ _ => (intOf u + 1).toNat)
      case atStart => exact ⟨k, n, rfl, Nat.le_refl _, HRC.out⟩
      case round =>
        clear d0 d1 d2
        obtain ⟨m, n', rfl, hmk, HRM⟩ := hrel
        obtain ⟨d0, d1, d2⟩ := dag_cells HRM.out.box
        rw [HA.out] at d2
        rcases Nat.eq_zero_or_pos m with hm0 | hm0
        · subst hm0
          have e1 : ((0 : Nat) : Int) - 1 = -1 := rfl
          rw [e1]
          go_wp2_with fail
          go_step3
          show 0 = 0 ∧ (ReachJ g N L o l x lw w _ _ ∧ roundOf _ < _)
          refine ⟨rfl, .mk _ _ _ _ _ _ _ _ _ _ _ _ _ _ _ _ _ _ _ _ _ _ _ _ _ _ _ _ _ _ _ _ _ _ _ _ _ _ _ _ _ _ _ _ _ _ _ _ _ _ _ _ _ _ _ _ _ _ _ _ _ _ _ _ _ _ _ _ _ _ _ _ _ _ _ _ _ 0 (R - 1) u7 n' wr (Nat.zero_le _) (by omega) (by omega) (fun j y hj => absurd hj (Nat.not_lt_zero _)) HRM.out, ?_⟩
          show (R - 1).toNat < R.toNat
          omega
        · obtain ⟨m, rfl⟩ : ∃ m', m = m' + 1 := ⟨m - 1, by omega⟩
          have e1 : ((m + 1 : Nat) : Int) - 1 = (m : Int) := by omega
          rw [e1]
          have hmo : m < o.n := by omega
          obtain ⟨y, hy⟩ : ∃ y, l[m]? = some y := ⟨_, List.getElem?_eq_getElem (by rw [HLEN.out]; exact hmo)⟩
          obtain ⟨a', hfit, hce⟩ := HGET.out m y hy
          have hyR := HLE.out m y (by omega) hy
          have HY := Lib.hid hy
          have HCY : Hid (∀ wX, Below g w wX → CrtAt wX b off m y a') := hce
          have HFY := Lib.hid hfit
          obtain ⟨k0, k1, k2, k3, k4, k5, -⟩ := HCY.out wr HRM.out.below
          have i4 : (0 : Int) ≤ (m : Int) := by omega
          have i5 : (m : Int) < (o.n : Int) := by omega
          clear hy hfit hce
          by_cases hyr : y.r = R
          · have j1 : (y.r == R) = true := by simp [hyr]
            have hmem := List.mem_of_getElem? HY.out
            obtain ⟨hyok, hyl⟩ := HM.out.of_mem hmem
            obtain ⟨-, -, -, hyd0, hyd1⟩ := CrtD.pl_of hyok
            obtain ⟨E, hE⟩ : ∃ E : Nat, y.d = (E : Int) := ⟨y.d.toNat, by omega⟩
            have HPB : Hid (∀ p ∈ y.P, 1 ≤ p ∧ p ≤ 65536) := par_bounds hyok
            have HYD := Lib.hid hE
            have HRX : Hid (NmD L l x (m + 1) y.d ↔ Rch L l x y) := nm_is HM.out (List.mem_of_getElem? HX.out) HY.out
            have HST : Hid (∀ p, NmD L l x m p ↔ NmD L l x (m + 1) p ∨ (Rch L l x y ∧ L + 1 < y.r ∧ p ∈ y.P)) := fun p => nm_step HY.out p
            have HDN : Hid (dnC (belF L l x lw) l m = dnC (belF L l x lw) l (m + 1) ++ (if belF L l x lw y then [y.d] else [])) := dnC_step HY.out
            have hlow : decide (lw < y.r) = true := by simp; omega
            have HBF : Hid (belF L l x lw y = rchB L l x y) := by show _ = _; unfold belF; rw [hlow, Bool.and_true]
            have HPF : Hid (y.P.length ≤ 100000) := HFY.out.lP
            have hE0 : (0 : Int) ≤ (E : Int) := by omega
            have hE1 : (E : Int) < 65537 := by omega
            have hE2 : E < 65537 := by omega
            obtain ⟨ya, yr, yB, yP, yd, yS⟩ := y
            obtain ⟨aB, ⟨PA, pn, pc⟩, aS⟩ := a'
            dsimp only at hE hyr k0 k1 k2 k3 k4 k5 j1 hyl
            subst hE hyr
            clear hlow hyok hyd0 hyd1 hmem hyR
            go_upto_region 12 with fail
            obtain ⟨G, hG⟩ : ∃ G, G = wr.heap.size := ⟨_, rfl⟩
            obtain ⟨w5, hw5⟩ : ∃ w5, w5 = wr.alloc (.cells (crtC ⟨ya, yr, yB, yP, E, yS⟩ ⟨aB, ⟨PA, pn, pc⟩, aS⟩).toArray 45) := ⟨_, rfl⟩
            obtain ⟨hb5, hs5, hx5⟩ := boxes1 wr _ _ hw5
            rw [← hG] at hs5 hx5
            have HGE : Hid (wr.heap.size = G) := hG.symm
            have HW5 : Hid (wr.alloc (.cells #[.int .i64 ya, .int .i64 yr, .slice aB.A aB.n aB.c, .slice PA pn pc, .int .i64 E, .slice aS.A aS.n aS.c] 45) = w5) := hw5.symm
            rw [HGE.out, HW5.out]
            have HR5 := Lib.hid (HRM.out.less hb5)
            have HX5 := Lib.hid hx5
            have HOLT : Hid (∀ q, u7.ownBlock = some q → q < G) := fun q hq => by have := (own_lt HRM.out.own hq).1; rw [hG]; exact this
            have HGG : Hid (g + 1 < G) := by have := HRM.out.fl.lt; show _ < _; omega
            clear hw5 hb5 hG hs5 d0 d1 d2 k0 k1 k2 k3 k4 k5
            obtain ⟨c0, c1, c2, c3, c4, c5⟩ := crt_cells hx5
            obtain ⟨d0, d1, d2⟩ := dag_cells HR5.out.box
            have hfl := HR5.out.fl.cell E hE2
            cases hrch : flP (NmD L l x (m + 1)) E with
            | false =>
              have hnr : ¬ Rch L l x ⟨ya, yr, yB, yP, E, yS⟩ := fun hr => flP_no.1 hrch (HRX.out.2 hr)
              have HRM2 : Hid (RC g N L o (NmD L l x m) (dnC (belF L l x lw) l m) w u7 n' w5) := HR5.out.as (fun p => ⟨fun h => (HST.out p).2 (.inl h), fun h => ((HST.out p).1 h).elim id fun h => absurd h.1 hnr⟩) (by rw [HDN.out, HBF.out, rchB_no.2 hnr]; simp)
              rw [hrch] at hfl
              clear hrch hnr
              go_wp2_with fail
              go_roundw
              case rel => exact ⟨m, n', rfl, by omega, HRM2.out⟩
              case measure => simp [intOf]
            | true =>
              have hyr' : Rch L l x ⟨ya, yr, yB, yP, E, yS⟩ := HRX.out.1 (flP_iff.1 hrch)
              have HZ : Hid (dnC (belF L l x lw) l m = dnC (belF L l x lw) l (m + 1) ++ [(E : Int)]) := by show _ = _; rw [HDN.out, HBF.out, rchB_iff.2 hyr']; rfl
              have HST2 : Hid (∀ p, NmD L l x m p ↔ NmD L l x (m + 1) p ∨ (L + 1 < yr ∧ p ∈ yP)) := fun p => (HST.out p).trans ⟨fun h => h.imp id (·.2), fun h => h.imp id fun h => ⟨hyr', h⟩⟩
              rw [hrch] at hfl
              clear hrch hyr'
              go_upto_region 13 with fail
              have hn' : n' ≤ 1000000 := by rw [← HRM.out.len]; exact HNN.out _
              go_wp2_with (at_builtin; refine wpList_app_i64 _ rfl _ _ rfl (g + 2) u7 n' _ rfl (HR5.out.own.alloc _) w5.heap.size E rfl (cell_new _ _ _) hn' (by have := HR5.out.fl.lt; simp; omega) ?_)
              intro v6 w6 ho6 ht6
              have HRA : Hid (RC g N L o (NmD L l x (m + 1)) (dnC (belF L l x lw) l m) w v6 (n' + 1) w6) := by
                have hal : Below w5.heap.size w5 (w5.alloc (.cells #[.int .i64 (E : Int)] 3)) := (Below.refl _ _).alloc (Nat.le_refl _) _
                have := (HR5.out.less hal).list ht6 ho6 (by rw [List.length_append, HRM.out.len]; rfl)
                rwa [← HZ.out] at this
              have HX6 : Hid (Box w6 G (crtC ⟨ya, yr, yB, yP, E, yS⟩ ⟨aB, ⟨PA, pn, pc⟩, aS⟩)) := (HX5.out.below ((Below.refl _ _).alloc (Nat.le_refl _) (.cells #[.int .i64 (E : Int)] 3)) HX5.out.1).touch ht6 fun hf => by have := HOLT.out G hf; omega
              clear ho6 ht6 hfl c0 c1 c2 c3 c4 c5 d0 d1 d2 hx5
              obtain ⟨c0, c1, c2, c3, c4, c5⟩ := crt_cells HX6.out
              obtain ⟨d0, d1, d2⟩ := dag_cells HRA.out.box
              dsimp only at c3
              by_cases hRL : L + 1 < yr
              · go_upto_region 15 with fail
                go_wp2_with fail
                have hpn : pn ≤ 100000 := by have := HPF.out; have := (HCY.out _ HRA.out.below).in_.p.len; dsimp only at *; omega
                have HPL : Hid (yP.length = pn) := (HCY.out _ HRA.out.below).in_.p.len
                go_loopw [76] (fun u wr2 => ∃ q : Nat, u = .int .i64 q ∧ q ≤ pn ∧ Hid (RC g N L o (fun p => NmD L l x (m + 1) p ∨ p ∈ yP.take q) (dnC (belF L l x lw) l m) w v6 (n' + 1) wr2)) (fun u _ => pn - (intOf u).toNat)
                case atStart => exact ⟨0, rfl, Nat.zero_le _, HRA.out.as (fun p => by simp) rfl⟩
                case round =>
                  clear c0 c1 c2 c3 c4 c5 d0 d1 d2
                  obtain ⟨q, rfl, hq, HRQ⟩ := hrel
                  by_cases hlt : q < pn
                  · obtain ⟨p, hp⟩ : ∃ p, yP[q]? = some p := ⟨_, List.getElem?_eq_getElem (by rw [HPL.out]; exact hlt)⟩
                    have hpb := HPB.out p (List.mem_of_getElem? hp)
                    obtain ⟨F, hF⟩ : ∃ F : Nat, p = (F : Int) := ⟨p.toNat, by omega⟩
                    subst hF
                    obtain ⟨b2, off2, hPA, hbl2, hcell⟩ := (HCY.out _ HRQ.out.below).in_.p.rd.open_ (by rw [i64s_length, HPL.out]; omega)
                    dsimp only at hPA
                    subst hPA
                    have hc1 := hcell q (.int .i64 F) (by simp [i64s, hp])
                    have HRS : Hid (RC g N L o (fun p => NmD L l x (m + 1) p ∨ p ∈ yP.take (q + 1)) (dnC (belF L l x lw) l m) w v6 (n' + 1) (_root_.Go.World.setCell _ ⟨g + 1, F, none⟩ (.bool true))) := HRQ.out.set fun p => by
                      rw [List.take_add_one, hp]
                      simp [or_assoc]
                    have hfl := HRQ.out.fl.cell F (by omega)
                    have hfz := HRQ.out.fl.free F
                    have i6 : (0 : Int) ≤ (q : Int) := by omega
                    have i7 : (q : Int) < (pn : Int) := by omega
                    have i8 : (0 : Int) ≤ (F : Int) := by omega
                    have i9 : (F : Int) < 65537 := by omega
                    clear hp hpb hcell
                    go_wp2_with fail
                    go_roundw
                    case rel => exact ⟨q + 1, by go_num, hlt, HRS.out⟩
                    case measure => simp [intOf]; omega
                  · obtain rfl : q = pn := by omega
                    have i7 : ¬ ((q : Int) < (q : Int)) := by omega
                    have HRZ : Hid (RC g N L o (NmD L l x m) (dnC (belF L l x lw) l m) w v6 (n' + 1) _) := HRQ.out.as (fun p => by
                      rw [HST2.out p, List.take_of_length_le (by rw [HPL.out]; exact Nat.le_refl _)]
                      exact ⟨fun h => h.imp id fun h => ⟨hRL, h⟩, fun h => h.imp id (·.2)⟩) rfl
                    clear hlt
                    go_wp2_with fail
                    go_roundw
                    case rel => exact ⟨m, n' + 1, rfl, by omega, HRZ.out⟩
                    case measure => simp [intOf]
              · have HRZ : Hid (RC g N L o (NmD L l x m) (dnC (belF L l x lw) l m) w v6 (n' + 1) w6) := HRA.out.as (fun p => by
                  rw [HST2.out p]
                  exact ⟨.inl, fun h => h.elim id fun h => absurd h.1 hRL⟩) rfl
                go_wp2_with fail
                go_roundw
                case rel => exact ⟨m, n' + 1, rfl, by omega, HRZ.out⟩
                case measure => simp [intOf]
          · have j1 : (y.r == R) = false := by simp [hyr]
            have HLT : Hid (∀ j z, j < m + 1 → l[j]? = some z → z.r ≤ R - 1) := fun j z hj hz => by
              have h1 : z.r ≤ y.r := by
                rcases Nat.lt_or_ge j m with h2 | h2
                · have := aheadB_iff.1 (HM.out.asc j m z y h2 hz HY.out)
                  omega
                · obtain rfl : j = m := by omega
                  rw [HY.out] at hz; cases hz; exact Int.le_refl _
              omega
            go_wp2_with fail
            go_step3
            show 0 = 0 ∧ (ReachJ g N L o l x lw w _ _ ∧ roundOf _ < _)
            rw [← e1]
            refine ⟨rfl, .mk _ _ _ _ _ _ _ _ _ _ _ _ _ _ _ _ _ _ _ _ _ _ _ _ _ _ _ _ _ _ _ _ _ _ _ _ _ _ _ _ _ _ _ _ _ _ _ _ _ _ _ _ _ _ _ _ _ _ _ _ _ _ _ _ _ _ _ _ _ _ _ _ _ _ _ _ _ (m + 1) (R - 1) u7 n' wr (by omega) (by omega) (by omega) HLT.out HRM.out, ?_⟩
            show (R - 1).toNat < R.toNat
            omega
  · intro HREST
    go_upto_region 2 with fail
    rw [HG.out, HW.out]
    go_upto_region 3 with fail
    rw [HSZ.out, HW2.out]
    go_upto_region 4 with fail
    rw [HW3.out]
    have hi1 : ((i + 1 : Nat) : Int) - 1 = (i : Int) := by omega
    by_cases hll : low < L
    · obtain rfl : lw = L := by rw [HLW.out, if_pos hll]
      go_upto_region 6 with fail
      go_step3
      rename_i hK
      refine hK _ _ (HREST _ _ ?_)
      rw [← hi1]
      exact .mk _ _ _ _ _ _ _ _ _ _ _ _ _ _ _ _ _ _ _ _ _ _ _ _ _ _ _ _ _ _ _ _ _ _ _ _ _ _ _ _ _ _ _ _ _ _ _ _ _ _ _ _ _ _ _ _ _ _ _ _ _ _ _ _ _ _ _ _ _ _ _ _ _ _ _ _ _ (i + 1) x.r (.slice none 0 0) 0 w3 (by omega) (by omega) (by omega) HR3.out HRC3.out
    · obtain rfl : lw = low := by rw [HLW.out, if_neg hll]
      go_upto_region 6 with fail
      go_step3
      rename_i hK
      refine hK _ _ (HREST _ _ ?_)
      rw [← hi1]
      exact .mk _ _ _ _ _ _ _ _ _ _ _ _ _ _ _ _ _ _ _ _ _ _ _ _ _ _ _ _ _ _ _ _ _ _ _ _ _ _ _ _ _ _ _ _ _ _ _ _ _ _ _ _ _ _ _ _ _ _ _ _ _ _ _ _ _ _ _ _ _ _ _ _ _ _ _ _ _ (i + 1) x.r (.slice none 0 0) 0 w3 (by omega) (by omega) (by omega) HR3.out HRC3.out

end Go.Proofs.Ytfldfillcmamcaa
