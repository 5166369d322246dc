/-
  Package dag's Check.
-/
import Derived.Test.YtejkeccoialogaaYMiss
import Derived.Test.YtejkeccoialogaaCalm
namespace Go.Proofs.Ytejkeccoialogaa
open Go.RowKit

/-! ### the flags -/
def isOff : Value → Bool
  | .bool b => !b
  | _ => false
theorem zs_off : Try.zeroCells86.toList.all isOff = true := by kernel_rfl
structure FlagsY (w : World) (B : Nat) (s : Nat → Bool) : Prop where
  lt : B < w.heap.size
  cell : ∀ j, j < 65537 → w.cell? ⟨B, j, none⟩ = some (.bool (s j))
  free : ∀ j, w.frozen? ⟨B, j, none⟩ = false
theorem flagsY_new (w : World) (T : TypeId) : FlagsY (w.alloc (.cells Try.zeroCells86 T)) w.heap.size (fun _ => false) := by
  refine ⟨by simp, fun j hj => ?_, fun j => by rw [World.frozen?, heap_alloc_new]; simp⟩
  rw [World.cell?_alloc_at _ _ _ _ rfl]
  have hl : j < Try.zeroCells86.toList.length := by rw [Array.length_toList, Try.zeroCells86_size]; exact hj
  have h1 := List.all_eq_true.1 zs_off _ (List.getElem_mem hl)
  have h2 : Try.zeroCells86[j]? = some (Try.zeroCells86.toList[j]) := by
    rw [← Array.getElem?_toList, List.getElem?_eq_getElem hl]
  rw [h2]
  cases hv : Try.zeroCells86.toList[j] with
  | bool b =>
    rw [hv] at h1
    simp only [isOff, Bool.not_eq_true'] at h1
    rw [h1]
  | _ => rw [hv] at h1; simp [isOff] at h1
theorem FlagsY.below {w w' : World} {B : Nat} {s : Nat → Bool} (h : FlagsY w B s) (hb : Below w.heap.size w w') : FlagsY w' B s :=
  ⟨Nat.lt_of_lt_of_le h.lt hb.size, fun j hj => (hb.cell (p := ⟨B, j, none⟩) h.lt).trans (h.cell j hj), fun j => (hb.frozen (p := ⟨B, j, none⟩) h.lt).trans (h.free j)⟩
theorem FlagsY.set {w : World} {B x : Nat} {s u : Nat → Bool} (h : FlagsY w B s) (hx : u x = true) (e : ∀ j, j ≠ x → u j = s j) : FlagsY (w.setCell ⟨B, x, none⟩ (.bool true)) B u where
  lt := by simpa using h.lt
  cell := fun j hj => by
    by_cases hjx : j = x
    · subst hjx
      rw [hx]
      exact World.cell?_setCell_same _ _ _ (h.cell j hj)
    · rw [World.cell?_setCell_other _ _ _ _ (fun h => hjx (by cases h; rfl)), e j hjx]
      exact h.cell j hj
  free := fun j => by rw [World.frozen?_setCell]; exact h.free j
def seenD (l : List CrtD) (k j : Nat) : Bool := (l.take k).any fun y => decide (y.d = (j : Int))
theorem seenD_zero (l : List CrtD) (j : Nat) : seenD l 0 j = false := by simp [seenD]
theorem seenD_next {l : List CrtD} {k : Nat} {x : CrtD} (h : l[k]? = some x) (j : Nat) : seenD l (k + 1) j = (seenD l k j || decide (x.d = (j : Int))) := by
  unfold seenD
  rw [List.take_add_one, h, List.any_append]
  simp
theorem seenD_iff {l : List CrtD} {k j : Nat} : seenD l k j = true ↔ ∃ (i : Nat) (y : CrtD), i < k ∧ l[i]? = some y ∧ y.d = (j : Int) := by
  unfold seenD
  rw [List.any_eq_true]
  constructor
  · rintro ⟨y, hy, hd⟩
    obtain ⟨i, hi, hy⟩ := mem_take_at hy
    exact ⟨i, y, hi, hy, by simpa using hd⟩
  · rintro ⟨i, y, hi, hy, hd⟩
    exact ⟨y, List.mem_of_getElem? (by rw [List.getElem?_take, if_pos hi]; exact hy), by simpa using hd⟩

/-- the rows ahead of k may be -/
def RowsTo (N L : Int) (l : List CrtD) (k : Nat) : Prop := ∀ (i : Nat) (x : CrtD), i < k → l[i]? = some x → RowOk N L l i x
theorem RowsTo.next {N L : Int} {l : List CrtD} {k : Nat} (h : RowsTo N L l k) (hk : ∀ x, l[k]? = some x → RowOk N L l k x) : RowsTo N L l (k + 1) := fun i x hi hx => by
  rcases Nat.lt_or_ge i k with h1 | h1
  · exact h i x h1 hx
  · have : i = k := by omega
    subst this
    exact hk x hx
/-- what the first loop carries -/
structure CK (g : Nat) (N L : Int) (o : Ad) (l : List CrtD) (w : World) (k : Nat) (wr : World) : Prop where
  box : Box wr g (dagC N L o)
  fl : FlagsY wr (g + 1) (seenD l k)
  below : Below g w wr
  rows : RowsTo N L l k
/-- a number that says whether it may be -/
def SaysG (N L : Int) (l : List CrtD) (z : Int) : Prop := (z = 0 ∧ MayG N L l) ∨ (z = 1 ∧ ¬ MayG N L l)

set_option maxRecDepth 100000 in
set_option maxHeartbeats 8000000 in
theorem check_any (N L : Int) (o : Ad) (l : List CrtD) (w : World) (h : GIn w o l) :
    Calls Try.prog 21 #[dagV N L o] w fun e w' => ∃ z, e = .returned (.int .i64 z) ∧ SaysG N L l z ∧ Below w.heap.size w w' := by
  obtain ⟨g, hg⟩ : ∃ g, g = w.heap.size := ⟨_, rfl⟩
  obtain ⟨w1, hw1⟩ : ∃ w1, w1 = w.alloc (.cells (dagC N L o).toArray 24) := ⟨_, rfl⟩
  have hb1 : Below g w w1 := by rw [hw1, hg]; exact (Below.refl _ _).alloc (Nat.le_refl _) _
  have hsz : w1.heap.size = g + 1 := by rw [hw1, hg]; simp
  have hbx : Box w1 g (dagC N L o) := by rw [hw1, hg]; exact box_new _ _ _
  have hlen := h.len
  have hn1 := h.few
  have hget : ∀ (i : Nat) (x : CrtD), l[i]? = some x → ∃ (b off : Nat) (a : CrtA), o.A = some ⟨b, off, none⟩ ∧ b < g ∧ CrtFit x ∧ ∀ wX, Below g w wX → CrtAt wX b off i x a := fun i x hx => by rw [hg]; exact h.get hx
  have HIN : Hid (∀ wX, Below g w wX → GIn wX o l) := fun wX hb => h.below (by rw [← hg]; exact hb)
  have HG : Hid (g = w.heap.size) := hg
  have HW : Hid (w1 = w.alloc (.cells #[.int .i64 N, .int .i64 L, .slice o.A o.n o.c] 24)) := hw1
  have HS := Lib.hid hsz
  have HX := Lib.hid hbx
  have HB := Lib.hid hb1
  obtain ⟨d0, d1, d2⟩ := dag_cells hbx
  have HGET := Lib.hid hget
  have HL := Lib.hid hlen
  clear hw1 hsz hbx hb1 hlen hget h
  rw [← hg]
  clear hg
  unfold dagV
  -- the head
  have hbad : ¬ MayG N L l → ∀ wX : World, Below g w wX → ∃ z, Ending.returned (.int .i64 1) = .returned (.int .i64 z) ∧ SaysG N L l z ∧ Below g w wX := fun h wX hb => ⟨1, rfl, .inr ⟨rfl, h⟩, hb⟩
  have HBAD := Lib.hid hbad
  clear hbad
  cases hm : may N with
  | false =>
    have HM := Lib.hid hm
    have HN : Hid (¬ MayG N L l) := fun h => by have := h.n; rw [← may_mayB, hm] at this; cases this
    clear hm
    go_enter Try.func21, Try.ntmps21
    go_upto_region 1 with fail
    rw [HG.out.symm, ← HW.out]
    go_wp2_with (go_at_call 61; refine (check_no N HM.out _).mono ?_; rintro e w' ⟨rfl, rfl⟩)
    go_ret
    exact HBAD.out HN.out _ HB.out
  | true =>
    have HM := Lib.hid hm
    clear hm
    by_cases h1 : L < 0
    · have HN : Hid (¬ MayG N L l) := fun h => by have := h.l0; omega
      go_enter Try.func21, Try.ntmps21
      go_upto_region 1 with fail
      rw [HG.out.symm, ← HW.out]
      go_wp2_with (go_at_call 61; refine (check_yes N HM.out _).mono ?_; rintro e w' ⟨rfl, rfl⟩)
      go_ret
      exact HBAD.out HN.out _ HB.out
    by_cases h2 : 1099511627776 < L
    · have HN : Hid (¬ MayG N L l) := fun h => by have := h.l1; omega
      go_enter Try.func21, Try.ntmps21
      go_upto_region 1 with fail
      rw [HG.out.symm, ← HW.out]
      go_wp2_with (go_at_call 61; refine (check_yes N HM.out _).mono ?_; rintro e w' ⟨rfl, rfl⟩)
      go_ret
      exact HBAD.out HN.out _ HB.out
    by_cases h3 : 65536 < o.n
    · have HN : Hid (¬ MayG N L l) := fun h => by have := h.few; have := HL.out; omega
      have i3 : (65536 : Int) < (o.n : Int) := by omega
      go_enter Try.func21, Try.ntmps21
      go_upto_region 1 with fail
      rw [HG.out.symm, ← HW.out]
      go_wp2_with (go_at_call 61; refine (check_yes N HM.out _).mono ?_; rintro e w' ⟨rfl, rfl⟩)
      go_ret
      exact HBAD.out HN.out _ HB.out
    have i3 : ¬ ((65536 : Int) < (o.n : Int)) := by omega
    have hL : 0 ≤ L ∧ L ≤ 1099511627776 := by omega
    have HLL := Lib.hid hL
    have HMC : Hid (RowsTo N L l l.length → (∀ x ∈ l, lacksC L l x = []) → MayG N L l) := fun hr hp => ⟨by rw [← may_mayB]; exact HM.out, hL.1, hL.2, by have := HL.out; omega, fun i x hx => hr i x (List.getElem?_eq_some_iff.1 hx).1 hx, hp⟩
    go_enter Try.func21, Try.ntmps21
    go_upto_region 1 with fail
    rw [HG.out.symm, ← HW.out]
    go_upto_region 3 with (go_at_call 61; refine (check_yes N HM.out _).mono ?_; rintro e w' ⟨rfl, rfl⟩)
    clear h1 h2 h3 i3 hL
    go_upto_region 4 with fail
    rw [HS.out]
    obtain ⟨w2, hw2⟩ : ∃ w2, w2 = w1.alloc (.cells Try.zeroCells86 86) := ⟨_, rfl⟩
    rw [← hw2]
    have hb12 : Below w1.heap.size w1 w2 := by rw [hw2]; exact (Below.refl _ _).alloc (Nat.le_refl _) _
    have hck : CK g N L o l w 0 w2 := by
      have hs := HS.out
      refine ⟨HX.out.below hb12 (by omega), ?_, HB.out.trans (hb12.mono (by omega)), fun i x hi => by omega⟩
      have := flagsY_new w1 86
      rw [hs, ← hw2] at this
      exact ⟨this.lt, fun j hj => by rw [seenD_zero]; exact this.cell j hj, this.free⟩
    have HCK := Lib.hid hck
    obtain ⟨d0, d1, d2⟩ := dag_cells hck.box
    clear hw2 hb12 hck
    obtain ⟨A, n, c⟩ := o
    simp only at hn1 d2
    have HLN : Hid (l.length = n) := HL.out
    go_wp2_with fail
    go_loopw [31] (fun i wr => ∃ k : Nat, i = .int .i64 k ∧ k ≤ n ∧ Hid (CK g N L ⟨A, n, c⟩ l w k wr)) (fun i _ => n - (intOf i).toNat)
    case atStart => exact ⟨0, rfl, by omega, HCK.out⟩
    case round =>
      clear d0 d1 d2
      obtain ⟨k, rfl, hk, HC⟩ := hrel
      by_cases hlt : k < n
      · obtain ⟨x, hx⟩ : ∃ x, l[k]? = some x := ⟨_, List.getElem?_eq_getElem (by rw [HLN.out]; exact hlt)⟩
        obtain ⟨b, off, a, rfl, hbl, hfit, hce⟩ := HGET.out _ _ hx
        have hat := hce _ HC.out.below
        obtain ⟨k0, k1, k2, k3, k4, k5, hcin⟩ := hat
        obtain ⟨ws, hws⟩ : ∃ ws, ws = wr.alloc (.cells (crtC x a).toArray 37) := ⟨_, rfl⟩
        have hbs : Below wr.heap.size wr ws := by rw [hws]; exact (Below.refl _ _).alloc (Nat.le_refl _) _
        have hcb : Box ws wr.heap.size (crtC x a) := by rw [hws]; exact box_new _ _ _
        have HWS : Hid (ws = wr.alloc (.cells #[.int .i64 x.a, .int .i64 x.r, .slice a.B.A a.B.n a.B.c, .slice a.P.A a.P.n a.P.c, .int .i64 x.d, .slice a.S.A a.S.n a.S.c] 37)) := hws
        clear hws
        have i0 : (0 : Int) ≤ (k : Int) := by omega
        have i1 : (k : Int) < (n : Int) := by omega
        obtain ⟨d0, d1, d2⟩ := dag_cells HC.out.box
        go_upto_region 7 with fail
        rw [← HWS.out]
        have hs0 := HC.out.fl.lt
        have hbws := HC.out.below.trans (hbs.mono (by omega))
        have hds : Box ws g (dagC N L ⟨some ⟨b, off, none⟩, n, c⟩) := HC.out.box.below hbs (by omega)
        have hfs : FlagsY ws (g + 1) (seenD l k) := HC.out.fl.below hbs
        have hcin' := hcin.below (hbs)
        have HCC := Lib.hid (checkCert_is N L ⟨some ⟨b, off, none⟩, n, c⟩ x a ws hcin' hfit)
        clear d0 d1 d2 k0 k1 k2 k3 k4 k5 hcin hcin' hce
        obtain ⟨d0, d1, d2⟩ := dag_cells hds
        obtain ⟨e0, e1, e2, e3, e4, e5⟩ := crt_cells hcb
        by_cases hz : chkC N L x = 0
        · have hok : x.ok N = true ∧ L < x.r := by
            unfold chkC at hz
            split at hz
            · rename_i h1
              split at hz
              · omega
              · rename_i h2; exact ⟨h1, by omega⟩
            · omega
          rw [hz] at HCC
          clear hz
          obtain ⟨hpl, _, _, hd1, hd2⟩ := CrtD.pl_of hok.1
          obtain ⟨xa, xr, xB, xP, xd, xS⟩ := x
          simp only at hd1 hd2 e0 e1 e2 e3 e4 e5
          obtain ⟨D, rfl⟩ : ∃ D : Nat, xd = (D : Int) := ⟨xd.toNat, by omega⟩
          have HOK := Lib.hid hok
          have HPL := Lib.hid hpl
          have HXX := Lib.hid hx
          have i5 : (D : Int) < 65537 := by omega
          have i6 : (0 : Int) ≤ (D : Int) := by omega
          have i7 : D < 65537 := by omega
          have HGW : Hid (wr.heap.size < ws.heap.size) := hcb.1
          have HDS := Lib.hid hds
          have HFS := Lib.hid hfs
          have HCB := Lib.hid hcb
          have HBWS := Lib.hid hbws
          clear hok hpl hx hds hfs hcb hbws hs0 hbs HWS hd1 hd2 hfit
          go_upto_region 7 with fail
          unfold dagV crtV at HCC
          cases hse : seenD l k D with
          | true =>
            have HN : Hid (¬ MayG N L l) := fun hm => by
              obtain ⟨i, y, hi, hy, hyd⟩ := seenD_iff.1 hse
              exact (hm.row k _ HXX.out).dig i y hi hy hyd
            have hpost : ∀ w3, Below ws.heap.size ws w3 → w3.cell? ⟨wr.heap.size, 4, none⟩ = some (.int .i64 (D : Int)) ∧ w3.cell? ⟨g + 1, D, none⟩ = some (.bool true) := fun w3 hb3 => by
              refine ⟨(crt_cells (HCB.out.below hb3 HGW.out)).2.2.2.2.1, ?_⟩
              rw [← hse]; exact (HFS.out.below hb3).cell D i7
            have HP := Lib.hid hpost
            clear hpost hse
            go_wp2_with (go_at_call 50; refine HCC.out.mono ?_; rintro e w3 ⟨rfl, hb3⟩; obtain ⟨f4, ff⟩ := HP.out w3 hb3)
            go_ret
            exact HBAD.out HN.out _ (HBWS.out.trans (hb3.mono (by rw [HG.out]; exact HBWS.out.size)))
          | false =>
            have hpost : ∀ w3, Below ws.heap.size ws w3 → w3.cell? ⟨wr.heap.size, 4, none⟩ = some (.int .i64 (D : Int)) ∧ w3.cell? ⟨g + 1, D, none⟩ = some (.bool false) ∧ w3.frozen? ⟨g + 1, D, none⟩ = false := fun w3 hb3 => by
              refine ⟨(crt_cells (HCB.out.below hb3 HGW.out)).2.2.2.2.1, ?_, (HFS.out.below hb3).free D⟩
              rw [← hse]; exact (HFS.out.below hb3).cell D i7
            have HP := Lib.hid hpost
            have HSE := Lib.hid hse
            clear hpost hse
            go_upto_region 9 with (go_at_call 50; refine HCC.out.mono ?_; rintro e w3 ⟨rfl, hb3⟩; obtain ⟨f4, ff, fz⟩ := HP.out w3 hb3)
            have hs0 := HFS.out.lt
            have hg0 : g < ws.heap.size := HDS.out.1
            have hne0 : wr.heap.size ≠ g + 1 := by have := HC.out.fl.lt; omega
            have hd3 := HDS.out.below hb3 hg0
            have hc3 := HCB.out.below hb3 HGW.out
            have hb03 : Below g w w3 := HBWS.out.trans (hb3.mono (by omega))
            obtain ⟨w4, hw4⟩ : ∃ w4, w4 = w3.setCell ⟨g + 1, D, none⟩ (.bool true) := ⟨_, rfl⟩
            have hd4 : Box w4 g (dagC N L ⟨some ⟨b, off, none⟩, n, c⟩) := by rw [hw4]; exact hd3.far (by omega)
            have hc4 : Box w4 wr.heap.size (crtC ⟨xa, xr, xB, xP, D, xS⟩ a) := by rw [hw4]; exact hc3.far hne0
            have hb4 : Below g w w4 := by rw [hw4]; exact hb03.setCell (by show g ≤ g + 1; omega) _
            have hf4 : FlagsY w4 (g + 1) (seenD l (k + 1)) := by
              rw [hw4]
              refine (HFS.out.below hb3).set ?_ fun j hj => ?_
              · rw [seenD_next HXX.out]; simp
              · rw [seenD_next HXX.out]
                have : ¬ ((D : Int) = (j : Int)) := fun e => hj (by omega)
                simp [this]
            have HW4 := Lib.hid hw4
            have HD4 := Lib.hid hd4
            have HC4 := Lib.hid hc4
            have HB4 := Lib.hid hb4
            have HF4 := Lib.hid hf4
            go_upto_region 10 with fail
            rw [← HW4.out]
            clear f4 ff fz hs0 hg0 hne0 hd3 hc3 hb03 hw4 hd4 hc4 hb4 hf4 d0 d1 d2 e0 e1 e2 e3 e4 e5 HP HCC hb3
            have HROW : Hid ((∀ y, 0 < k → l[k - 1]? = some y → aheadB y.r y.a xr xa = true) → RowOk N L l k ⟨xa, xr, xB, xP, D, xS⟩) := fun hy => ⟨HOK.out.1, HOK.out.2, hy, fun i y hi hyl e => by
              have : seenD l k D = true := seenD_iff.2 ⟨i, y, hi, hyl, e⟩
              rw [HSE.out] at this
              cases this⟩
            have hsz4 : g < w4.heap.size := HD4.out.1
            have q0 : ∀ z : Calm w4, z.val.cell? ⟨wr.heap.size, 0, none⟩ = some (.int .i64 xa) := fun z => (crt_cells (HC4.out.below z.ok HC4.out.1)).1
            have q1 : ∀ z : Calm w4, z.val.cell? ⟨wr.heap.size, 1, none⟩ = some (.int .i64 xr) := fun z => (crt_cells (HC4.out.below z.ok HC4.out.1)).2.1
            have q2 : ∀ z : Calm w4, z.val.cell? ⟨wr.heap.size, 2, none⟩ = some (.slice a.B.A a.B.n a.B.c) := fun z => (crt_cells (HC4.out.below z.ok HC4.out.1)).2.2.1
            have q3 : ∀ z : Calm w4, z.val.cell? ⟨wr.heap.size, 3, none⟩ = some (.slice a.P.A a.P.n a.P.c) := fun z => (crt_cells (HC4.out.below z.ok HC4.out.1)).2.2.2.1
            have q4 : ∀ z : Calm w4, z.val.cell? ⟨wr.heap.size, 4, none⟩ = some (.int .i64 D) := fun z => (crt_cells (HC4.out.below z.ok HC4.out.1)).2.2.2.2.1
            have q5 : ∀ z : Calm w4, z.val.cell? ⟨wr.heap.size, 5, none⟩ = some (.slice a.S.A a.S.n a.S.c) := fun z => (crt_cells (HC4.out.below z.ok HC4.out.1)).2.2.2.2.2
            have p2 : ∀ z : Calm w4, z.val.cell? ⟨g, 2, none⟩ = some (.slice (some ⟨b, off, none⟩) n c) := fun z => (dag_cells (HD4.out.below z.ok HD4.out.1)).2.2
            rcases Nat.eq_zero_or_pos k with hk0 | hk0
            · subst hk0
              refine wp_region_calm (by kernel_rfl) (by kernel_rfl) ?_
              repeat (go_big_quiet_step (fail))
              refine wpQuiet_nil ?_
              rintro _ ⟨z, rfl⟩
              obtain ⟨w5, hw5⟩ : ∃ w5, w5 = z.val := ⟨_, rfl⟩
              have hx5 : Below w4.heap.size w4 w5 := by rw [hw5]; exact z.ok
              rw [← hw5]
              clear hw5 z q0 q1 q2 q3 q4 q5 p2
              have hck5 : CK g N L ⟨some ⟨b, off, none⟩, n, c⟩ l w (0 + 1) w5 := ⟨HD4.out.below hx5 hsz4, HF4.out.below hx5, HB4.out.trans (hx5.mono (Nat.le_of_lt hsz4)), HC.out.rows.next fun y hy => by
                rw [HXX.out] at hy
                cases hy
                exact HROW.out fun y h0 => absurd h0 (Nat.lt_irrefl 0)⟩
              have HCK5 := Lib.hid hck5
              clear hck5 hx5
              go_wp2_with fail
              go_roundw
              case rel => exact ⟨0 + 1, by go_num, by omega, HCK5.out⟩
              case measure => simp [intOf]; omega
            · obtain ⟨j, hj⟩ : ∃ j, k = j + 1 := ⟨k - 1, (Nat.succ_pred_eq_of_pos hk0).symm⟩
              have hjk : j < k := by rw [hj]; exact Nat.lt_succ_self j
              have hkj : k - 1 = j := by rw [hj]; rfl
              have hjn : j < n := Nat.lt_trans hjk hlt
              have e55 : (k : Int) - 1 = (j : Int) := by rw [hj, Int.natCast_add]; exact Int.add_sub_cancel _ _
              have i8 : (0 : Int) < (k : Int) := Int.natCast_pos.2 hk0
              have i9 : (0 : Int) ≤ (j : Int) := Int.natCast_nonneg j
              have i10 : (j : Int) < (n : Int) := Int.ofNat_lt.2 hjn
              have HKJ := Lib.hid hkj
              clear hj hkj
              obtain ⟨y, hy⟩ : ∃ y, l[j]? = some y := ⟨_, List.getElem?_eq_getElem (by rw [HLN.out]; exact hjn)⟩
              obtain ⟨b', off', a', hbo, hbl', -, hce'⟩ := HGET.out _ _ hy
              cases hbo
              have hyok := (HC.out.rows j y hjk hy).ok
              have hyp := (CrtD.pl_of hyok).1
              have hcmp : ∀ wX, Calls Try.prog 62 #[.complex .f64 (Pl.Fl.F y.r) (Pl.Fl.F y.a), .complex .f64 (Pl.Fl.F xr) (Pl.Fl.F xa)] wX fun e w' => e = .returned (.int .i64 (cmpP y.r y.a xr xa)) ∧ wX = w' := fun wX => compareC_is y ⟨xa, xr, xB, xP, D, xS⟩ hyp HPL.out wX
              have HCMP := Lib.hid hcmp
              have HYP := Lib.hid hyp
              have HYY := Lib.hid hy
              have hat : ∀ z : Calm w4, CrtAt z.val b off j y a' := fun z => hce' _ (HB4.out.trans (z.ok.mono (Nat.le_of_lt hsz4)))
              have r0 := fun z : Calm w4 => (hat z).c0
              have r1 := fun z : Calm w4 => (hat z).c1
              have r2 := fun z : Calm w4 => (hat z).c2
              have r3 := fun z : Calm w4 => (hat z).c3
              have r4 := fun z : Calm w4 => (hat z).c4
              have r5 := fun z : Calm w4 => (hat z).c5
              clear hat hce' hcmp hyp hyok hy
              obtain ⟨zc, hzc⟩ : ∃ zc, zc = cmpP y.r y.a xr xa := ⟨_, rfl⟩
              have HZC := Lib.hid hzc
              rw [← hzc] at HCMP
              clear hzc
              refine wp_region_calm (by kernel_rfl) (by kernel_rfl) ?_
              iterate 10 (go_big_quiet_step ((go_at_call 52; exact calm_tells (placeOf_is y a' HYP.out _))))
              repeat (go_big_quiet_step (first
                | (go_at_call 52; exact calm_tells (placeOf_is ⟨xa, xr, xB, xP, D, xS⟩ a HPL.out _))
                | (go_at_call 62; exact calm_same (HCMP.out _))))
              refine wpQuiet_nil ?_
              rintro _ ⟨z, rfl⟩
              obtain ⟨w5, hw5⟩ : ∃ w5, w5 = z.val := ⟨_, rfl⟩
              have hx5 : Below w4.heap.size w4 w5 := by rw [hw5]; exact z.ok
              rw [← hw5]
              clear hw5 z q0 q1 q2 q3 q4 q5 p2 r0 r1 r2 r3 r4 r5
              have hb5 : Below g w w5 := HB4.out.trans (hx5.mono (Nat.le_of_lt hsz4))
              cases hah : aheadB y.r y.a xr xa with
              | true =>
                have hck5 : CK g N L ⟨some ⟨b, off, none⟩, n, c⟩ l w (k + 1) w5 := ⟨HD4.out.below hx5 hsz4, HF4.out.below hx5, hb5, HC.out.rows.next fun y' hy' => by
                  rw [HXX.out] at hy'
                  cases hy'
                  exact HROW.out fun y2 _ h2 => by
                    have h2' : l[j]? = some y2 := by rw [← HKJ.out]; exact h2
                    rw [HYY.out] at h2'
                    cases h2'
                    exact hah⟩
                have HCK5 := Lib.hid hck5
                have jz : ¬ (0 ≤ zc) := by
                  have := cmpP_neg.2 hah
                  rw [← HZC.out] at this
                  exact Int.not_le.2 this
                clear hck5 hx5 hah hb5
                rw [decide_eq_false jz]
                clear jz
                go_wp2_with fail
                go_roundw
                case rel => exact ⟨k + 1, by go_num, Nat.succ_le_of_lt hlt, HCK5.out⟩
                case measure => simp [intOf]; omega
              | false =>
                have HN : Hid (¬ MayG N L l) := fun hm => by
                  have := (hm.row k _ HXX.out).asc y hk0 (by rw [HKJ.out]; exact HYY.out)
                  rw [hah] at this
                  cases this
                have jz : 0 ≤ zc := by
                  rcases Int.lt_or_le zc 0 with h | h
                  · rw [HZC.out] at h
                    rw [cmpP_neg.1 h] at hah
                    cases hah
                  · exact h
                have HB5 := Lib.hid hb5
                clear hx5 hah hb5
                rw [decide_eq_true jz]
                clear jz
                go_wp2_with fail
                go_ret
                exact HBAD.out HN.out _ HB5.out
        · have HN : Hid (¬ MayG N L l) := fun hm => by
            have h1 := hm.row k x hx
            have h2 := h1.low
            exact hz (by unfold chkC; rw [if_pos h1.ok, if_neg (by omega)])
          obtain ⟨zc, hzc⟩ : ∃ zc, zc = chkC N L x := ⟨_, rfl⟩
          rw [← hzc] at HCC hz
          have j1 : (zc == 0) = false := by simp [hz]
          have j2 : (zc != 0) = true := by simp [hz]
          have HBWS := Lib.hid hbws
          clear hzc hz hx hds hfs hcb hbws hs0 hbs HWS hfit
          unfold dagV crtV at HCC
          go_wp2_with (go_at_call 50; refine HCC.out.mono ?_; rintro e w3 ⟨rfl, hb3⟩)
          go_ret
          exact HBAD.out HN.out _ (HBWS.out.trans (hb3.mono (by rw [HG.out]; exact HBWS.out.size)))
      · obtain rfl : k = n := by omega
        have i1 : ¬ ((k : Int) < (k : Int)) := by omega
        have hrows : RowsTo N L l l.length := by rw [HLN.out]; exact HC.out.rows
        have hasc : AscC l := asc_rows fun i x hx => hrows i x (List.getElem?_eq_some_iff.1 hx).1 hx
        have HROWS := Lib.hid hrows
        have HASC := Lib.hid hasc
        have hbx := HC.out.box
        have hbl := HC.out.below
        have hcc : ∀ (x : CrtD), x ∈ l → L < x.r ∧ 0 ≤ x.r ∧ x.r ≤ 1099511627776 := fun x hx => by
          obtain ⟨i, hi⟩ := List.mem_iff_getElem?.1 hx
          have h1 := hrows i x (List.getElem?_eq_some_iff.1 hi).1 hi
          have h2 := (CrtD.pl_of h1.ok).1.1
          exact ⟨h1.low, h2⟩
        have HCX := Lib.hid hcc
        obtain ⟨d0, d1, d2⟩ := dag_cells hbx
        have HB2 : Hid (Box wr g (dagC N L ⟨A, k, c⟩) ∧ Below g w wr) := ⟨hbx, hbl⟩
        clear hlt hrows hasc hbx hbl hcc HC HCK
        obtain ⟨wm, rfl⟩ : ∃ wm, wm = wr := ⟨_, rfl⟩
        go_wp2_with fail
        clear d0 d1 d2
        go_loopw [68] (fun i wr => ∃ q : Nat, i = .int .i64 q ∧ q ≤ k ∧ Hid (Box wr g (dagC N L ⟨A, k, c⟩) ∧ Below g w wr) ∧ Hid (∀ i x, i < q → l[i]? = some x → lacksC L l x = [])) (fun i _ => k - (intOf i).toNat)
        case atStart => exact ⟨0, rfl, by omega, HB2.out, fun i x hi => absurd hi (Nat.not_lt_zero _)⟩
        case round =>
          obtain ⟨q, rfl, hq, HC, HLK⟩ := hrel
          by_cases hlt : q < k
          · obtain ⟨x, hx⟩ : ∃ x, l[q]? = some x := ⟨_, List.getElem?_eq_getElem (by rw [HLN.out]; exact hlt)⟩
            obtain ⟨b, off, a, rfl, hbl, hfit, hce⟩ := HGET.out _ _ hx
            obtain ⟨k0, k1, k2, k3, k4, k5, hcin⟩ := hce _ HC.out.2
            obtain ⟨ws, hws⟩ : ∃ ws, ws = wr.alloc (.cells (crtC x a).toArray 37) := ⟨_, rfl⟩
            have hbs : Below wr.heap.size wr ws := by rw [hws]; exact (Below.refl _ _).alloc (Nat.le_refl _) _
            have hcb : Box ws wr.heap.size (crtC x a) := by rw [hws]; exact box_new _ _ _
            have HWS : Hid (ws = wr.alloc (.cells #[.int .i64 x.a, .int .i64 x.r, .slice a.B.A a.B.n a.B.c, .slice a.P.A a.P.n a.P.c, .int .i64 x.d, .slice a.S.A a.S.n a.S.c] 37)) := hws
            clear hws
            have i0 : (0 : Int) ≤ (q : Int) := by omega
            have i1 : (q : Int) < (k : Int) := by omega
            obtain ⟨d0, d1, d2⟩ := dag_cells HC.out.1
            go_upto_region 16 with fail
            rw [← HWS.out]
            have hg0 := HC.out.1.1
            have hbws : Below g w ws := HC.out.2.trans (hbs.mono (Nat.le_of_lt hg0))
            have hds : Box ws g (dagC N L ⟨some ⟨b, off, none⟩, k, c⟩) := HC.out.1.below hbs hg0
            have HM2 := Lib.hid (missing_is N L ⟨some ⟨b, off, none⟩, k, c⟩ l x a ws (HIN.out _ hbws) HASC.out (hcin.below hbs) hfit HLL.out (HCX.out x (List.mem_of_getElem? hx)).2)
            have HX2 := Lib.hid hx
            have HDS := Lib.hid hds
            have HBWS := Lib.hid hbws
            have hws0 : g < ws.heap.size := hds.1
            clear d0 d1 d2 k0 k1 k2 k3 k4 k5 hcin hce hx hg0 hbws hfit hbs HWS
            obtain ⟨d0, d1, d2⟩ := dag_cells hds
            obtain ⟨e0, e1, e2, e3, e4, e5⟩ := crt_cells hcb
            unfold dagV crtV at HM2
            clear hds hcb
            go_upto_region 16 with fail
            by_cases hlk : lacksC L l x = []
            · rw [hlk] at HM2
              have hlk2 : ∀ i y, i < q + 1 → l[i]? = some y → lacksC L l y = [] := fun i y hi hy => by
                rcases Nat.lt_or_ge i q with h1 | h1
                · exact HLK.out i y h1 hy
                · have : i = q := Nat.le_antisymm (Nat.le_of_lt_succ hi) h1
                  subst this
                  rw [HX2.out] at hy
                  cases hy
                  exact hlk
              have HLK2 := Lib.hid hlk2
              clear hlk hlk2
              go_wp2_with (go_at_call 54; refine HM2.out.mono ?_; rintro e w3 ⟨⟨A3, n3, c3⟩, rfl, ho3, hl3, hb3⟩; obtain rfl : n3 = 0 := hl3.symm)
              go_roundw
              case rel => exact ⟨q + 1, by go_num, Nat.succ_le_of_lt hlt, ⟨HDS.out.below hb3 hws0, HBWS.out.trans (hb3.mono (Nat.le_of_lt hws0))⟩, HLK2.out⟩
              case measure => simp [intOf]; omega
            · have HN : Hid (¬ MayG N L l) := fun hm => hlk (hm.par x (List.mem_of_getElem? HX2.out))
              have hpos : ∀ n3, (lacksC L l x).length = n3 → (0 : Int) < (n3 : Int) := fun n3 e => by
                have := List.length_pos_iff.2 hlk
                omega
              have HPOS := Lib.hid hpos
              clear hlk hpos
              go_wp2_with (go_at_call 54; refine HM2.out.mono ?_; rintro e w3 ⟨⟨A3, n3, c3⟩, rfl, ho3, hl3, hb3⟩; have hp3 := HPOS.out _ hl3; dsimp only at hp3)
              go_ret
              exact HBAD.out HN.out _ (HBWS.out.trans (hb3.mono (Nat.le_of_lt hws0)))
          · obtain rfl : q = k := by omega
            have i1 : ¬ ((q : Int) < (q : Int)) := by omega
            have HYES : Hid (MayG N L l) := HMC.out HROWS.out fun x hx => by
              obtain ⟨i, hi⟩ := List.mem_iff_getElem?.1 hx
              exact HLK.out i x (by have := (List.getElem?_eq_some_iff.1 hi).1; rw [HLN.out] at this; exact this) hi
            clear hlt
            go_wp2_with fail
            go_ret
            exact ⟨0, rfl, .inl ⟨rfl, HYES.out⟩, HC.out.2⟩
theorem check_ok {N L : Int} {o : Ad} {l : List CrtD} {w : World} (h : GIn w o l) (hm : MayG N L l) :
    Calls Try.prog 21 #[dagV N L o] w fun e w' => e = .returned (.int .i64 0) ∧ Below w.heap.size w w' :=
  (check_any N L o l w h).mono fun e w' ⟨z, he, hs, hb⟩ => by
    rcases hs with ⟨rfl, _⟩ | ⟨_, h2⟩
    · exact ⟨he, hb⟩
    · exact absurd hm h2
theorem check_bad {N L : Int} {o : Ad} {l : List CrtD} {w : World} (h : GIn w o l) (hm : ¬ MayG N L l) :
    Calls Try.prog 21 #[dagV N L o] w fun e w' => e = .returned (.int .i64 1) ∧ Below w.heap.size w w' :=
  (check_any N L o l w h).mono fun e w' ⟨z, he, hs, hb⟩ => by
    rcases hs with ⟨_, h2⟩ | ⟨rfl, _⟩
    · exact absurd h2 hm
    · exact ⟨he, hb⟩

end Go.Proofs.Ytejkeccoialogaa
