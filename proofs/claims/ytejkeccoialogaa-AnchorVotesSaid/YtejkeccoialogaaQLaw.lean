/-
  What a certificate of a graph reaches, as plain data. Of no program.
-/
import Derived.Test.YtejkeccoialogaaYPar
import Derived.Test.YtejkeccoialogaaYMiss
import Derived.Test.YtejkeccoialogaaYApiA
import Derived.Deep.AppendLies
import Derived.ScopeJumps
import Derived.Test.YtejkeccoialogaaCalm
import Derived.Deep.RegionHeld3
import Derived.Test.YtejkeccoialogaaYHeavy
namespace Go.Proofs.Ytejkeccoialogaa
open Go.RowKit

/-- reaching: itself, and the parents of what is reached above the lowest round -/
inductive Rch (L : Int) (l : List CrtD) (x : CrtD) : CrtD → Prop
  | refl : Rch L l x x
  | step {c b : CrtD} : Rch L l x c → L + 1 < c.r → b ∈ l → b.d ∈ c.P → Rch L l x b
section
variable {N L : Int} {l : List CrtD} {x y z : CrtD}
theorem Rch.trans (h1 : Rch L l x y) (h2 : Rch L l y z) : Rch L l x z := by
  induction h2 with
  | refl => exact h1
  | step _ hr hm hp ih => exact .step ih hr hm hp
theorem Rch.mem (h : Rch L l x y) (hx : x ∈ l) : y ∈ l := by
  cases h with
  | refl => exact hx
  | step _ _ hm _ => exact hm
/-- a parent that is there is of the round ahead -/
theorem parent_round (h : MayG N L l) {c b : CrtD} (hc : c ∈ l) (hr : L + 1 < c.r) (hb : b ∈ l) (hp : b.d ∈ c.P) : b.r = c.r - 1 := by
  obtain ⟨y, hy, e, -⟩ := parent_in h hc (by omega) hp
  obtain ⟨h1, h2⟩ := mem_inR.1 hy
  rw [← dig_mem h.dig h1 hb e]
  exact h2
theorem Rch.lower (h : MayG N L l) (hx : x ∈ l) (hr : Rch L l x y) : y = x ∨ y.r < x.r := by
  induction hr with
  | refl => exact .inl rfl
  | step hc hl hm hp ih =>
    have := parent_round h (hc.mem hx) hl hm hp
    rcases ih with rfl | ih
    · exact .inr (by omega)
    · exact .inr (by omega)
theorem asc_at (h : MayG N L l) {i j : Nat} (hi : l[i]? = some x) (hj : l[j]? = some y) (hr : y.r < x.r) : j < i := by
  rcases Nat.lt_trichotomy i j with h1 | h1 | h1
  · have := aheadB_iff.1 (h.asc i j x y h1 hi hj)
    omega
  · subst h1
    rw [hi] at hj
    cases hj
    omega
  · exact h1
theorem dig_at (h : MayG N L l) {i j : Nat} (hi : l[i]? = some x) (hj : l[j]? = some y) (e : x.d = y.d) : i = j := by
  rcases Nat.lt_trichotomy i j with h1 | h1 | h1
  · exact absurd e (h.dig i j x y h1 hi hj)
  · exact h1
  · exact absurd e.symm (h.dig j i y x h1 hj hi)
theorem Rch.at (h : MayG N L l) {i j : Nat} (hi : l[i]? = some x) (hj : l[j]? = some y) (hr : Rch L l x y) : j ≤ i := by
  rcases hr.lower h (List.mem_of_getElem? hi) with e | e
  · subst e
    exact Nat.le_of_eq (dig_at h hj hi rfl)
  · exact Nat.le_of_lt (asc_at h hi hj e)

/-- named: asked for at first, or a parent of what is reached at k or behind -/
def NmD (L : Int) (l : List CrtD) (x : CrtD) (k : Nat) (p : Int) : Prop := p = x.d ∨ ∃ (j : Nat) (c : CrtD), k ≤ j ∧ l[j]? = some c ∧ Rch L l x c ∧ L + 1 < c.r ∧ p ∈ c.P
theorem nm_start (h : MayG N L l) {i : Nat} (hi : l[i]? = some x) {k : Nat} (hk : i < k) (p : Int) : NmD L l x k p ↔ p = x.d := by
  constructor
  · rintro (h1 | ⟨j, c, h1, h2, h3, -, -⟩)
    · exact h1
    · have := h3.at h hi h2
      omega
  · exact .inl
theorem nm_is (h : MayG N L l) (hx : x ∈ l) {k : Nat} (hk : l[k]? = some y) : NmD L l x (k + 1) y.d ↔ Rch L l x y := by
  have hy := List.mem_of_getElem? hk
  constructor
  · rintro (h1 | ⟨j, c, h1, h2, h3, h4, h5⟩)
    · rw [dig_mem h.dig hy hx h1]
      exact .refl
    · exact .step h3 h4 hy h5
  · intro hr
    cases hr with
    | refl => exact .inl rfl
    | step hc hl hm hp =>
      rename_i c
      obtain ⟨j, hj⟩ := List.mem_iff_getElem?.1 (hc.mem hx)
      have h1 := parent_round h (hc.mem hx) hl hm hp
      have h2 := asc_at h hj hk (by omega)
      exact .inr ⟨j, c, h2, hj, hc, hl, hp⟩
theorem nm_step {k : Nat} (hk : l[k]? = some y) (p : Int) : NmD L l x k p ↔ NmD L l x (k + 1) p ∨ (Rch L l x y ∧ L + 1 < y.r ∧ p ∈ y.P) := by
  constructor
  · rintro (h1 | ⟨j, c, h1, h2, h3⟩)
    · exact .inl (.inl h1)
    · rcases Nat.lt_or_ge k j with h4 | h4
      · exact .inl (.inr ⟨j, c, h4, h2, h3⟩)
      · obtain rfl : j = k := by omega
        rw [hk] at h2
        cases h2
        exact .inr h3
  · rintro ((h1 | ⟨j, c, h1, h2, h3⟩) | h1)
    · exact .inl h1
    · exact .inr ⟨j, c, by omega, h2, h3⟩
    · exact .inr ⟨k, y, Nat.le_refl _, hk, h1⟩
/-- all that is named, at last: what is reached -/
theorem nm_end (h : MayG N L l) {i : Nat} (hi : l[i]? = some x) {j : Nat} (hj : l[j]? = some y) {k : Nat} (hk : k ≤ j + 1) : NmD L l x k y.d ↔ Rch L l x y := by
  rw [← nm_is h (List.mem_of_getElem? hi) hj]
  constructor
  · rintro (h1 | ⟨m, c, h1, h2, h3, h4, h5⟩)
    · exact .inl h1
    · have h6 := parent_round h (List.mem_of_getElem? h2) h4 (List.mem_of_getElem? hj) h5
      have := asc_at h h2 hj (by omega)
      exact .inr ⟨m, c, by omega, h2, h3, h4, h5⟩
  · rintro (h1 | ⟨m, c, h1, h2, h3⟩)
    · exact .inl h1
    · exact .inr ⟨m, c, by omega, h2, h3⟩

/-! ### what is below -/
open Classical in
noncomputable def rchB (L : Int) (l : List CrtD) (x y : CrtD) : Bool := decide (Rch L l x y)
theorem rchB_iff : rchB L l x y = true ↔ Rch L l x y := by simp [rchB]
theorem rchB_no : rchB L l x y = false ↔ ¬ Rch L l x y := by simp [rchB]
noncomputable def belF (L : Int) (l : List CrtD) (x : CrtD) (low : Int) (y : CrtD) : Bool := rchB L l x y && decide (low < y.r)
noncomputable def belC (L : Int) (l : List CrtD) (x : CrtD) (low : Int) : List Int := (l.filter (belF L l x low)).map CrtD.d
/-- those at k or behind, from the last one on -/
noncomputable def dnC (f : CrtD → Bool) (l : List CrtD) (k : Nat) : List Int := (((l.drop k).filter f).map CrtD.d).reverse
theorem dnC_step {f : CrtD → Bool} {k : Nat} (hk : l[k]? = some y) : dnC f l k = dnC f l (k + 1) ++ (if f y then [y.d] else []) := by
  obtain ⟨hl, he⟩ := List.getElem?_eq_some_iff.1 hk
  unfold dnC
  rw [List.drop_eq_getElem_cons hl, he, List.filter_cons]
  split <;> simp
theorem dnC_start (h : MayG N L l) {i : Nat} (hi : l[i]? = some x) (low : Int) : dnC (belF L l x low) l (i + 1) = [] := by
  unfold dnC
  rw [filter_none]
  · rfl
  · intro z hz
    obtain ⟨j, hj, hz⟩ := mem_drop_at hz
    unfold belF
    have h1 : rchB L l x z = false := rchB_no.2 fun hr => by have := hr.at h hi hz; omega
    rw [h1]; rfl
theorem dnC_end {low : Int} {k : Nat} (hk : ∀ j y, j < k → l[j]? = some y → y.r ≤ low) : (dnC (belF L l x low) l k).reverse = belC L l x low := by
  have hf : ∀ z ∈ l.take k, belF L l x low z = false := fun z hz => by
    obtain ⟨j, hj, hz⟩ := mem_take_at hz
    have := hk j z hj hz
    unfold belF
    have h1 : decide (low < z.r) = false := by simp; omega
    rw [h1, Bool.and_false]
  unfold dnC belC
  rw [List.reverse_reverse]
  congr 1
  generalize belF L l x low = f at hf ⊢
  conv => rhs; rw [← List.take_append_drop k l, List.filter_append, filter_none hf]
  rfl
theorem bel_low (h : MayG N L l) {low : Int} (hl : low ≤ L) : belC L l x low = belC L l x L := by
  unfold belC
  congr 1
  refine List.filter_congr fun y hy => ?_
  have := (h.of_mem hy).2
  unfold belF
  have h1 : decide (low < y.r) = true := by simp; omega
  have h2 : decide (L < y.r) = true := by simp; omega
  rw [h1, h2]
theorem bel_max (h : MayG N L l) (low : Int) : belC L l x (if low < L then L else low) = belC L l x low := by
  split
  · rename_i h1
    exact (bel_low h (Int.le_of_lt h1)).symm
  · rfl
theorem mem_bel {low p : Int} : p ∈ belC L l x low ↔ ∃ y ∈ l, y.d = p ∧ Rch L l x y ∧ low < y.r := by
  unfold belC belF
  simp only [List.mem_map, List.mem_filter, Bool.and_eq_true, rchB_iff, decide_eq_true_eq]
  constructor
  · rintro ⟨y, ⟨h1, h2, h3⟩, h4⟩; exact ⟨y, h1, h4, h2, h3⟩
  · rintro ⟨y, h1, h4, h2, h3⟩; exact ⟨y, ⟨h1, h2, h3⟩, h4⟩
/-- whether it is reached: whether it is below, above the round ahead of its own -/
theorem mem_bel_dig (h : MayG N L l) (hy : y ∈ l) : y.d ∈ belC L l x (y.r - 1) ↔ Rch L l x y := by
  rw [mem_bel]
  constructor
  · rintro ⟨z, h1, h2, h3, -⟩
    rwa [← dig_mem h.dig h1 hy h2]
  · intro h1
    exact ⟨y, hy, rfl, h1, by omega⟩
end

end Go.Proofs.Ytejkeccoialogaa
/-
  Package path's find; slices.Index and slices.Contains of numbers.
-/
namespace Go.Proofs.Ytejkeccoialogaa
open Go.RowKit

set_option maxHeartbeats 1000000 in
theorem cloD_is (p : Int) (x : CrtD) (a : CrtA) (gp : Nat) (w : World) (hg : gp < w.heap.size) (hp : w.cell? ⟨gp, 0, none⟩ = some (.int .i64 p)) :
    Calls Try.prog 117 #[crtV x a, .pointer (some ⟨gp, 0, none⟩)] w fun e w' => e = .returned (.bool (!neD p x)) ∧ Below w.heap.size w w' := by
  obtain ⟨g, hgg⟩ : ∃ g, g = w.heap.size := ⟨_, rfl⟩
  obtain ⟨w1, hw1⟩ : ∃ w1, w1 = w.alloc (.cells (crtC x a).toArray 37) := ⟨_, rfl⟩
  obtain ⟨hb1, hsz, hx0⟩ := boxes1 w _ _ hw1
  have hp1 : w1.cell? ⟨gp, 0, none⟩ = some (.int .i64 p) := (hb1.cell (p := ⟨gp, 0, none⟩) hg).trans hp
  rw [← hgg] at hb1 hsz hx0
  have HG : Hid (w.heap.size = g) := hgg.symm
  have HW : Hid (w.alloc (.cells #[.int .i64 x.a, .int .i64 x.r, .slice a.B.A a.B.n a.B.c, .slice a.P.A a.P.n a.P.c, .int .i64 x.d, .slice a.S.A a.S.n a.S.c] 37) = w1) := hw1.symm
  have HB := Lib.hid hb1
  obtain ⟨c0, c1, c2, c3, c4, c5⟩ := crt_cells hx0
  have HN : Hid ((!neD p x) = (x.d == p)) := by show _ = _; by_cases h : x.d = p <;> simp [neD, h]
  clear hgg hw1 hb1 hsz hx0 hp hg
  unfold crtV
  rw [HG.out]
  go_enter Try.func117, Try.ntmps117
  go_upto_region 1 with fail
  rw [HG.out, HW.out]
  go_wp2_with fail
  go_ret
  exact ⟨by rw [HN.out]; rfl, HB.out⟩

set_option maxRecDepth 100000 in
set_option maxHeartbeats 2000000 in
theorem indexD_is (p : Int) (o : Ad) (l : List CrtD) (gp : Nat) (w : World) (h : GIn w o l) (hg : gp < w.heap.size) (hp : w.cell? ⟨gp, 0, none⟩ = some (.int .i64 p)) :
    Calls Try.prog 116 #[.slice o.A o.n o.c, .func (.func 117) #[] #[.pointer (some ⟨gp, 0, none⟩)]] w fun e w' => e = .returned (.int .i64 (idxF (neD p) l)) ∧ Below w.heap.size w w' := by
  have hlen := h.len
  have hn1 := h.few
  have hget : ∀ (i : Nat) (x : CrtD), l[i]? = some x → ∃ (b off : Nat) (a : CrtA), o.A = some ⟨b, off, none⟩ ∧ b < w.heap.size ∧ CrtFit x ∧ ∀ wX, Below w.heap.size w wX → CrtAt wX b off i x a := fun i x hx => h.get hx
  have hclo : ∀ (x : CrtD) (a : CrtA) (wX : World), Below w.heap.size w wX → Calls Try.prog 117 #[crtV x a, .pointer (some ⟨gp, 0, none⟩)] wX fun e w' => e = .returned (.bool (!neD p x)) ∧ Below wX.heap.size wX w' := fun x a wX hb => cloD_is p x a gp wX (Nat.lt_of_lt_of_le hg hb.size) ((hb.cell (p := ⟨gp, 0, none⟩) hg).trans hp)
  obtain ⟨A, n, c⟩ := o
  simp only at hlen hn1 hget
  have HL := Lib.hid hlen
  have HG := Lib.hid hget
  have HC := Lib.hid hclo
  clear hlen hget h hclo hg hp
  go_enter Try.func116, Try.ntmps116
  go_wp2
  go_loopw [8] (fun i wr => ∃ t : Nat, i = .int .i64 t ∧ t ≤ n ∧ Hid (∀ k y, k < t → l[k]? = some y → (neD p) y = true) ∧ Below w.heap.size w wr) (fun i _ => n - (intOf i).toNat)
  case atStart => exact ⟨0, rfl, by omega, fun k y h => by omega, Below.refl _ _⟩
  case round =>
    obtain ⟨t, rfl, htn, HT, hb⟩ := hrel
    by_cases hlt : t < n
    · obtain ⟨x, hx⟩ : ∃ x, l[t]? = some x := ⟨_, List.getElem?_eq_getElem (by rw [HL.out]; omega)⟩
      obtain ⟨b, off, a, rfl, hbl, -, hce⟩ := HG.out _ _ hx
      obtain ⟨k0, k1, k2, k3, k4, k5, -⟩ := hce _ hb
      have HX := Lib.hid hx
      have HCL := Lib.hid (HC.out x a wr hb)
      have i0 : (0 : Int) ≤ (t : Int) := by omega
      have i1 : (t : Int) < (n : Int) := by omega
      unfold crtV at HCL
      clear hx hce
      by_cases hd : x.d = p
      · have HEQ : Hid (neD p x = false) := by show _ = _; simp [neD, hd]
        rw [HEQ.out] at HCL
        clear hd
        have HN : Hid (idxF (neD p) l = t) := idxF_at HX.out HEQ.out HT.out
        go_wp2_with (go_at_call 117; refine HCL.out.mono ?_; rintro e w2 ⟨rfl, hb2⟩)
        go_ret
        exact ⟨by rw [HN.out]; rfl, hb.trans (hb2.mono hb.size)⟩
      · have HNE : Hid (neD p x = true) := by show _ = _; simp [neD, hd]
        rw [HNE.out] at HCL
        clear hd
        go_wp2_with (go_at_call 117; refine HCL.out.mono ?_; rintro e w2 ⟨rfl, hb2⟩)
        go_roundw
        case rel =>
          refine ⟨t + 1, by go_num, by omega, fun k y h1 hy => ?_, hb.trans (hb2.mono hb.size)⟩
          rcases Nat.lt_or_ge k t with h3 | h3
          · exact HT.out k y h3 hy
          · have : k = t := by omega
            subst this
            rw [HX.out] at hy
            cases hy
            exact HNE.out
        case measure => simp [intOf]; omega
    · obtain rfl : t = n := by omega
      have i1 : ¬ ((t : Int) < (t : Int)) := by omega
      have HN : Hid (idxF (neD p) l = -1) := idxF_none fun k y hy => HT.out k y (by have := (List.getElem?_eq_some_iff.1 hy).1; have := HL.out; omega) hy
      clear hlt
      go_wp2_with fail
      go_ret
      exact ⟨by rw [HN.out]; rfl, hb⟩

set_option maxRecDepth 100000 in
set_option maxHeartbeats 2000000 in
theorem findQ_is (N L p : Int) (o : Ad) (l : List CrtD) (w : World) (h : GIn w o l) :
    Calls Try.prog 107 #[dagV N L o, .int .i64 p] w fun e w' => e = .returned (.int .i64 (idxD l p)) ∧ Below w.heap.size w w' := by
  obtain ⟨g, hg⟩ : ∃ g, g = w.heap.size := ⟨_, rfl⟩
  obtain ⟨w1, hw1⟩ : ∃ w1, w1 = (w.alloc (.cells (dagC N L o).toArray 24)).alloc (.cells [Value.int .i64 p].toArray 3) := ⟨_, rfl⟩
  obtain ⟨hb1, hsz, hx0, hx1⟩ := boxes2 w _ _ _ _ hw1
  rw [← hg] at hb1 hsz hx0 hx1
  have HG : Hid (w.heap.size = g) := hg.symm
  have HW : Hid ((w.alloc (.cells #[.int .i64 N, .int .i64 L, .slice o.A o.n o.c] 24)).alloc (.cells #[.int .i64 p] 3) = w1) := hw1.symm
  have HB := Lib.hid hb1
  have HI := Lib.hid (indexD_is p o l (g + 1) w1 (h.below (by rw [← hg]; exact hb1)) hx1.1 (hx1.2 0 _ rfl).1)
  have hgs := hx0.1
  obtain ⟨d0, d1, d2⟩ := dag_cells hx0
  clear hg hw1 hb1 hsz hx0 hx1 h
  have hmf : ∀ (fn : Fn) (first cap : Array Value) (w : World), (Instr.makeFunc fn first cap).run Try.prog w = .ok (.func fn first cap) w := fun _ _ _ _ => rfl
  unfold idxD
  obtain ⟨z, hz⟩ : ∃ z, z = idxF (neD p) l := ⟨_, rfl⟩
  rw [← hz] at HI ⊢
  clear hz
  rw [HG.out]
  unfold dagV
  go_enter Try.func107, Try.ntmps107
  go_upto_region 1 with fail
  rw [HG.out, HW.out]
  go_wp2_with (go_at_call 116; refine HI.out.mono ?_; rintro e w' ⟨rfl, hb⟩)
  go_ret
  exact ⟨rfl, HB.out.trans (hb.mono (Nat.le_of_lt hgs))⟩

/-! ### numbers -/
def inB (l : List Int) (p : Int) : Bool := l.any fun y => decide (y = p)
theorem inB_iff {l : List Int} {p : Int} : inB l p = true ↔ p ∈ l := by
  unfold inB
  rw [List.any_eq_true]
  simp
theorem inB_no {l : List Int} {p : Int} : inB l p = false ↔ p ∉ l := by rw [← inB_iff]; simp
/-- where a number is: at most -1, if nowhere -/
def AtI (l : List Int) (p z : Int) : Prop := (p ∈ l ∧ 0 ≤ z ∧ z < 1000000 ∧ l[z.toNat]? = some p) ∨ (p ∉ l ∧ z = -1)
set_option maxRecDepth 100000 in
set_option maxHeartbeats 2000000 in
theorem index_is (p : Int) (o : Ad) (l : List Int) (w : World) (hl : l.length = o.n) (hr : Rd w o.A (i64s l)) (hn : o.n ≤ 1000000) :
    Calls Try.prog 93 #[.slice o.A o.n o.c, .int .i64 p] w fun e w' => ∃ z : Int, e = .returned (.int .i64 z) ∧ AtI l p z ∧ w' = w := by
  obtain ⟨A, n, c⟩ := o
  simp only at hl hr hn
  have HL := Lib.hid hl
  have HR := Lib.hid hr
  clear hl hr
  go_enter Try.func93, Try.ntmps93
  go_wp2
  go_loopw [8] (fun i wr => ∃ t : Nat, i = .int .i64 t ∧ t ≤ n ∧ Hid (∀ (k : Nat) (y : Int), k < t → l[k]? = some y → y ≠ p) ∧ wr = w) (fun i _ => n - (intOf i).toNat)
  case atStart => exact ⟨0, rfl, by omega, fun k y h => by omega, rfl⟩
  case round =>
    obtain ⟨t, rfl, htn, HT, rfl⟩ := hrel
    by_cases hlt : t < n
    · obtain ⟨x, hx⟩ : ∃ x, l[t]? = some x := ⟨_, List.getElem?_eq_getElem (by rw [HL.out]; omega)⟩
      obtain ⟨b, off, rfl, hbl, hcell⟩ := HR.out.open_ (by rw [i64s_length, HL.out]; omega)
      have hc1 := hcell t (.int .i64 x) (by simp [i64s, hx])
      have HX := Lib.hid hx
      have i0 : (0 : Int) ≤ (t : Int) := by omega
      have i1 : (t : Int) < (n : Int) := by omega
      clear hx hcell
      by_cases hd : p = x
      · have j1 : (p == x) = true := by simp [hd]
        have HZ : Hid (AtI l p (t : Int)) := .inl ⟨by rw [hd]; exact List.mem_of_getElem? HX.out, by omega, by omega, by rw [hd]; exact HX.out⟩
        clear hd
        go_wp2_with fail
        go_ret
        exact ⟨_, rfl, HZ.out, rfl⟩
      · have HD : Hid (x ≠ p) := fun h => hd h.symm
        have j1 : (p == x) = false := by simp [hd]
        clear hd
        go_wp2_with fail
        go_roundw
        case rel =>
          refine ⟨t + 1, by go_num, by omega, fun k y h1 hy => ?_, trivial⟩
          rcases Nat.lt_or_ge k t with h3 | h3
          · exact HT.out k y h3 hy
          · have : k = t := by omega
            subst this
            rw [HX.out] at hy
            cases hy
            exact HD.out
        case measure => simp [intOf]; omega
    · obtain rfl : t = n := by omega
      have i1 : ¬ ((t : Int) < (t : Int)) := by omega
      have HZ : Hid (AtI l p (-1)) := .inr ⟨fun h => by
        obtain ⟨k, hk⟩ := List.mem_iff_getElem?.1 h
        have hkl := (List.getElem?_eq_some_iff.1 hk).1
        rw [HL.out] at hkl
        exact HT.out k p hkl hk rfl, rfl⟩
      clear hlt
      go_wp2_with fail
      go_ret
      exact ⟨_, rfl, HZ.out, rfl⟩
set_option maxRecDepth 100000 in
set_option maxHeartbeats 2000000 in
theorem contains_is (p : Int) (o : Ad) (l : List Int) (w : World) (hl : l.length = o.n) (hr : Rd w o.A (i64s l)) (hn : o.n ≤ 1000000) :
    Calls Try.prog 69 #[.slice o.A o.n o.c, .int .i64 p] w fun e w' => e = .returned (.bool (inB l p)) ∧ w' = w := by
  have HI := Lib.hid (index_is p o l w hl hr hn)
  clear hl hr hn
  go_enter Try.func69, Try.ntmps69
  go_wp2_with (go_at_call 93; refine HI.out.mono ?_; rintro e w' ⟨z, rfl, hz, rfl⟩)
  go_ret
  rcases hz with ⟨h1, h2, h3, -⟩ | ⟨h1, rfl⟩
  · rw [inB_iff.2 h1]
    simp [h2]
  · rw [inB_no.2 h1]
    simp

end Go.Proofs.Ytejkeccoialogaa
/-
  slices.Reverse of numbers, in a row that the call owns.
-/
namespace Go.Proofs.Ytejkeccoialogaa
open Go.RowKit

/-- turned round as far as i from both ends -/
def RevTo (z : List Int) (i : Nat) (y : List Int) : Prop := y.length = z.length ∧ ∀ j, j < z.length → y[j]? = if j < i ∨ z.length ≤ j + i then z[z.length - 1 - j]? else z[j]?
theorem revTo_start (z : List Int) : RevTo z 0 z := ⟨rfl, fun j hj => by rw [if_neg (by omega)]⟩
theorem revTo_end {z y : List Int} {i : Nat} (h : RevTo z i y) (hi : z.length ≤ 2 * i + 1) : y = z.reverse := by
  refine List.ext_getElem? fun j => ?_
  rcases Nat.lt_or_ge j z.length with hj | hj
  · rw [h.2 j hj, List.getElem?_reverse hj]
    split
    · rfl
    · rw [show z.length - 1 - j = j by omega]
  · rw [List.getElem?_eq_none (by rw [h.1]; exact hj), List.getElem?_eq_none (by rw [List.length_reverse]; exact hj)]
theorem revTo_step {z y : List Int} {i : Nat} {a b : Int} (h : RevTo z i y) (hi : 2 * i + 1 < z.length) (ha : y[i]? = some a) (hb : y[z.length - 1 - i]? = some b) : RevTo z (i + 1) ((y.set i b).set (z.length - 1 - i) a) := by
  refine ⟨by simp [h.1], fun j hj => ?_⟩
  have h1 := h.2 i (by omega)
  have h2 := h.2 (z.length - 1 - i) (by omega)
  rw [if_neg (by omega)] at h1 h2
  have hl := h.1
  rcases Nat.lt_trichotomy j (z.length - 1 - i) with h3 | h3 | h3
  · rw [List.getElem?_set_ne (by omega)]
    by_cases h4 : j = i
    · subst h4
      rw [List.getElem?_set_self (by omega), if_pos (by omega), ← h2, hb]
    · rw [List.getElem?_set_ne (by omega), h.2 j hj]
      by_cases h5 : j < i
      · rw [if_pos (by omega), if_pos (by omega)]
      · rw [if_neg (by omega), if_neg (by omega)]
  · subst h3
    rw [List.getElem?_set_self (by simp; omega), if_pos (by omega), show z.length - 1 - (z.length - 1 - i) = i by omega, ← h1, ha]
  · rw [List.getElem?_set_ne (by omega), List.getElem?_set_ne (by omega), h.2 j hj, if_pos (by omega), if_pos (by omega)]
theorem i64s_set (z : List Int) (j : Nat) (a : Int) : i64s (z.set j a) = (i64s z).set j (.int .i64 a) := by simp [i64s, List.map_set]

set_option maxRecDepth 100000 in
set_option maxHeartbeats 4000000 in
theorem reverse_is (B : Nat) (o : Ad) (z : List Int) (w : World) (h : w.ownsRow B 3 1 o.v o.n (i64s z)) (hl : z.length = o.n) (hn : o.n ≤ 1000000) (hB : B ≤ w.heap.size) :
    Calls Try.prog 72 #[.slice o.A o.n o.c] w fun e w' => e = .returned (.tuple #[]) ∧ w'.ownsRow B 3 1 o.v o.n (i64s z.reverse) ∧ Below B w w' := by
  obtain ⟨A, n, c⟩ := o
  simp only [Ad.v] at h hl hn ⊢
  have HO := Lib.hid h
  have HL := Lib.hid hl
  have HBB := Lib.hid hB
  clear h hl hB
  go_enter Try.func72, Try.ntmps72
  go_wp2
  go_loopw [2, 3] (fun u v wr => ∃ (t : Nat) (y : List Int), u = .int .i64 t ∧ v = .int .i64 ((n : Int) - 1 - t) ∧ t ≤ n ∧ Hid (RevTo z t y) ∧ Hid (wr.ownsRow B 3 1 (.slice A n c) n (i64s y)) ∧ Hid (Below B w wr)) (fun u _ _ => n - (intOf u).toNat)
  case atStart => exact ⟨0, z, rfl, by simp, Nat.zero_le _, revTo_start z, HO.out, Below.refl _ _⟩
  case round =>
    obtain ⟨t, y, rfl, rfl, ht, HR, HY, HB⟩ := hrel
    by_cases hlt : 2 * t + 1 < n
    · obtain ⟨p, hp⟩ : ∃ p, y[t]? = some p := ⟨_, List.getElem?_eq_getElem (by rw [HR.out.1, HL.out]; omega)⟩
      obtain ⟨q, hq⟩ : ∃ q, y[n - 1 - t]? = some q := ⟨_, List.getElem?_eq_getElem (by rw [HR.out.1, HL.out]; omega)⟩
      obtain ⟨g, cap, hv, hBg, hglt⟩ := HY.out.form (by omega)
      simp only [Value.slice.injEq, true_and] at hv
      obtain ⟨rfl, rfl⟩ := hv
      have hbx := row_box HY.out
      obtain ⟨c1, f1⟩ := hbx.2 t (.int .i64 p) (by simp [i64s, hp])
      obtain ⟨c2, f2⟩ := hbx.2 (n - 1 - t) (.int .i64 q) (by simp [i64s, hq])
      have HR2 := Lib.hid (revTo_step HR.out (by rw [HL.out]; omega) hp (by rw [HL.out]; exact hq))
      rw [HL.out] at HR2
      have e1 : ((n : Int) - 1 - (t : Int)).toNat = n - 1 - t := by omega
      have i0 : (0 : Int) ≤ (t : Int) := by omega
      have i1 : (t : Int) < (n : Int) := by omega
      have i2 : (0 : Int) ≤ (n : Int) - 1 - (t : Int) := by omega
      have i3 : (n : Int) - 1 - (t : Int) < (n : Int) := by omega
      have i4 : (t : Int) < (n : Int) - 1 - (t : Int) := by omega
      have HBG : Hid (B ≤ g) := hBg
      clear hp hq hbx hBg
      go_wp2_with fail
      go_region
      go_wp2_with fail
      refine ⟨⟨t + 1, (y.set t q).set (n - 1 - t) p, by go_num, ?_, by omega, HR2, ?_, ?_⟩, by simp [intOf]; omega⟩
      · rw [show (n : Int) - 1 - (t : Int) - 1 = (n : Int) - 1 - ((t + 1 : Nat) : Int) by omega]
      · show World.ownsRow _ _ _ _ _ _ _
        rw [i64s_set, i64s_set]
        exact own_below ((HY.out.stored t (.int .i64 q)).1.stored (n - 1 - t) (.int .i64 p)).1 (Below.refl _ _).drew
      · exact ((HB.out.setCell HBG.out _).setCell HBG.out _).drew
    · have i4 : ¬ ((t : Int) < (n : Int) - 1 - (t : Int)) := by omega
      have HE : Hid (y = z.reverse) := revTo_end HR.out (by rw [HL.out]; omega)
      go_wp2_with fail
      go_end0
      exact ⟨rfl, by rw [← HE.out]; exact HY.out, HB.out⟩

end Go.Proofs.Ytejkeccoialogaa
/-
  Package path's reached: what a certificate reaches above a round.
-/
namespace Go.Proofs.Ytejkeccoialogaa
open Go.RowKit

/-! ### flags by a property -/
open Classical in
noncomputable def flP (S : Int → Prop) (j : Nat) : Bool := decide (S (j : Int))
theorem flP_iff {S : Int → Prop} {j : Nat} : flP S j = true ↔ S (j : Int) := by simp [flP]
theorem flP_no {S : Int → Prop} {j : Nat} : flP S j = false ↔ ¬ S (j : Int) := by simp [flP]
theorem flP_congr {S T : Int → Prop} (h : ∀ p, S p ↔ T p) : flP S = flP T := by
  have : S = T := funext fun p => propext (h p)
  rw [this]
theorem flP_off {S : Int → Prop} (h : ∀ p, ¬ S p) : flP S = fun _ => false := funext fun _ => flP_no.2 (h _)
theorem FlagsY.setP {w : World} {B x : Nat} {S T : Int → Prop} (h : FlagsY w B (flP S)) (e : ∀ p, T p ↔ S p ∨ p = (x : Int)) : FlagsY (w.setCell ⟨B, x, none⟩ (.bool true)) B (flP T) :=
  h.set (flP_iff.2 ((e _).2 (.inr rfl))) fun i hi => by
    rw [Bool.eq_iff_iff, flP_iff, flP_iff, e]
    exact ⟨fun h => h.elim id fun h => absurd (by omega) hi, .inl⟩
/-- what the walk carries: the flags, the list -/
structure RC (g : Nat) (N L : Int) (o : Ad) (S : Int → Prop) (z : List Int) (w : World) (v : Value) (n : Nat) (wr : World) : Prop where
  box : Box wr g (dagC N L o)
  fl : FlagsY wr (g + 1) (flP S)
  below : Below g w wr
  own : wr.ownsRow (g + 2) 3 1 v n (i64s z)
  len : z.length = n
section
variable {g : Nat} {N L : Int} {o : Ad} {S T : Int → Prop} {z z' : List Int} {w : World} {v v' : Value} {n n' : Nat} {wr w' : World}
theorem RC.less (h : RC g N L o S z w v n wr) (hb : Below wr.heap.size wr w') : RC g N L o S z w v n w' := by
  have := h.fl.lt
  exact ⟨h.box.below hb (by omega), h.fl.below hb, h.below.trans (hb.mono (by omega)), own_below h.own hb, h.len⟩
theorem RC.as (h : RC g N L o S z w v n wr) (hs : ∀ p, S p ↔ T p) (hz : z = z') : RC g N L o T z' w v n wr := by
  subst hz
  exact ⟨h.box, by rw [← flP_congr hs]; exact h.fl, h.below, h.own, h.len⟩
theorem RC.set (h : RC g N L o S z w v n wr) {x : Nat} (e : ∀ p, T p ↔ S p ∨ p = (x : Int)) : RC g N L o T z w v n (wr.setCell ⟨g + 1, x, none⟩ (.bool true)) :=
  ⟨h.box.far (by omega), h.fl.setP e, h.below.setCell (by show g ≤ g + 1; omega) _, ownsRow_setCell_below h.own (by simp) _, h.len⟩
/-- the list turns, nothing else -/
theorem RC.list (hw : RC g N L o S z w v n w') {w2 : World} (ht : Touch (fun k => v.ownBlock = some k) w' w2) (ho : w2.ownsRow (g + 2) 3 1 v' n' (i64s z')) (hl : z'.length = n') : RC g N L o S z' w v' n' w2 := by
  have hlt := hw.fl.lt
  have hfar : ∀ k, v.ownBlock = some k → g + 2 ≤ k := fun k hk => (own_lt hw.own hk).2
  refine ⟨hw.box.touch ht (fun hf => by have := hfar _ hf; omega), ⟨by have := ht.size; omega, fun j hj => (ht.cell (b := g + 1) hlt (fun hf => by have := hfar _ hf; simp at this)).trans (hw.fl.cell j hj), fun j => (ht.frozen (b := g + 1) hlt (fun hf => by have := hfar _ hf; simp at this)).trans (hw.fl.free j)⟩, hw.below.trans (ht.below (fun k hk => by have := hfar k hk; omega) (by have := hw.box.1; omega)), ho, hl⟩
end
theorem dn_len (f : CrtD → Bool) (l : List CrtD) (k : Nat) : (dnC f l k).length ≤ l.length := by
  unfold dnC
  rw [List.length_reverse, List.length_map]
  exact Nat.le_trans (List.length_filter_le _ _) (by simp)
/-- one number more behind a row -/
theorem wpList_app_i64 (w : World) {ops : Array Oper} {rest : List Oper} {o : Oper} {a : Act} {Q : Exit → Act → World → Prop} (hgd : o.guard = none) (s x : Operand)
    (ho : o.op = .call { callee := .builtin .append, args := #[s, x], argTypes := #[25, 25] })
    (B : Nat) (v : Value) (n : Nat) (zs : List Int) (hs : a.eval s = v) (hown : w.ownsRow B 3 1 v n (i64s zs)) (g : Nat) (p : Int) (hx : a.eval x = .slice (some ⟨g, 0, none⟩) 1 1) (hc : w.cell? ⟨g, 0, none⟩ = some (.int .i64 p)) (hn : n ≤ 1000000) (hB : B ≤ w.heap.size)
    (h : ∀ v' w', w'.ownsRow B 3 1 v' (n + 1) (i64s (zs ++ [p])) → Touch (fun k => v.ownBlock = some k) w w' → wpList Try.prog ops Q rest (a.put o.dst v') w') : wpList Try.prog ops Q (o :: rest) a w := by
  obtain ⟨i, hi, hz, hsize, hbytes⟩ := info_parts info_i64
  refine wpList_append_lies (P := Try.prog) w hgd s x 25 ho B 3 i _ 1 _ Try.underlying25 hi hz hsize hbytes rfl (by decide) v n (i64s zs) hs hown ⟨g, 0, none⟩ 1 1 [.int .i64 p] hx rfl ?_ (fun u hu => by simp at hu; rw [hu]; rfl) (by decide) (by unfold maxLen; omega) (by omega) hB _ rfl ?_
  · intro j y hj
    rw [Addr.add_lit]
    match j, hj with
    | 0, hj => simp at hj; rw [← hj]; exact hc
    | j + 1, hj => simp at hj
  · intro g' c' w' h1 h2 h3 _
    exact h _ w' (by rw [i64s_append]; exact h1) (Touch.grown h2 fun k hk => hk)
theorem wp_scope_label {P : Program} {a : Act} {w : World} {Q : Exit → Act → World → Prop} {c rest : Code} (l : Nat) (J : Act → World → Prop) (μ : Act → World → Nat) (hf : findLabel c l = some (Code.skip.seq rest))
    (pass : ∀ a w, J a w → rest.wp P (Exit.jump l (fun a' w' => J a' w' ∧ μ a' w' < μ a w) Q) a w)
    (first : (∀ a w, J a w → rest.wp P (Exit.jump l J Q) a w) → c.wp P (Exit.jump l J Q) a w) : (Code.scope c).wp P Q a w :=
  wp_scope_jumps l J μ hf (first fun a w h => wp_mono (pass a w h) fun e a' w' hq => by
    cases e <;> first | exact hq | exact ⟨hq.1, hq.2.1⟩) fun a w h => wp_seq (wp_skip (pass a w h))
theorem par_bounds {N : Int} {y : CrtD} (h : y.ok N = true) : ∀ p ∈ y.P, 1 ≤ p ∧ p ≤ 65536 := by
  have h1 := cert_is.1 h
  obtain ⟨m1, m2, m3, m4, m5, m6⟩ : mayB N = true ∧ (1 ≤ y.a ∧ y.a ≤ N) ∧ (1 ≤ y.r ∧ y.r ≤ 1099511627776) ∧ digsB y.B 8 = true ∧ digsB y.P N = true ∧ (if y.r = 1 then y.P.length = 0 else quoN N ≤ (y.P.length : Int)) := by simpa only [hdrB, decide_eq_true_eq] using h1.1
  exact (digsB_iff.1 m5).2.1
/-- at the label: a round -/
inductive ReachJ (g : Nat) (N L : Int) (o : Ad) (l : List CrtD) (x : CrtD) (low : Int) (w : World) : Act → World → Prop
  | mk (u4 u5 u10 u11 u12 u13 u14 u15 u16 u17 u18 u19 u20 u21 u22 u23 u24 u25 u26 u27 u28 u29 u30 u31 u32 u33 u34 u35 u36 u37 u38 u39 u40 u41 u42 u43 u44 u45 u46 u47 u48 u49 u50 u51 u52 u53 u54 u55 u56 u57 u58 u59 u60 u61 u62 u63 u64 u65 u66 u67 u68 u69 u70 u71 u72 u73 u74 u75 u76 u77 u78 u79 u80 u81 u82 u83 u84 : Value) (k : Nat) (R : Int) (v : Value) (n : Nat) (wr : World) : k ≤ o.n → 0 ≤ R → R ≤ 1099511627776 → (∀ j y, j < k → l[j]? = some y → y.r ≤ R) → RC g N L o (NmD L l x k) (dnC (belF L l x low) l k) w v n wr →
      ReachJ g N L o l x low w { tmps := #[.agg #[.int .i64 N, .int .i64 L, .slice o.A o.n o.c], .int .i64 ((k : Int) - 1), .int .i64 low, .pointer (some ⟨g, 0, none⟩), u4, u5, .slice none 0 0, v, .pointer (some ⟨g + 1, 0, none⟩), .int .i64 R, u10, u11, u12, u13, u14, u15, u16, u17, u18, u19, u20, u21, u22, u23, u24, u25, u26, u27, u28, u29, u30, u31, u32, u33, u34, u35, u36, u37, u38, u39, u40, u41, u42, u43, u44, u45, u46, u47, u48, u49, u50, u51, u52, u53, u54, u55, u56, u57, u58, u59, u60, u61, u62, u63, u64, u65, u66, u67, u68, u69, u70, u71, u72, u73, u74, u75, u76, u77, u78, u79, u80, u81, u82, u83, u84], defers := [] } wr
def roundOf (a : Act) : Nat := match a.tmps[9]? with
  | some (Value.int _ z) => z.toNat
  | _ => 0
theorem reachJ_elim {g : Nat} {N L : Int} {o : Ad} {l : List CrtD} {x : CrtD} {low : Int} {w : World} {C : Act → World → Prop}
    (h : ∀ (u4 u5 u10 u11 u12 u13 u14 u15 u16 u17 u18 u19 u20 u21 u22 u23 u24 u25 u26 u27 u28 u29 u30 u31 u32 u33 u34 u35 u36 u37 u38 u39 u40 u41 u42 u43 u44 u45 u46 u47 u48 u49 u50 u51 u52 u53 u54 u55 u56 u57 u58 u59 u60 u61 u62 u63 u64 u65 u66 u67 u68 u69 u70 u71 u72 u73 u74 u75 u76 u77 u78 u79 u80 u81 u82 u83 u84 : Value) (k : Nat) (R : Int) (v : Value) (n : Nat) (wr : World), k ≤ o.n → 0 ≤ R → R ≤ 1099511627776 → (∀ j y, j < k → l[j]? = some y → y.r ≤ R) → RC g N L o (NmD L l x k) (dnC (belF L l x low) l k) w v n wr → C { tmps := #[.agg #[.int .i64 N, .int .i64 L, .slice o.A o.n o.c], .int .i64 ((k : Int) - 1), .int .i64 low, .pointer (some ⟨g, 0, none⟩), u4, u5, .slice none 0 0, v, .pointer (some ⟨g + 1, 0, none⟩), .int .i64 R, u10, u11, u12, u13, u14, u15, u16, u17, u18, u19, u20, u21, u22, u23, u24, u25, u26, u27, u28, u29, u30, u31, u32, u33, u34, u35, u36, u37, u38, u39, u40, u41, u42, u43, u44, u45, u46, u47, u48, u49, u50, u51, u52, u53, u54, u55, u56, u57, u58, u59, u60, u61, u62, u63, u64, u65, u66, u67, u68, u69, u70, u71, u72, u73, u74, u75, u76, u77, u78, u79, u80, u81, u82, u83, u84], defers := [] } wr) :
    ∀ a w', ReachJ g N L o l x low w a w' → C a w' := fun a w' k => by
  cases k with
  | mk u4 u5 u10 u11 u12 u13 u14 u15 u16 u17 u18 u19 u20 u21 u22 u23 u24 u25 u26 u27 u28 u29 u30 u31 u32 u33 u34 u35 u36 u37 u38 u39 u40 u41 u42 u43 u44 u45 u46 u47 u48 u49 u50 u51 u52 u53 u54 u55 u56 u57 u58 u59 u60 u61 u62 u63 u64 u65 u66 u67 u68 u69 u70 u71 u72 u73 u74 u75 u76 u77 u78 u79 u80 u81 u82 u83 u84 k R v n wr h1 h2 h3 h4 h5 => exact h u4 u5 u10 u11 u12 u13 u14 u15 u16 u17 u18 u19 u20 u21 u22 u23 u24 u25 u26 u27 u28 u29 u30 u31 u32 u33 u34 u35 u36 u37 u38 u39 u40 u41 u42 u43 u44 u45 u46 u47 u48 u49 u50 u51 u52 u53 u54 u55 u56 u57 u58 u59 u60 u61 u62 u63 u64 u65 u66 u67 u68 u69 u70 u71 u72 u73 u74 u75 u76 u77 u78 u79 u80 u81 u82 u83 u84 k R v n _ h1 h2 h3 h4 h5

set_option maxRecDepth 100000 in
set_option maxHeartbeats 8000000 in
theorem reached_is (N L low : Int) (o : Ad) (l : List CrtD) (i : Nat) (x : CrtD) (w : World) (h : GIn w o l) (hm : MayG N L l) (hx : l[i]? = some x) :
    Calls Try.prog 108 #[dagV N L o, .int .i64 i, .int .i64 low] w (NewI (belC L l x low) w) := by
  obtain ⟨g, hg⟩ : ∃ g, g = w.heap.size := ⟨_, rfl⟩
  obtain ⟨w1, hw1⟩ : ∃ w1, w1 = w.alloc (.cells (dagC N L o).toArray 24) := ⟨_, rfl⟩
  obtain ⟨hb1, hsz, hx0⟩ := boxes1 w _ _ hw1
  rw [← hg] at hb1 hsz hx0
  have HG : Hid (w.heap.size = g) := hg.symm
  have HW : Hid (w.alloc (.cells #[.int .i64 N, .int .i64 L, .slice o.A o.n o.c] 24) = w1) := hw1.symm
  have HIN : Hid (∀ wX, Below g w wX → GIn wX o l) := fun wX hb => h.below (by rw [← hg]; exact hb)
  have HSZ : Hid (w1.heap.size = g + 1) := hsz
  have HLEN : Hid (l.length = o.n) := h.len
  have hfew := h.few
  have HM := Lib.hid hm
  have HX := Lib.hid hx
  have hin : i < o.n := by have := (List.getElem?_eq_some_iff.1 hx).1; have := h.len; omega
  obtain ⟨hxok, hxl⟩ := hm.of_mem (List.mem_of_getElem? hx)
  obtain ⟨-, -, hxr0, hxd0, hxd1⟩ := CrtD.pl_of hxok
  have hxr1 := (ok_hdr hxok).2.1
  -- the flags
  obtain ⟨w2, hw2⟩ : ∃ w2, w2 = w1.alloc (.cells Try.zeroCells86 86) := ⟨_, rfl⟩
  have hb12 : Below w1.heap.size w1 w2 := by rw [hw2]; exact (Below.refl _ _).alloc (Nat.le_refl _) _
  have hsz2 : w2.heap.size = g + 2 := by rw [hw2]; simp [hsz]
  have hf2 : FlagsY w2 (g + 1) (flP fun _ => False) := by
    have := flagsY_new w1 86
    rw [hsz, ← hw2] at this
    rw [flP_off fun _ h => h]
    exact this
  have hx2 : Box w2 g (dagC N L o) := hx0.below hb12 hx0.1
  have hb2 : Below g w w2 := hb1.trans (hb12.mono (by omega))
  have HW2 : Hid (w1.alloc (.cells Try.zeroCells86 86) = w2) := hw2.symm
  obtain ⟨D, hD⟩ : ∃ D : Nat, x.d = (D : Int) := ⟨x.d.toNat, by omega⟩
  obtain ⟨w3, hw3⟩ : ∃ w3, w3 = w2.setCell ⟨g + 1, D, none⟩ (.bool true) := ⟨_, rfl⟩
  have HW3 : Hid (w2.setCell ⟨g + 1, D, none⟩ (.bool true) = w3) := hw3.symm
  have hsz3 : w3.heap.size = g + 2 := by rw [hw3]; simpa using hsz2
  obtain ⟨lw, hlw⟩ : ∃ lw, lw = if low < L then L else low := ⟨_, rfl⟩
  have hrc3 : RC g N L o (NmD L l x (i + 1)) (dnC (belF L l x lw) l (i + 1)) w (.slice none 0 0) 0 w3 := by
    refine ⟨by rw [hw3]; exact hx2.far (by omega), ?_, by rw [hw3]; exact hb2.setCell (by show g ≤ g + 1; omega) _, ?_, ?_⟩
    · rw [hw3]
      refine hf2.setP fun p => ?_
      rw [nm_start hm hx (Nat.lt_succ_self i), hD]
      simp
    · rw [dnC_start hm hx]; exact World.ownsRow_nil _ _ _ _
    · rw [dnC_start hm hx]; rfl
  have HRC3 := Lib.hid hrc3
  have HR3 : Hid (∀ j y, j < i + 1 → l[j]? = some y → y.r ≤ x.r) := fun j y hj hy => by
    rcases Nat.lt_or_ge j i with h1 | h1
    · have := aheadB_iff.1 (hm.asc j i y x h1 hy hx)
      omega
    · obtain rfl : j = i := by omega
      rw [hx] at hy; cases hy; exact Int.le_refl _
  have HN : Hid (belC L l x low = belC L l x lw) := by show _ = _; rw [hlw]; exact (bel_max hm low).symm
  have HLW : Hid (lw = if low < L then L else low) := hlw
  obtain ⟨b, off, a, hA, hbl, hfit, hce⟩ := h.get hx
  have HCE : Hid (∀ wX, Below g w wX → CrtAt wX b off i x a) := fun wX hb => hce wX (by rw [HG.out]; exact hb)
  have HGET : Hid (∀ (j : Nat) (y : CrtD), l[j]? = some y → ∃ a : CrtA, CrtFit y ∧ ∀ wX, Below g w wX → CrtAt wX b off j y a) := fun j y hy => by
    obtain ⟨b', off', a', h1, h2, h3, h4⟩ := h.get hy
    rw [hA] at h1
    cases h1
    exact ⟨a', h3, fun wX hb => h4 wX (by rw [HG.out]; exact hb)⟩
  have HBL : Hid (b < g) := by show b < g; omega
  obtain ⟨k0, k1, k2, k3, k4, k5, -⟩ := HCE.out w2 hb2
  obtain ⟨j0, j1, j2, j3, j4, j5, -⟩ := HCE.out w3 hrc3.below
  obtain ⟨d0, d1, d2⟩ := dag_cells hx0
  obtain ⟨e0, e1, e2⟩ := dag_cells hx2
  obtain ⟨f0, f1, f2⟩ := dag_cells hrc3.box
  rw [hD] at k4
  have z4 := hf2.cell D (by omega)
  have z5 := hf2.free D
  have i0 : (0 : Int) ≤ (i : Int) := by omega
  have i1 : (i : Int) < (o.n : Int) := by omega
  have i2 : (0 : Int) ≤ (D : Int) := by omega
  have i3 : (D : Int) < 65537 := by omega
  rw [hA] at d2 e2 f2
  have HA := Lib.hid hA
  clear hA hw1 hsz hw2 hb12 hsz2 hf2 hx2 hb2 hw3 hsz3 hrc3 hlw hce h hm hx hxok hxl hx0 hb1 hg hfit
  unfold dagV
  go_enter Try.func108, Try.ntmps108
  have hL0 := HM.out.l0
  have hL1 := HM.out.l1
  go_upto_region 1 with fail
  refine wp_scope_label 0 (ReachJ g N L o l x lw w) (fun a _ => roundOf a) rfl ?_ ?_
  · refine reachJ_elim ?_
    intro u4 u5 u10 u11 u12 u13 u14 u15 u16 u17 u18 u19 u20 u21 u22 u23 u24 u25 u26 u27 u28 u29 u30 u31 u32 u33 u34 u35 u36 u37 u38 u39 u40 u41 u42 u43 u44 u45 u46 u47 u48 u49 u50 u51 u52 u53 u54 u55 u56 u57 u58 u59 u60 u61 u62 u63 u64 u65 u66 u67 u68 u69 u70 u71 u72 u73 u74 u75 u76 u77 u78 u79 u80 u81 u82 u83 u84 k R v n wr hk hR0 hR1 hle hrc
    have HLE : Hid (∀ j y, j < k → l[j]? = some y → y.r ≤ R) := hle
    have HRC := Lib.hid hrc
    have hlw0 : 0 ≤ lw ∧ L ≤ lw := by have := HLW.out; split at this <;> omega
    obtain ⟨d0, d1, d2⟩ := dag_cells hrc.box
    have hnn : n ≤ 1000000 := by have := dn_len (belF L l x lw) l k; have := hrc.len; have := HLEN.out; omega
    have HNN : Hid (∀ q, (dnC (belF L l x lw) l q).length ≤ 1000000) := fun q => by have := dn_len (belF L l x lw) l q; have := HLEN.out; omega
    rw [HA.out] at d2
    by_cases hRl : R ≤ lw
    · obtain ⟨A', c', rfl, -⟩ := ownS_slice hrc.own
      have HRV := Lib.hid (reverse_is (g + 2) ⟨A', n, c'⟩ _ wr hrc.own hrc.len hnn (by have := hrc.fl.lt; omega))
      have HEND : Hid ((dnC (belF L l x lw) l k).reverse = belC L l x low) := by show _ = _; rw [HN.out]; exact dnC_end fun j y hj hy => Int.le_trans (hle j y hj hy) hRl
      have HLN : Hid (n = (belC L l x low).length) := by show _ = _; rw [← HEND.out, List.length_reverse]; exact hrc.len.symm
      clear hle hrc
      go_wp2_with (go_at_call 72; refine HRV.out.mono ?_; rintro e w5 ⟨rfl, ho5, hb5⟩)
      simp only [Exit.jump]
      go_ret
      have ho6 := ho5
      rw [HEND.out] at ho6
      exact newI_of (own_more ho6 (by rw [HG.out]; omega)) HLN.out (by rw [HG.out]; exact HRC.out.below.trans (hb5.mono (by omega)))
    · clear hle hrc
      go_upto_region 9 with fail
      go_loopw [1, 7] (fun u v' wr' => ∃ m n' : Nat, u = .int .i64 ((m : Int) - 1) ∧ m ≤ k ∧ Hid (RC g N L o (NmD L l x m) (dnC (belF L l x lw) l m) w v' n' wr')) (fun u _ _ => (intOf u + 1).toNat)
      case atStart => exact ⟨k, n, rfl, Nat.le_refl _, HRC.out⟩
      case round =>
        clear d0 d1 d2
        obtain ⟨m, n', rfl, hmk, HRM⟩ := hrel
        obtain ⟨d0, d1, d2⟩ := dag_cells HRM.out.box
        rw [HA.out] at d2
        rcases Nat.eq_zero_or_pos m with hm0 | hm0
        · subst hm0
          have e1 : ((0 : Nat) : Int) - 1 = -1 := rfl
          rw [e1]
          go_wp2_with fail
          go_step3
          show 0 = 0 ∧ (ReachJ g N L o l x lw w _ _ ∧ roundOf _ < _)
          refine ⟨rfl, .mk _ _ _ _ _ _ _ _ _ _ _ _ _ _ _ _ _ _ _ _ _ _ _ _ _ _ _ _ _ _ _ _ _ _ _ _ _ _ _ _ _ _ _ _ _ _ _ _ _ _ _ _ _ _ _ _ _ _ _ _ _ _ _ _ _ _ _ _ _ _ _ _ _ _ _ _ _ 0 (R - 1) u7 n' wr (Nat.zero_le _) (by omega) (by omega) (fun j y hj => absurd hj (Nat.not_lt_zero _)) HRM.out, ?_⟩
          show (R - 1).toNat < R.toNat
          omega
        · obtain ⟨m, rfl⟩ : ∃ m', m = m' + 1 := ⟨m - 1, by omega⟩
          have e1 : ((m + 1 : Nat) : Int) - 1 = (m : Int) := by omega
          rw [e1]
          have hmo : m < o.n := by omega
          obtain ⟨y, hy⟩ : ∃ y, l[m]? = some y := ⟨_, List.getElem?_eq_getElem (by rw [HLEN.out]; exact hmo)⟩
          obtain ⟨a', hfit, hce⟩ := HGET.out m y hy
          have hyR := HLE.out m y (by omega) hy
          have HY := Lib.hid hy
          have HCY : Hid (∀ wX, Below g w wX → CrtAt wX b off m y a') := hce
          have HFY := Lib.hid hfit
          obtain ⟨k0, k1, k2, k3, k4, k5, -⟩ := HCY.out wr HRM.out.below
          have i4 : (0 : Int) ≤ (m : Int) := by omega
          have i5 : (m : Int) < (o.n : Int) := by omega
          clear hy hfit hce
          by_cases hyr : y.r = R
          · have j1 : (y.r == R) = true := by simp [hyr]
            have hmem := List.mem_of_getElem? HY.out
            obtain ⟨hyok, hyl⟩ := HM.out.of_mem hmem
            obtain ⟨-, -, -, hyd0, hyd1⟩ := CrtD.pl_of hyok
            obtain ⟨E, hE⟩ : ∃ E : Nat, y.d = (E : Int) := ⟨y.d.toNat, by omega⟩
            have HPB : Hid (∀ p ∈ y.P, 1 ≤ p ∧ p ≤ 65536) := par_bounds hyok
            have HYD := Lib.hid hE
            have HRX : Hid (NmD L l x (m + 1) y.d ↔ Rch L l x y) := nm_is HM.out (List.mem_of_getElem? HX.out) HY.out
            have HST : Hid (∀ p, NmD L l x m p ↔ NmD L l x (m + 1) p ∨ (Rch L l x y ∧ L + 1 < y.r ∧ p ∈ y.P)) := fun p => nm_step HY.out p
            have HDN : Hid (dnC (belF L l x lw) l m = dnC (belF L l x lw) l (m + 1) ++ (if belF L l x lw y then [y.d] else [])) := dnC_step HY.out
            have hlow : decide (lw < y.r) = true := by simp; omega
            have HBF : Hid (belF L l x lw y = rchB L l x y) := by show _ = _; unfold belF; rw [hlow, Bool.and_true]
            have HPF : Hid (y.P.length ≤ 100000) := HFY.out.lP
            have hE0 : (0 : Int) ≤ (E : Int) := by omega
            have hE1 : (E : Int) < 65537 := by omega
            have hE2 : E < 65537 := by omega
            obtain ⟨ya, yr, yB, yP, yd, yS⟩ := y
            obtain ⟨aB, ⟨PA, pn, pc⟩, aS⟩ := a'
            dsimp only at hE hyr k0 k1 k2 k3 k4 k5 j1 hyl
            subst hE hyr
            clear hlow hyok hyd0 hyd1 hmem hyR
            go_upto_region 12 with fail
            obtain ⟨G, hG⟩ : ∃ G, G = wr.heap.size := ⟨_, rfl⟩
            obtain ⟨w5, hw5⟩ : ∃ w5, w5 = wr.alloc (.cells (crtC ⟨ya, yr, yB, yP, E, yS⟩ ⟨aB, ⟨PA, pn, pc⟩, aS⟩).toArray 37) := ⟨_, rfl⟩
            obtain ⟨hb5, hs5, hx5⟩ := boxes1 wr _ _ hw5
            rw [← hG] at hs5 hx5
            have HGE : Hid (wr.heap.size = G) := hG.symm
            have HW5 : Hid (wr.alloc (.cells #[.int .i64 ya, .int .i64 yr, .slice aB.A aB.n aB.c, .slice PA pn pc, .int .i64 E, .slice aS.A aS.n aS.c] 37) = w5) := hw5.symm
            rw [HGE.out, HW5.out]
            have HR5 := Lib.hid (HRM.out.less hb5)
            have HX5 := Lib.hid hx5
            have HOLT : Hid (∀ q, u7.ownBlock = some q → q < G) := fun q hq => by have := (own_lt HRM.out.own hq).1; rw [hG]; exact this
            have HGG : Hid (g + 1 < G) := by have := HRM.out.fl.lt; show _ < _; omega
            clear hw5 hb5 hG hs5 d0 d1 d2 k0 k1 k2 k3 k4 k5
            obtain ⟨c0, c1, c2, c3, c4, c5⟩ := crt_cells hx5
            obtain ⟨d0, d1, d2⟩ := dag_cells HR5.out.box
            have hfl := HR5.out.fl.cell E hE2
            cases hrch : flP (NmD L l x (m + 1)) E with
            | false =>
              have hnr : ¬ Rch L l x ⟨ya, yr, yB, yP, E, yS⟩ := fun hr => flP_no.1 hrch (HRX.out.2 hr)
              have HRM2 : Hid (RC g N L o (NmD L l x m) (dnC (belF L l x lw) l m) w u7 n' w5) := HR5.out.as (fun p => ⟨fun h => (HST.out p).2 (.inl h), fun h => ((HST.out p).1 h).elim id fun h => absurd h.1 hnr⟩) (by rw [HDN.out, HBF.out, rchB_no.2 hnr]; simp)
              rw [hrch] at hfl
              clear hrch hnr
              go_wp2_with fail
              go_roundw
              case rel => exact ⟨m, n', rfl, by omega, HRM2.out⟩
              case measure => simp [intOf]
            | true =>
              have hyr' : Rch L l x ⟨ya, yr, yB, yP, E, yS⟩ := HRX.out.1 (flP_iff.1 hrch)
              have HZ : Hid (dnC (belF L l x lw) l m = dnC (belF L l x lw) l (m + 1) ++ [(E : Int)]) := by show _ = _; rw [HDN.out, HBF.out, rchB_iff.2 hyr']; rfl
              have HST2 : Hid (∀ p, NmD L l x m p ↔ NmD L l x (m + 1) p ∨ (L + 1 < yr ∧ p ∈ yP)) := fun p => (HST.out p).trans ⟨fun h => h.imp id (·.2), fun h => h.imp id fun h => ⟨hyr', h⟩⟩
              rw [hrch] at hfl
              clear hrch hyr'
              go_upto_region 13 with fail
              have hn' : n' ≤ 1000000 := by rw [← HRM.out.len]; exact HNN.out _
              go_wp2_with (at_builtin; refine wpList_app_i64 _ rfl _ _ rfl (g + 2) u7 n' _ rfl (HR5.out.own.alloc _) w5.heap.size E rfl (cell_new _ _ _) hn' (by have := HR5.out.fl.lt; simp; omega) ?_)
              intro v6 w6 ho6 ht6
              have HRA : Hid (RC g N L o (NmD L l x (m + 1)) (dnC (belF L l x lw) l m) w v6 (n' + 1) w6) := by
                have hal : Below w5.heap.size w5 (w5.alloc (.cells #[.int .i64 (E : Int)] 3)) := (Below.refl _ _).alloc (Nat.le_refl _) _
                have := (HR5.out.less hal).list ht6 ho6 (by rw [List.length_append, HRM.out.len]; rfl)
                rwa [← HZ.out] at this
              have HX6 : Hid (Box w6 G (crtC ⟨ya, yr, yB, yP, E, yS⟩ ⟨aB, ⟨PA, pn, pc⟩, aS⟩)) := (HX5.out.below ((Below.refl _ _).alloc (Nat.le_refl _) (.cells #[.int .i64 (E : Int)] 3)) HX5.out.1).touch ht6 fun hf => by have := HOLT.out G hf; omega
              clear ho6 ht6 hfl c0 c1 c2 c3 c4 c5 d0 d1 d2 hx5
              obtain ⟨c0, c1, c2, c3, c4, c5⟩ := crt_cells HX6.out
              obtain ⟨d0, d1, d2⟩ := dag_cells HRA.out.box
              dsimp only at c3
              by_cases hRL : L + 1 < yr
              · go_upto_region 15 with fail
                go_wp2_with fail
                have hpn : pn ≤ 100000 := by have := HPF.out; have := (HCY.out _ HRA.out.below).in_.p.len; dsimp only at *; omega
                have HPL : Hid (yP.length = pn) := (HCY.out _ HRA.out.below).in_.p.len
                go_loopw [76] (fun u wr2 => ∃ q : Nat, u = .int .i64 q ∧ q ≤ pn ∧ Hid (RC g N L o (fun p => NmD L l x (m + 1) p ∨ p ∈ yP.take q) (dnC (belF L l x lw) l m) w v6 (n' + 1) wr2)) (fun u _ => pn - (intOf u).toNat)
                case atStart => exact ⟨0, rfl, Nat.zero_le _, HRA.out.as (fun p => by simp) rfl⟩
                case round =>
                  clear c0 c1 c2 c3 c4 c5 d0 d1 d2
                  obtain ⟨q, rfl, hq, HRQ⟩ := hrel
                  by_cases hlt : q < pn
                  · obtain ⟨p, hp⟩ : ∃ p, yP[q]? = some p := ⟨_, List.getElem?_eq_getElem (by rw [HPL.out]; exact hlt)⟩
                    have hpb := HPB.out p (List.mem_of_getElem? hp)
                    obtain ⟨F, hF⟩ : ∃ F : Nat, p = (F : Int) := ⟨p.toNat, by omega⟩
                    subst hF
                    obtain ⟨b2, off2, hPA, hbl2, hcell⟩ := (HCY.out _ HRQ.out.below).in_.p.rd.open_ (by rw [i64s_length, HPL.out]; omega)
                    dsimp only at hPA
                    subst hPA
                    have hc1 := hcell q (.int .i64 F) (by simp [i64s, hp])
                    have HRS : Hid (RC g N L o (fun p => NmD L l x (m + 1) p ∨ p ∈ yP.take (q + 1)) (dnC (belF L l x lw) l m) w v6 (n' + 1) (_root_.Go.World.setCell _ ⟨g + 1, F, none⟩ (.bool true))) := HRQ.out.set fun p => by
                      rw [List.take_add_one, hp]
                      simp [or_assoc]
                    have hfl := HRQ.out.fl.cell F (by omega)
                    have hfz := HRQ.out.fl.free F
                    have i6 : (0 : Int) ≤ (q : Int) := by omega
                    have i7 : (q : Int) < (pn : Int) := by omega
                    have i8 : (0 : Int) ≤ (F : Int) := by omega
                    have i9 : (F : Int) < 65537 := by omega
                    clear hp hpb hcell
                    go_wp2_with fail
                    go_roundw
                    case rel => exact ⟨q + 1, by go_num, hlt, HRS.out⟩
                    case measure => simp [intOf]; omega
                  · obtain rfl : q = pn := by omega
                    have i7 : ¬ ((q : Int) < (q : Int)) := by omega
                    have HRZ : Hid (RC g N L o (NmD L l x m) (dnC (belF L l x lw) l m) w v6 (n' + 1) _) := HRQ.out.as (fun p => by
                      rw [HST2.out p, List.take_of_length_le (by rw [HPL.out]; exact Nat.le_refl _)]
                      exact ⟨fun h => h.imp id fun h => ⟨hRL, h⟩, fun h => h.imp id (·.2)⟩) rfl
                    clear hlt
                    go_wp2_with fail
                    go_roundw
                    case rel => exact ⟨m, n' + 1, rfl, by omega, HRZ.out⟩
                    case measure => simp [intOf]
              · have HRZ : Hid (RC g N L o (NmD L l x m) (dnC (belF L l x lw) l m) w v6 (n' + 1) w6) := HRA.out.as (fun p => by
                  rw [HST2.out p]
                  exact ⟨.inl, fun h => h.elim id fun h => absurd h.1 hRL⟩) rfl
                go_wp2_with fail
                go_roundw
                case rel => exact ⟨m, n' + 1, rfl, by omega, HRZ.out⟩
                case measure => simp [intOf]
          · have j1 : (y.r == R) = false := by simp [hyr]
            have HLT : Hid (∀ j z, j < m + 1 → l[j]? = some z → z.r ≤ R - 1) := fun j z hj hz => by
              have h1 : z.r ≤ y.r := by
                rcases Nat.lt_or_ge j m with h2 | h2
                · have := aheadB_iff.1 (HM.out.asc j m z y h2 hz HY.out)
                  omega
                · obtain rfl : j = m := by omega
                  rw [HY.out] at hz; cases hz; exact Int.le_refl _
              omega
            go_wp2_with fail
            go_step3
            show 0 = 0 ∧ (ReachJ g N L o l x lw w _ _ ∧ roundOf _ < _)
            rw [← e1]
            refine ⟨rfl, .mk _ _ _ _ _ _ _ _ _ _ _ _ _ _ _ _ _ _ _ _ _ _ _ _ _ _ _ _ _ _ _ _ _ _ _ _ _ _ _ _ _ _ _ _ _ _ _ _ _ _ _ _ _ _ _ _ _ _ _ _ _ _ _ _ _ _ _ _ _ _ _ _ _ _ _ _ _ (m + 1) (R - 1) u7 n' wr (by omega) (by omega) (by omega) HLT.out HRM.out, ?_⟩
            show (R - 1).toNat < R.toNat
            omega
  · intro HREST
    go_upto_region 2 with fail
    rw [HG.out, HW.out]
    go_upto_region 3 with fail
    rw [HSZ.out, HW2.out]
    go_upto_region 4 with fail
    rw [HW3.out]
    have hi1 : ((i + 1 : Nat) : Int) - 1 = (i : Int) := by omega
    by_cases hll : low < L
    · obtain rfl : lw = L := by rw [HLW.out, if_pos hll]
      go_upto_region 6 with fail
      go_step3
      rename_i hK
      refine hK _ _ (HREST _ _ ?_)
      rw [← hi1]
      exact .mk _ _ _ _ _ _ _ _ _ _ _ _ _ _ _ _ _ _ _ _ _ _ _ _ _ _ _ _ _ _ _ _ _ _ _ _ _ _ _ _ _ _ _ _ _ _ _ _ _ _ _ _ _ _ _ _ _ _ _ _ _ _ _ _ _ _ _ _ _ _ _ _ _ _ _ _ _ (i + 1) x.r (.slice none 0 0) 0 w3 (by omega) (by omega) (by omega) HR3.out HRC3.out
    · obtain rfl : lw = low := by rw [HLW.out, if_neg hll]
      go_upto_region 6 with fail
      go_step3
      rename_i hK
      refine hK _ _ (HREST _ _ ?_)
      rw [← hi1]
      exact .mk _ _ _ _ _ _ _ _ _ _ _ _ _ _ _ _ _ _ _ _ _ _ _ _ _ _ _ _ _ _ _ _ _ _ _ _ _ _ _ _ _ _ _ _ _ _ _ _ _ _ _ _ _ _ _ _ _ _ _ _ _ _ _ _ _ _ _ _ _ _ _ _ _ _ _ _ _ (i + 1) x.r (.slice none 0 0) 0 w3 (by omega) (by omega) (by omega) HR3.out HRC3.out

end Go.Proofs.Ytejkeccoialogaa
/-
  Package path's Reach and Below.
-/
namespace Go.Proofs.Ytejkeccoialogaa
open Go.RowKit

/-- refused -/
def ReachErr (z : Int) (w : World) (en : Ending) (w' : World) : Prop := en = .returned (.tuple #[.bool false, .int .i64 z]) ∧ Below w.heap.size w w'
/-- refused -/
def BelowErr (z : Int) (w : World) (en : Ending) (w' : World) : Prop := en = .returned (.tuple #[.slice none 0 0, .int .i64 z]) ∧ Below w.heap.size w w'
set_option maxRecDepth 100000 in
set_option maxHeartbeats 8000000 in
theorem below_bad (N L p low : Int) (o : Ad) (l : List CrtD) (w : World) (h : GIn w o l) (hm : ¬ MayG N L l) :
    Calls Try.prog 96 #[dagV N L o, .int .i64 p, .int .i64 low] w (BelowErr 1 w) := by
  obtain ⟨g, hg⟩ : ∃ g, g = w.heap.size := ⟨_, rfl⟩
  obtain ⟨w1, hw1⟩ : ∃ w1, w1 = w.alloc (.cells (dagC N L o).toArray 24) := ⟨_, rfl⟩
  obtain ⟨hb1, hsz, hx0⟩ := boxes1 w _ _ hw1
  rw [← hg] at hb1 hsz hx0
  have HG : Hid (w.heap.size = g) := hg.symm
  have HW : Hid (w.alloc (.cells #[.int .i64 N, .int .i64 L, .slice o.A o.n o.c] 24) = w1) := hw1.symm
  have HIN : Hid (∀ wX, Below g w wX → GIn wX o l) := fun wX hb => h.below (by rw [← hg]; exact hb)
  have HB := Lib.hid hb1
  have HX0 := Lib.hid hx0
  have HC := Lib.hid (check_bad (HIN.out _ hb1) hm)
  have HD : Hid (∀ wX, Below w1.heap.size w1 wX → wX.cell? ⟨g, 0, none⟩ = some (.int .i64 N) ∧ wX.cell? ⟨g, 1, none⟩ = some (.int .i64 L) ∧ wX.cell? ⟨g, 2, none⟩ = some (.slice o.A o.n o.c)) := fun wX hb => dag_cells (HX0.out.below hb HX0.out.1)
  have hgs := hx0.1
  obtain ⟨d0, d1, d2⟩ := dag_cells hx0
  clear hg hw1 hb1 hsz hx0 h hm
  unfold dagV at HC ⊢
  go_enter Try.func96, Try.ntmps96
  go_upto_region 1 with fail
  rw [HG.out, HW.out]
  go_wp2_with (go_at_call 21; refine HC.out.mono ?_; rintro e w2 ⟨rfl, hb2⟩)
  go_ret2
  exact ⟨rfl, by rw [HG.out]; exact HB.out.trans (hb2.mono (Nat.le_of_lt hgs))⟩
set_option maxRecDepth 100000 in
set_option maxHeartbeats 8000000 in
theorem below_none (N L p low : Int) (o : Ad) (l : List CrtD) (w : World) (h : GIn w o l) (hm : MayG N L l) (hn : idxD l p < 0) :
    Calls Try.prog 96 #[dagV N L o, .int .i64 p, .int .i64 low] w (BelowErr 3 w) := by
  obtain ⟨g, hg⟩ : ∃ g, g = w.heap.size := ⟨_, rfl⟩
  obtain ⟨w1, hw1⟩ : ∃ w1, w1 = w.alloc (.cells (dagC N L o).toArray 24) := ⟨_, rfl⟩
  obtain ⟨hb1, hsz, hx0⟩ := boxes1 w _ _ hw1
  rw [← hg] at hb1 hsz hx0
  have HG : Hid (w.heap.size = g) := hg.symm
  have HW : Hid (w.alloc (.cells #[.int .i64 N, .int .i64 L, .slice o.A o.n o.c] 24) = w1) := hw1.symm
  have HIN : Hid (∀ wX, Below g w wX → GIn wX o l) := fun wX hb => h.below (by rw [← hg]; exact hb)
  have HB := Lib.hid hb1
  have HX0 := Lib.hid hx0
  have HC := Lib.hid (check_ok (HIN.out _ hb1) hm)
  have HD : Hid (∀ wX, Below w1.heap.size w1 wX → wX.cell? ⟨g, 0, none⟩ = some (.int .i64 N) ∧ wX.cell? ⟨g, 1, none⟩ = some (.int .i64 L) ∧ wX.cell? ⟨g, 2, none⟩ = some (.slice o.A o.n o.c)) := fun wX hb => dag_cells (HX0.out.below hb HX0.out.1)
  have hgs := hx0.1
  obtain ⟨d0, d1, d2⟩ := dag_cells hx0
  have HF : Hid (∀ p wX, Below w1.heap.size w1 wX → Calls Try.prog 107 #[.agg #[.int .i64 N, .int .i64 L, .slice o.A o.n o.c], .int .i64 p] wX fun e w' => e = .returned (.int .i64 (idxD l p)) ∧ Below wX.heap.size wX w') := fun p wX hb => findQ_is N L p o l wX (HIN.out wX (HB.out.trans (hb.mono (Nat.le_of_lt hgs))))
  clear hg hw1 hb1 hsz hx0 h hm
  unfold dagV at HC ⊢
  go_enter Try.func96, Try.ntmps96
  go_upto_region 1 with fail
  rw [HG.out, HW.out]
  go_upto_region 4 with (go_at_call 21; refine HC.out.mono ?_; rintro e w2 ⟨rfl, hb2⟩)
  clear d0 d1 d2
  obtain ⟨e0, e1, e2⟩ := HD.out w2 hb2
  go_wp2_with (go_at_call 107; refine (HF.out _ _ hb2).mono ?_; rintro e w3 ⟨rfl, hb3⟩)
  go_ret2
  exact ⟨rfl, by rw [HG.out]; exact HB.out.trans ((hb2.trans (hb3.mono hb2.size)).mono (Nat.le_of_lt hgs))⟩
/-- a list of the call's own, and an answer -/
def BelowOk (z : List Int) (w : World) (en : Ending) (w' : World) : Prop := ∃ o' : Ad, en = .returned (.tuple #[.slice o'.A o'.n o'.c, .int .i64 0]) ∧ w'.ownsRow w.heap.size 3 1 o'.v o'.n (i64s z) ∧ z.length = o'.n ∧ Below w.heap.size w w'
set_option maxRecDepth 100000 in
set_option maxHeartbeats 8000000 in
theorem below_ok (N L p low : Int) (o : Ad) (l : List CrtD) (x : CrtD) (w : World) (h : GIn w o l) (hm : MayG N L l) (hx : l[cutF (neD p) l]? = some x) :
    Calls Try.prog 96 #[dagV N L o, .int .i64 p, .int .i64 low] w (BelowOk (belC L l x low) w) := by
  obtain ⟨g, hg⟩ : ∃ g, g = w.heap.size := ⟨_, rfl⟩
  obtain ⟨w1, hw1⟩ : ∃ w1, w1 = w.alloc (.cells (dagC N L o).toArray 24) := ⟨_, rfl⟩
  obtain ⟨hb1, hsz, hx0⟩ := boxes1 w _ _ hw1
  rw [← hg] at hb1 hsz hx0
  have HG : Hid (w.heap.size = g) := hg.symm
  have HW : Hid (w.alloc (.cells #[.int .i64 N, .int .i64 L, .slice o.A o.n o.c] 24) = w1) := hw1.symm
  have HIN : Hid (∀ wX, Below g w wX → GIn wX o l) := fun wX hb => h.below (by rw [← hg]; exact hb)
  have HB := Lib.hid hb1
  have HX0 := Lib.hid hx0
  have HC := Lib.hid (check_ok (HIN.out _ hb1) hm)
  have HD : Hid (∀ wX, Below w1.heap.size w1 wX → wX.cell? ⟨g, 0, none⟩ = some (.int .i64 N) ∧ wX.cell? ⟨g, 1, none⟩ = some (.int .i64 L) ∧ wX.cell? ⟨g, 2, none⟩ = some (.slice o.A o.n o.c)) := fun wX hb => dag_cells (HX0.out.below hb HX0.out.1)
  have hgs := hx0.1
  obtain ⟨d0, d1, d2⟩ := dag_cells hx0
  have HF : Hid (∀ p wX, Below w1.heap.size w1 wX → Calls Try.prog 107 #[.agg #[.int .i64 N, .int .i64 L, .slice o.A o.n o.c], .int .i64 p] wX fun e w' => e = .returned (.int .i64 (idxD l p)) ∧ Below wX.heap.size wX w') := fun p wX hb => findQ_is N L p o l wX (HIN.out wX (HB.out.trans (hb.mono (Nat.le_of_lt hgs))))
  obtain ⟨k, hk⟩ : ∃ k, k = cutF (neD p) l := ⟨_, rfl⟩
  have hip : idxD l p = (k : Int) := by rw [hk]; exact (idxF_pos hx).1
  rw [← hk] at hx
  have HRE : Hid (∀ wX, Below w1.heap.size w1 wX → Calls Try.prog 108 #[.agg #[.int .i64 N, .int .i64 L, .slice o.A o.n o.c], .int .i64 k, .int .i64 low] wX (NewI (belC L l x low) wX)) := fun wX hb => reached_is N L low o l k x wX (HIN.out wX (HB.out.trans (hb.mono (Nat.le_of_lt hgs)))) hm hx
  have i0 : ¬ ((k : Int) < 0) := by omega
  have HF2 : Hid (∀ wX, Below w1.heap.size w1 wX → Calls Try.prog 107 #[.agg #[.int .i64 N, .int .i64 L, .slice o.A o.n o.c], .int .i64 p] wX fun e w' => e = .returned (.int .i64 (k : Int)) ∧ Below wX.heap.size wX w') := fun wX hb => by
    have := HF.out p wX hb
    rwa [hip] at this
  clear hx hk hip HF
  clear hg hw1 hb1 hsz hx0 h hm
  unfold dagV at HC ⊢
  go_enter Try.func96, Try.ntmps96
  go_upto_region 1 with fail
  rw [HG.out, HW.out]
  go_upto_region 4 with (go_at_call 21; refine HC.out.mono ?_; rintro e w2 ⟨rfl, hb2⟩)
  clear d0 d1 d2
  obtain ⟨e0, e1, e2⟩ := HD.out w2 hb2
  go_upto_region 7 with (go_at_call 107; refine (HF2.out _ hb2).mono ?_; rintro e w3 ⟨rfl, hb3⟩)
  have hb13 := hb2.trans (hb3.mono hb2.size)
  clear e0 e1 e2
  obtain ⟨e0, e1, e2⟩ := HD.out w3 hb13
  go_wp2_with (go_at_call 108; refine (HRE.out _ hb13).mono ?_; rintro e w4 ⟨⟨A5, n5, q5⟩, rfl, how, hlw, hb4⟩)
  go_ret2
  have hs := hb13.size
  refine ⟨⟨A5, n5, q5⟩, rfl, own_more how (by rw [HG.out]; omega), hlw, by rw [HG.out]; exact HB.out.trans ((hb13.trans (hb4.mono hs)).mono (Nat.le_of_lt hgs))⟩

end Go.Proofs.Ytejkeccoialogaa
/-
  Package path's Reach: the answer.
-/
namespace Go.Proofs.Ytejkeccoialogaa
open Go.RowKit

end Go.Proofs.Ytejkeccoialogaa
/-
  What the laws on paths are asked, in memory, and laid open; what is too heavy; the waking call.
-/
namespace Go.Proofs.Ytejkeccoialogaa
open Go.RowKit Go.ChangeShapes Go.WideShapes Go.Deep

/-- what is asked -/
structure AskQ where
  N : Int
  L : Int
  o : Ad
  ms : List (CrtD × CrtA)
  oi : Ad
  zs : List Int
  oj : Ad
  ws : List Int
def AskQ.l (q : AskQ) : List CrtD := q.ms.map Prod.fst
def askQC (q : AskQ) : List Value := [.int .i64 q.N, .int .i64 q.L, .slice q.o.A q.o.n q.o.c, .slice q.oi.A q.oi.n q.oi.c, .slice q.oj.A q.oj.n q.oj.c]
def askQV (q : AskQ) : Value := .agg #[.int .i64 q.N, .int .i64 q.L, .slice q.o.A q.o.n q.o.c, .slice q.oi.A q.oi.n q.oi.c, .slice q.oj.A q.oj.n q.oj.c]
structure AskQIn (w : World) (q : AskQ) : Prop where
  d : WkY w q.o q.ms
  i : SlIn w q.oi q.zs.length (i64s q.zs)
  j : SlIn w q.oj q.ws.length (i64s q.ws)
  wN : I64 q.N
  wL : I64 q.L
  wi : I64s q.zs
  wj : I64s q.ws
  fi : q.zs.length ≤ 140737488351232
  fj : q.ws.length ≤ 140737488351232
theorem AskQIn.below {w w' : World} {q : AskQ} (h : AskQIn w q) (hb : Below w.heap.size w w') : AskQIn w' q := ⟨h.d.below hb, h.i.below hb, h.j.below hb, h.wN, h.wL, h.wi, h.wj, h.fi, h.fj⟩
structure LightQ (q : AskQ) : Prop where
  d : LightY 80 q.ms
  i : q.zs.length ≤ 30
  j : q.ws.length ≤ 30
theorem askQ_cells {w : World} {g : Nat} {q : AskQ} (h : Box w g (askQC q)) : w.cell? ⟨g, 0, none⟩ = some (.int .i64 q.N) ∧ w.cell? ⟨g, 1, none⟩ = some (.int .i64 q.L) ∧ w.cell? ⟨g, 2, none⟩ = some (.slice q.o.A q.o.n q.o.c) ∧ w.cell? ⟨g, 3, none⟩ = some (.slice q.oi.A q.oi.n q.oi.c) ∧ w.cell? ⟨g, 4, none⟩ = some (.slice q.oj.A q.oj.n q.oj.c) :=
  ⟨(h.2 0 _ rfl).1, (h.2 1 _ rfl).1, (h.2 2 _ rfl).1, (h.2 3 _ rfl).1, (h.2 4 _ rfl).1⟩
theorem ycells_askQ : Try.prog.cellsOf 51 = 5 := by kernel_rfl

set_option maxRecDepth 100000 in
set_option maxHeartbeats 4000000 in
theorem open_askQ {H : Type} {enc : TypeId × Value → H} {w : World} {r : Reach} {b0 base : Nat} {spare : Nat → Bool} {held : Bool} {v : Value} {d : DataW H} {ps : List MemPlace}
    (hv : Value.okWide Try.prog w r b0 51 v) (h : DataW.Trod enc Try.prog w base spare held 51 v d ps) (hw : ∀ n ∈ d.weights Try.prog 51, n ≤ reachBytes) :
    ∃ q, v = askQV q ∧ AskQIn w q := by
  obtain ⟨cs, rfl, hsz⟩ := okWide_struct Try.underlying51 hv
  obtain ⟨l⟩ := cs
  match l, hsz.trans ycells_askQ with
  | [c0, c1, c2, c3, c4], _ =>
    obtain ⟨fuel, hf⟩ := h
    obtain ⟨ys, n', _, hag, hlen, hyl, hfs⟩ := DataW.trod_struct Try.underlying51 hf
    match ys, hyl with
    | [y0, y1, y2], _ =>
      have f0 := hfs 0 _ rfl
      have f1 := hfs 1 _ rfl
      have f2 := hfs 2 _ rfl
      simp [Value.cells, ycells_dag, cells_ints] at f0 f1 f2
      have hD : d = .agg [y0.1, y1.1, y2.1] := by
        have := congrArg Prod.fst hag
        simpa using this
      have hwm : ∀ (j : Nat) (t : TypeId) (e : DataW H), [y0.1, y1.1, y2.1][j]? = some e → [24, 25, 25][j]? = some t → ∀ n ∈ e.weights Try.prog t, n ≤ reachBytes := fun j t e he ht n hn => hw n (by
        rw [hD, DataW.weights, Try.underlying51]
        exact DataW.weights_mem_each (j := j) (t := t) (d := e) ht he n hn)
      obtain ⟨AI, cI, I, eI, hI, mI, rI, sI, zI⟩ := open_nums_fit Try.underlying25 Try.underlying3 cells_int ybytes_int (by decide) f1 (hwm 1 25 y1.1 rfl rfl)
      obtain ⟨AJ, cJ, J, eJ, hJ, mJ, rJ, sJ, zJ⟩ := open_nums_fit Try.underlying25 Try.underlying3 cells_int ybytes_int (by decide) f2 (hwm 2 25 y2.1 rfl rfl)
      obtain ⟨zs, n2, _, hag2, hlen2, hzl, hf2⟩ := DataW.trod_struct Try.underlying24 f0
      match zs, hzl with
      | [z0, z1, z2], _ =>
        have g0 := hf2 0 _ rfl
        have g1 := hf2 1 _ rfl
        have g2 := hf2 2 _ rfl
        simp [cells_int, ycells_certs] at g0 g1 g2
        have hD2 : y0.1 = .agg [z0.1, z1.1, z2.1] := by
          have := congrArg Prod.fst hag2
          simpa using this
        obtain ⟨rN, eN, _, wrN⟩ := DataW.trod_int Try.underlying3 g0
        obtain ⟨rL, eL, _, wrL⟩ := DataW.trod_int Try.underlying3 g1
        have w0 : ∀ n ∈ z2.1.weights Try.prog 22, n ≤ reachBytes := fun n hn => hwm 0 24 y0.1 rfl rfl n (by
          rw [hD2, DataW.weights, Try.underlying24]
          exact DataW.weights_mem_each (j := 2) (t := 22) (d := z2.1) rfl rfl n hn)
        have zD := slice_fitY Try.underlying22 ybytes_cert g2 w0
        obtain ⟨AD, cD, MD, eD, hDD, mD, rD, sD⟩ := open_rowG (fun y : CrtD × CrtA => crtC y.1 y.2) (OkC w) (sz := 6) (fun _ => rfl) (by decide) Try.underlying22 ycells_cert (fun f c y h hl hw => open_crt f c y h hl hw) g2 w0
        simp at eN eL
        subst eN eL eI eJ eD
        exact ⟨⟨rN, rL, ⟨AD, MD.length, cD⟩, MD, ⟨AI, I.length, cI⟩, I, ⟨AJ, J.length, cJ⟩, J⟩, rfl,
          ⟨row_wk hDD mD rD sD (zD _ _ _ rfl), ⟨rfl, hI, mI, rI⟩, ⟨rfl, hJ, mJ, rJ⟩, wf_i64 wrN, wf_i64 wrL, fun x hx => wf_i64 (sI x hx), fun x hx => wf_i64 (sJ x hx), zI, zJ⟩⟩

/-! ### the waking call -/
def wakeQ : CrtD := ⟨1, 1, [], [], 3, [1]⟩
theorem wakeP_may : MayG 1 0 [wakeQ] := ⟨by decide, by decide, by decide, by decide, fun i x hx => by
  match i, hx with
  | 0, hx =>
    simp at hx
    subst hx
    exact ⟨by decide +kernel, by decide, fun y h0 => absurd h0 (Nat.lt_irrefl 0), fun k y hk => absurd hk (Nat.not_lt_zero k)⟩
  | i + 1, hx => simp at hx, fun x hx => by
    simp at hx
    subst hx
    rfl⟩

theorem rd_box {w : World} {g : Nat} {vs : List Value} (h : Box w g vs) : Rd w (some ⟨g, 0, none⟩) vs := fun _ => ⟨g, 0, rfl, h.1, fun i v hv => by rw [Nat.zero_add]; exact (h.2 i v hv).1⟩
theorem wakeQ_fit : CrtFit wakeQ := by
  have h1 : I64 1 := by unfold I64; omega
  have h3 : I64 3 := by unfold I64; omega
  exact ⟨h1, h1, h3, i64s_nil, i64s_nil, fun x hx => by simp [wakeQ] at hx; rw [hx]; exact h1, by simp [wakeQ], by simp [wakeQ], by simp [wakeQ]⟩
theorem wakeQ_at : [wakeQ][cutF (neD 3) [wakeQ]]? = some wakeQ := by decide +kernel
theorem rowQ_one {w : World} {g1 g2 : Nat} (h1 : Box w g1 [.int .i64 1]) (h2 : Box w g2 (crtC wakeQ ⟨noAd, noAd, ⟨some ⟨g1, 0, none⟩, 1, 1⟩⟩)) : GIn w ⟨some ⟨g2, 0, none⟩, 1, 1⟩ [wakeQ] :=
  ⟨[(wakeQ, ⟨noAd, noAd, ⟨some ⟨g1, 0, none⟩, 1, 1⟩⟩)], ⟨⟨rfl, Nat.le_refl _, by simp [maxLen], by rw [cellsY_one]; exact rd_box h2⟩, fun x hx => by
    simp at hx
    subst hx
    exact ⟨slIn_none _, slIn_none _, ⟨rfl, Nat.le_refl _, by simp [maxLen], rd_box h1⟩⟩, fun x hx => by
    simp at hx
    subst hx
    exact wakeQ_fit, by simp⟩, rfl⟩
end Go.Proofs.Ytejkeccoialogaa
