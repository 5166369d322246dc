/-
  The page's marks: what is reached, by places.
-/
import Derived.Test.YtejkeccoialogaaYRMay
import Derived.Test.YtejkeccoialogaaQLaw
import Derived.Test.YtejkeccoialogaaCalm
import Derived.OwnWalk
import Derived.Deep.RegionHeld3
import Derived.Deep.RegionWith
namespace Go.Proofs.Ytejkeccoialogaa
open Go.RowKit

theorem info_qbool : (Try.prog.info? 4).map (fun i => (i.zero, i.size, i.bytes)) = some (some (.bool false), 1, 1) := by kernel_rfl
open Classical in
noncomputable def flI (S : Int → Prop) (p : Int) : Bool := decide (S p)
theorem flI_iff {S : Int → Prop} {p : Int} : flI S p = true ↔ S p := by simp [flI]
theorem flI_no {S : Int → Prop} {p : Int} : flI S p = false ↔ ¬ S p := by simp [flI]
theorem flI_eq {S T : Int → Prop} {p q : Int} (h : S p ↔ T q) : flI S p = flI T q := by
  rw [Bool.eq_iff_iff, flI_iff, flI_iff]; exact h
/-- flags by places -/
noncomputable def flR (S : Int → Prop) (l : List CrtD) : List Value := l.map fun y => .bool (flI S y.d)
noncomputable def rowB (L : Int) (l : List CrtD) (x : CrtD) : List Value := l.map fun y => .bool (rchB L l x y)
theorem flR_as {S T : Int → Prop} {l : List CrtD} (h : ∀ y ∈ l, S y.d ↔ T y.d) : flR S l = flR T l := List.map_congr_left fun y hy => by rw [flI_eq (h y hy)]
theorem flR_set {S T : Int → Prop} {l : List CrtD} (hd : DigN l) {j : Nat} {y : CrtD} (hj : l[j]? = some y) (h : ∀ p, T p ↔ S p ∨ p = y.d) : (flR S l).set j (.bool true) = flR T l := by
  refine List.ext_getElem? fun i => ?_
  have hjl := (List.getElem?_eq_some_iff.1 hj).1
  by_cases hij : i = j
  · subst hij
    rw [List.getElem?_set_self (by simp [flR]; exact hjl)]
    simp only [flR, List.getElem?_map, hj, Option.map_some, Option.some.injEq, Value.bool.injEq]
    exact (flI_iff.2 ((h _).2 (.inr rfl))).symm
  · rw [List.getElem?_set_ne (fun e => hij e.symm)]
    simp only [flR, List.getElem?_map]
    cases hi : l[i]? with
    | none => rfl
    | some z =>
      simp only [Option.map_some, Option.some.injEq, Value.bool.injEq]
      refine flI_eq ?_
      rw [h]
      refine ⟨.inl, fun e => e.elim id fun e => ?_⟩
      exfalso
      rcases Nat.lt_or_ge i j with h1 | h1
      · exact hd i j z y h1 hi hj e
      · exact hd j i y z (by omega) hj hi e.symm
theorem flR_none (n : Nat) (l : List CrtD) (hl : l.length = n) : List.replicate n (Value.bool false) = flR (fun _ => False) l := by
  refine List.ext_getElem? fun i => ?_
  simp only [flR, List.getElem?_map, List.getElem?_replicate]
  rcases Nat.lt_or_ge i n with h | h
  · rw [if_pos h, List.getElem?_eq_getElem (by omega)]
    simp only [Option.map_some, Option.some.injEq, Value.bool.injEq]
    exact (flI_no.2 id).symm
  · rw [if_neg (by omega), List.getElem?_eq_none (by omega)]
    rfl
/-- what the walk carries -/
structure RM (g : Nat) (N L : Int) (o : Ad) (l : List CrtD) (S : Int → Prop) (w wr : World) : Prop where
  box : Box wr g (dagC N L o)
  own : wr.ownsRow (g + 1) 4 1 (.slice (some ⟨g + 1, 0, none⟩) o.n o.n) o.n (flR S l)
  below : Below g w wr
  lt : g + 1 < wr.heap.size
section
variable {g : Nat} {N L : Int} {o : Ad} {l : List CrtD} {S T : Int → Prop} {w wr w' : World}
theorem RM.less (h : RM g N L o l S w wr) (hb : Below wr.heap.size wr w') : RM g N L o l S w w' := by
  have := h.lt
  exact ⟨h.box.below hb (by omega), own_below h.own hb, h.below.trans (hb.mono (by omega)), Nat.lt_of_lt_of_le h.lt hb.size⟩
theorem RM.as (h : RM g N L o l S w wr) (hs : ∀ y ∈ l, S y.d ↔ T y.d) : RM g N L o l T w wr := ⟨h.box, by rw [← flR_as hs]; exact h.own, h.below, h.lt⟩
theorem RM.set (h : RM g N L o l S w wr) (hd : DigN l) {j : Nat} {y : CrtD} (hj : l[j]? = some y) (e : ∀ p, T p ↔ S p ∨ p = y.d) : RM g N L o l T w (wr.setCell ⟨g + 1, j, none⟩ (.bool true)) :=
  ⟨h.box.far (by omega), by rw [← flR_set hd hj e]; exact (h.own.stored j (.bool true)).1, h.below.setCell (by show g ≤ g + 1; omega) _, by simpa using h.lt⟩
theorem RM.cell (h : RM g N L o l S w wr) {j : Nat} {y : CrtD} (hj : l[j]? = some y) : wr.cell? ⟨g + 1, j, none⟩ = some (.bool (flI S y.d)) ∧ wr.frozen? ⟨g + 1, j, none⟩ = false :=
  (row_box h.own).2 j _ (by simp [flR, hj])
end
/-- marks of the call's own -/
def MarksTo (L : Int) (l : List CrtD) (x : CrtD) (w : World) (en : Ending) (w' : World) : Prop := ∃ o' : Ad, en = .returned (.slice o'.A o'.n o'.c) ∧ w'.ownsRow w.heap.size 4 1 o'.v o'.n (rowB L l x) ∧ l.length = o'.n ∧ Below w.heap.size w w'

set_option maxRecDepth 100000 in
set_option maxHeartbeats 4000000 in
theorem rMarks_is (N L : Int) (o : Ad) (l : List CrtD) (k : Nat) (x : CrtD) (w : World) (h : GIn w o l) (hm : MayG N L l) (hx : l[k]? = some x) :
    Calls Try.prog 95 #[dagV N L o, .int .i64 k] w (MarksTo L l x w) := by
  obtain ⟨g, hg⟩ : ∃ g, g = w.heap.size := ⟨_, rfl⟩
  obtain ⟨w1, hw1⟩ : ∃ w1, w1 = w.alloc (.cells (dagC N L o).toArray 24) := ⟨_, rfl⟩
  obtain ⟨hb1, hsz, hx0⟩ := boxes1 w _ _ hw1
  rw [← hg] at hb1 hsz hx0
  have HG : Hid (w.heap.size = g) := hg.symm
  have HW : Hid (w.alloc (.cells #[.int .i64 N, .int .i64 L, .slice o.A o.n o.c] 24) = w1) := hw1.symm
  have HIN : Hid (∀ wX, Below g w wX → GIn wX o l) := fun wX hb => h.below (by rw [← hg]; exact hb)
  have HX0 := Lib.hid hx0
  have HB := Lib.hid hb1
  have HLEN : Hid (l.length = o.n) := h.len
  have hfew := h.few
  have HM := Lib.hid hm
  have HX := Lib.hid hx
  have hkn : k < o.n := by have := (List.getElem?_eq_some_iff.1 hx).1; have := h.len; omega
  obtain ⟨b, off, a, hA, hbl, -, -⟩ := h.get hx
  have HGET : Hid (∀ (j : Nat) (y : CrtD), l[j]? = some y → ∃ a : CrtA, CrtFit y ∧ ∀ wX, Below g w wX → CrtAt wX b off j y a) := fun j y hy => by
    obtain ⟨b', off', a', h1, h2, h3, h4⟩ := h.get hy
    rw [hA] at h1
    cases h1
    exact ⟨a', h3, fun wX hb => h4 wX (by rw [HG.out]; exact hb)⟩
  obtain ⟨d0, d1, d2⟩ := dag_cells hx0
  have HA := Lib.hid hA
  have HFI : Hid (∀ p wX, Below g w wX → Calls Try.prog 41 #[.agg #[.int .i64 N, .int .i64 L, .slice (some ⟨b, off, none⟩) o.n o.c], .int .i64 p] wX fun e w' => e = .returned (.int .i64 (idxD l p)) ∧ Below wX.heap.size wX w') := fun p wX hb => by
    have := rFind_is N L p o l wX (HIN.out wX hb)
    unfold dagV at this
    rwa [hA] at this
  have HSZ : Hid (w1.heap.size = g + 1) := hsz
  have hL0 := hm.l0
  have hL1 := hm.l1
  have i0 : (0 : Int) ≤ (k : Int) := by omega
  have i1 : (k : Int) < (o.n : Int) := by omega
  clear hw1 hsz hx0 h hm hx hb1 hg hA hbl
  unfold dagV
  go_enter Try.func95, Try.ntmps95
  go_upto_region 1 with fail
  rw [HG.out, HW.out]
  obtain ⟨ib, hib, hzb, hsb, hbb⟩ := info_parts info_qbool
  have HIB := Lib.hid hib
  have HZB := Lib.hid hzb
  have HSB := Lib.hid hsb
  have HBB := Lib.hid hbb
  clear hib hzb hsb hbb
  go_upto_region 2 with (at_make; refine wpList_make_full _ rfl _ _ 112 rfl (g + 1) 4 ib (.bool false) 1 Try.underlying112 HIB.out HZB.out HSB.out .i64 .i64 (o.n : Int) (o.n : Int) o.n rfl rfl rfl rfl (by rw [HBB.out]; omega) (by unfold maxLen; omega) (by rw [HSZ.out]; exact Nat.le_refl _) ?_; intro w2 ho2 hg2)
  have e2 : (madeCells (Value.bool false).cells (o.n * 1)).toList = List.replicate o.n (.bool false) := by rw [Nat.mul_one]; exact toList_madeCells_one _ _
  rw [e2, flR_none o.n l HLEN.out] at ho2
  rw [HSZ.out] at ho2 ⊢
  have ht2 : Touch (fun _ => False) w1 w2 := Touch.grown hg2 fun k hk => by cases hk
  have hb2 : Below w1.heap.size w1 w2 := ht2.below (fun k hk => hk.elim) (Nat.le_refl _)
  have hrm2 : RM g N L o l (fun _ => False) w w2 := ⟨HX0.out.below hb2 HX0.out.1, ho2, HB.out.trans (hb2.mono (Nat.le_of_lt HX0.out.1)), (own_lt ho2 rfl).1⟩
  obtain ⟨c1, f1⟩ := hrm2.cell HX.out
  obtain ⟨w3, hw3⟩ : ∃ w3, w3 = w2.setCell ⟨g + 1, k, none⟩ (.bool true) := ⟨_, rfl⟩
  have HW3 : Hid (w2.setCell ⟨g + 1, k, none⟩ (.bool true) = w3) := hw3.symm
  have HR3 : Hid (RM g N L o l (NmD L l x (k + 1)) w w3) := by
    show RM _ _ _ _ _ _ _ _
    rw [hw3]
    exact hrm2.set HM.out.dig HX.out fun p => by rw [nm_start HM.out HX.out (Nat.lt_succ_self k)]; simp
  clear e2 ho2 hg2 ht2 hb2 hrm2 hw3 d0 d1 d2
  go_upto_region 3 with fail
  rw [HW3.out]
  clear c1 f1
  go_wp2_with fail
  go_loopw [6] (fun u wr => ∃ m : Nat, u = .int .i64 ((m : Int) - 1) ∧ m ≤ o.n ∧ Hid (RM g N L o l (NmD L l x m) w wr)) (fun u _ => (intOf u + 1).toNat)
  case atStart => exact ⟨k + 1, by rw [show ((k + 1 : Nat) : Int) - 1 = (k : Int) by omega], by omega, HR3.out⟩
  case round =>
    obtain ⟨m, rfl, hm, HRM⟩ := hrel
    rcases Nat.eq_zero_or_pos m with hm0 | hm0
    · subst hm0
      have e1 : ((0 : Nat) : Int) - 1 = -1 := rfl
      have HE : Hid (flR (NmD L l x 0) l = rowB L l x) := List.map_congr_left fun y hy => by
        obtain ⟨j, hj⟩ := List.mem_iff_getElem?.1 hy
        have : flI (NmD L l x 0) y.d = rchB L l x y := by rw [Bool.eq_iff_iff, flI_iff, rchB_iff]; exact nm_end HM.out HX.out hj (Nat.zero_le _)
        rw [this]
      rw [e1]
      go_wp2_with fail
      go_ret
      exact ⟨⟨some ⟨g + 1, 0, none⟩, o.n, o.n⟩, rfl, by rw [← HE.out]; exact own_more HRM.out.own (by rw [HG.out]; omega), HLEN.out, by rw [HG.out]; exact HRM.out.below⟩
    · obtain ⟨m, rfl⟩ : ∃ m', m = m' + 1 := ⟨m - 1, by omega⟩
      have e1 : ((m + 1 : Nat) : Int) - 1 = (m : Int) := by omega
      rw [e1]
      have hmo : m < o.n := by omega
      obtain ⟨y, hy⟩ : ∃ y, l[m]? = some y := ⟨_, List.getElem?_eq_getElem (by rw [HLEN.out]; exact hmo)⟩
      obtain ⟨a', hfit, hce⟩ := HGET.out m y hy
      have HY := Lib.hid hy
      have HCY : Hid (∀ wX, Below g w wX → CrtAt wX b off m y a') := hce
      have HFY := Lib.hid hfit
      obtain ⟨c1, -⟩ := HRM.out.cell hy
      have HRX : Hid (NmD L l x (m + 1) y.d ↔ Rch L l x y) := nm_is HM.out (List.mem_of_getElem? HX.out) HY.out
      have HST : Hid (∀ p, NmD L l x m p ↔ NmD L l x (m + 1) p ∨ (Rch L l x y ∧ L + 1 < y.r ∧ p ∈ y.P)) := fun p => nm_step HY.out p
      have i4 : (0 : Int) ≤ (m : Int) := by omega
      have i5 : (m : Int) < (o.n : Int) := by omega
      clear hfit hce hy
      cases hfl : flI (NmD L l x (m + 1)) y.d with
      | false =>
        have hnr : ¬ Rch L l x y := fun hr => flI_no.1 hfl (HRX.out.2 hr)
        have HRM2 : Hid (RM g N L o l (NmD L l x m) w wr) := HRM.out.as fun z _ => ⟨fun h => (HST.out _).2 (.inl h), fun h => ((HST.out _).1 h).elim id fun h => absurd h.1 hnr⟩
        rw [hfl] at c1
        clear hfl hnr
        go_wp2_with fail
        go_roundw
        case rel => exact ⟨m, rfl, by omega, HRM2.out⟩
        case measure => simp [intOf]
      | true =>
        have hyr : Rch L l x y := HRX.out.1 (flI_iff.1 hfl)
        have HST2 : Hid (∀ p, NmD L l x m p ↔ NmD L l x (m + 1) p ∨ (L + 1 < y.r ∧ p ∈ y.P)) := fun p => (HST.out p).trans ⟨fun h => h.imp id (·.2), fun h => h.imp id fun h => ⟨hyr, h⟩⟩
        rw [hfl] at c1
        clear hfl hyr
        obtain ⟨hyok, hyl⟩ := HM.out.of_mem (List.mem_of_getElem? HY.out)
        obtain ⟨hyr0, hyr1⟩ := (ok_hdr hyok).2.1
        obtain ⟨k0, k1, k2, k3, k4, k5, hcin⟩ := HCY.out wr HRM.out.below
        obtain ⟨d0, d1, d2⟩ := dag_cells HRM.out.box
        rw [HA.out] at d2
        obtain ⟨aB, ⟨PA, pn, pc⟩, aS⟩ := a'
        have hpn : pn ≤ 100000 := by have := HFY.out.lP; have := hcin.p.len; dsimp only at *; omega
        have HPL : Hid (y.P.length = pn) := hcin.p.len
        dsimp only at k0 k1 k2 k3 k4 k5
        clear hcin hyok
        go_upto_region 8 with fail
        obtain ⟨G, hG⟩ : ∃ G, G = wr.heap.size := ⟨_, rfl⟩
        obtain ⟨w5, hw5⟩ : ∃ w5, w5 = wr.alloc (.cells (hdrC y ⟨aB, ⟨PA, pn, pc⟩, aS⟩).toArray 35) := ⟨_, rfl⟩
        obtain ⟨hb5, -, hx5⟩ := boxes1 wr _ _ hw5
        rw [← hG] at hx5
        have HGE : Hid (wr.heap.size = G) := hG.symm
        have HW5 : Hid (wr.alloc (.cells #[.int .i64 y.a, .int .i64 y.r, .slice aB.A aB.n aB.c, .slice PA pn pc] 35) = w5) := hw5.symm
        rw [HGE.out, HW5.out]
        have HR5 := Lib.hid (HRM.out.less hb5)
        have HX5 := Lib.hid hx5
        have HGG : Hid (g + 1 < G) := by have := HRM.out.lt; show _ < _; omega
        clear hw5 hb5 hG d0 d1 d2 k0 k1 k2 k3 k4 k5 hx5 c1
        go_wp2_with fail
        go_loopw [8] (fun u wr2 => ∃ q : Nat, u = .int .i64 q ∧ q ≤ pn ∧ (¬ L + 1 < y.r → q = 0) ∧ Hid (RM g N L o l (fun p => NmD L l x (m + 1) p ∨ p ∈ y.P.take q) w wr2) ∧ Hid (Box wr2 G (hdrC y ⟨aB, ⟨PA, pn, pc⟩, aS⟩))) (fun u _ => pn - (intOf u).toNat)
        case atStart => exact ⟨0, rfl, Nat.zero_le _, fun _ => rfl, HR5.out.as (fun z _ => by simp), HX5.out⟩
        case round =>
          obtain ⟨q, rfl, hq, hq0, HRQ, HBX⟩ := hrel
          obtain ⟨d0, d1, d2⟩ := dag_cells HRQ.out.box
          obtain ⟨c0, c1, c2, c3⟩ := hdr_cells HBX.out
          dsimp only at c2 c3
          rw [HA.out] at d2
          by_cases hlt : q < pn
          · have i7 : (q : Int) < (pn : Int) := by omega
            have i6 : (0 : Int) ≤ (q : Int) := by omega
            by_cases hRL : L + 1 < y.r
            · have j1 : L < y.r - 1 := by omega
              obtain ⟨p, hp⟩ : ∃ p, y.P[q]? = some p := ⟨_, List.getElem?_eq_getElem (by rw [HPL.out]; exact hlt)⟩
              obtain ⟨z, hzin, hzd, hzf⟩ := parent_in HM.out (List.mem_of_getElem? HY.out) (by omega) (List.mem_of_getElem? hp)
              obtain ⟨hz1, -⟩ := idxF_pos hzf
              obtain ⟨c, hc⟩ : ∃ c, c = cutF (neD p) l := ⟨_, rfl⟩
              rw [← hc] at hz1 hzf
              have hcn : c < o.n := by have := (List.getElem?_eq_some_iff.1 hzf).1; have := HLEN.out; omega
              obtain ⟨b2, off2, hPA, hbl2, hcell⟩ := (HCY.out _ HRQ.out.below).in_.p.rd.open_ (by rw [i64s_length, HPL.out]; omega)
              dsimp only at hPA
              subst hPA
              have hc1 := hcell q (.int .i64 p) (by simp [i64s, hp])
              have HC1 := Lib.hid hc1
              have HF2 : Hid (∀ wX, Below g w wX → Calls Try.prog 41 #[.agg #[.int .i64 N, .int .i64 L, .slice (some ⟨b, off, none⟩) o.n o.c], .int .i64 p] wX fun e w' => e = .returned (.int .i64 (c : Int)) ∧ Below wX.heap.size wX w') := fun wX hb => by
                have := HFI.out p wX hb
                rw [show idxD l p = (c : Int) from hz1] at this
                exact this
              have HZF := Lib.hid hzf
              have HZD := Lib.hid hzd
              have HTK : Hid (∀ r, r ∈ y.P.take (q + 1) ↔ r ∈ y.P.take q ∨ r = p) := fun r => by rw [List.take_add_one, hp]; simp
              have i8 : (0 : Int) ≤ (c : Int) := by omega
              have i9 : (c : Int) < (o.n : Int) := by omega
              clear hp hzin hzd hzf hz1 hc hcell hc1
              go_upto_region 11 with fail
              clear d0 d1 d2 c0 c1 c2 c3
              have hgw : g ≤ wr.heap.size := by have := HRQ.out.lt; omega
              have p0 : ∀ z : Calm wr, z.val.cell? ⟨g, 0, none⟩ = some (.int .i64 N) := fun z => (dag_cells (HRQ.out.less z.ok).box).1
              have p1 : ∀ z : Calm wr, z.val.cell? ⟨g, 1, none⟩ = some (.int .i64 L) := fun z => (dag_cells (HRQ.out.less z.ok).box).2.1
              have p2 : ∀ z : Calm wr, z.val.cell? ⟨g, 2, none⟩ = some (.slice (some ⟨b, off, none⟩) o.n o.c) := fun z => by rw [← HA.out]; exact (dag_cells (HRQ.out.less z.ok).box).2.2
              have p3 : ∀ z : Calm wr, z.val.cell? ⟨G, 3, none⟩ = some (.slice (some ⟨b2, off2, none⟩) pn pc) := fun z => (hdr_cells (HBX.out.below z.ok HBX.out.1)).2.2.2
              have p4 : ∀ z : Calm wr, z.val.cell? ⟨b2, off2 + q, none⟩ = some (.int .i64 p) := fun z => (z.ok.cell (p := ⟨b2, off2 + q, none⟩) hbl2).trans HC1.out
              have hf := fun z : Calm wr => HF2.out z.val (HRQ.out.below.trans (z.ok.mono hgw))
              have HF3 := Lib.hid hf
              clear hf
              refine wp_region_calm (by kernel_rfl) (by kernel_rfl) ?_
              repeat (go_big_quiet_step ((go_at_call 41; exact calm_tells (HF3.out _))))
              refine wpQuiet_nil ?_
              rintro _ ⟨z, rfl⟩
              obtain ⟨w6, hwz⟩ : ∃ wz, wz = z.val := ⟨_, rfl⟩
              have hb6 : Below wr.heap.size wr w6 := by rw [hwz]; exact z.ok
              rw [← hwz]
              clear hwz z p0 p1 p2 p3 p4 HF3
              have HR6 := Lib.hid (HRQ.out.less hb6)
              have HB6 := Lib.hid (HBX.out.below hb6 HBX.out.1)
              obtain ⟨c1, f1⟩ := HR6.out.cell HZF.out
              have HR7 : Hid (RM g N L o l (fun p => NmD L l x (m + 1) p ∨ p ∈ y.P.take (q + 1)) w (_root_.Go.World.setCell w6 ⟨g + 1, c, none⟩ (.bool true))) := HR6.out.set HM.out.dig HZF.out fun r => by
                rw [HTK.out, HZD.out, or_assoc]
              have HB7 : Hid (Box (_root_.Go.World.setCell w6 ⟨g + 1, c, none⟩ (.bool true)) G (hdrC y ⟨aB, ⟨some ⟨b2, off2, none⟩, pn, pc⟩, aS⟩)) := HB6.out.far (by have := HGG.out; omega)
              clear hb6
              go_wp2_with fail
              go_roundw
              case rel => exact ⟨q + 1, by go_num, hlt, fun h => absurd hRL h, HR7.out, HB7.out⟩
              case measure => simp [intOf]; omega
            · have j1 : ¬ (L < y.r - 1) := by omega
              have HRZ : Hid (RM g N L o l (NmD L l x m) w wr) := HRQ.out.as fun z _ => by
                rw [HST2.out, hq0 hRL]
                simp [hRL]
              go_wp2_with fail
              go_roundw
              case rel => exact ⟨m, rfl, by omega, HRZ.out⟩
              case measure => simp [intOf]
          · obtain rfl : q = pn := by omega
            have i7 : ¬ ((q : Int) < (q : Int)) := by omega
            have HRZ : Hid (RM g N L o l (NmD L l x m) w wr) := HRQ.out.as fun z _ => by
              rw [HST2.out, List.take_of_length_le (by rw [HPL.out]; exact Nat.le_refl _)]
              constructor
              · rintro (h | h)
                · exact .inl h
                · refine .inr ⟨Classical.byContradiction fun hn => ?_, h⟩
                  have h0 := hq0 hn
                  have := HPL.out
                  rw [h0] at this
                  rw [List.eq_nil_of_length_eq_zero this] at h
                  simp at h
              · exact fun h => h.imp id (·.2)
            clear hlt
            go_wp2_with fail
            go_roundw
            case rel => exact ⟨m, rfl, by omega, HRZ.out⟩
            case measure => simp [intOf]

end Go.Proofs.Ytejkeccoialogaa
/-
  The page's Below.
-/
namespace Go.Proofs.Ytejkeccoialogaa
open Go.RowKit

theorem rowB_at {L : Int} {l : List CrtD} {x y : CrtD} {j : Nat} (h : l[j]? = some y) : (rowB L l x)[j]? = some (.bool (rchB L l x y)) := by simp [rowB, h]
theorem rowB_length (L : Int) (l : List CrtD) (x : CrtD) : (rowB L l x).length = l.length := by simp [rowB]
theorem filter_take_next {f : CrtD → Bool} {l : List CrtD} {k : Nat} {y : CrtD} (h : l[k]? = some y) : ((l.take (k + 1)).filter f).map CrtD.d = ((l.take k).filter f).map CrtD.d ++ (if f y then [y.d] else []) := by
  rw [List.take_add_one, h]
  cases hf : f y <;> simp [hf]

end Go.Proofs.Ytejkeccoialogaa
/-
  The page's Reach.
-/
namespace Go.Proofs.Ytejkeccoialogaa
open Go.RowKit

set_option maxRecDepth 100000 in
set_option maxHeartbeats 40000000 in
theorem rReach_is (N L p q : Int) (o : Ad) (l : List CrtD) (x y : CrtD) (w : World) (h : GIn w o l) (hm : MayG N L l) (hx : l[cutF (neD p) l]? = some x) (hy : l[cutF (neD q) l]? = some y) :
    Calls Try.prog 71 #[dagV N L o, .int .i64 p, .int .i64 q] w fun e w' => e = .returned (.bool (rchB L l x y)) ∧ Below w.heap.size w w' := by
  obtain ⟨g, hg⟩ : ∃ g, g = w.heap.size := ⟨_, rfl⟩
  obtain ⟨w1, hw1⟩ : ∃ w1, w1 = w.alloc (.cells (dagC N L o).toArray 24) := ⟨_, rfl⟩
  obtain ⟨hb1, hsz, hx0⟩ := boxes1 w _ _ hw1
  rw [← hg] at hb1 hsz hx0
  have HG : Hid (w.heap.size = g) := hg.symm
  have HW : Hid (w.alloc (.cells #[.int .i64 N, .int .i64 L, .slice o.A o.n o.c] 24) = w1) := hw1.symm
  have HIN : Hid (∀ wX, Below g w wX → GIn wX o l) := fun wX hb => h.below (by rw [← hg]; exact hb)
  have HX0 := Lib.hid hx0
  have HB := Lib.hid hb1
  obtain ⟨k, hk⟩ : ∃ k, k = cutF (neD p) l := ⟨_, rfl⟩
  obtain ⟨m, hm'⟩ : ∃ m, m = cutF (neD q) l := ⟨_, rfl⟩
  have hip : idxF (neD p) l = (k : Int) := by rw [hk]; exact (idxF_pos hx).1
  have hiq : idxF (neD q) l = (m : Int) := by rw [hm']; exact (idxF_pos hy).1
  rw [← hk] at hx
  rw [← hm'] at hy
  have hlen := h.len
  have hmn : m < o.n := by have := (List.getElem?_eq_some_iff.1 hy).1; omega
  have hgs := hx0.1
  have HFP : Hid (∀ wX, Below w1.heap.size w1 wX → Calls Try.prog 41 #[.agg #[.int .i64 N, .int .i64 L, .slice o.A o.n o.c], .int .i64 p] wX fun e w' => e = .returned (.int .i64 (k : Int)) ∧ Below wX.heap.size wX w') := fun wX hb => by
    have := rFind_is N L p o l wX (HIN.out wX (HB.out.trans (hb.mono (Nat.le_of_lt hgs))))
    rwa [hip] at this
  have HFQ : Hid (∀ wX, Below w1.heap.size w1 wX → Calls Try.prog 41 #[.agg #[.int .i64 N, .int .i64 L, .slice o.A o.n o.c], .int .i64 q] wX fun e w' => e = .returned (.int .i64 (m : Int)) ∧ Below wX.heap.size wX w') := fun wX hb => by
    have := rFind_is N L q o l wX (HIN.out wX (HB.out.trans (hb.mono (Nat.le_of_lt hgs))))
    rwa [hiq] at this
  have HMK : Hid (∀ wX, Below w1.heap.size w1 wX → Calls Try.prog 95 #[.agg #[.int .i64 N, .int .i64 L, .slice o.A o.n o.c], .int .i64 k] wX (fun e w' => ∃ (b n c : Nat), e = .returned (.slice (some ⟨b, 0, none⟩) n c) ∧ (m : Int) < (n : Int) ∧ (∀ wY, Below w'.heap.size w' wY → wY.cell? ⟨b, m, none⟩ = some (.bool (rchB L l x y))) ∧ Below wX.heap.size wX w')) := fun wX hb =>
    (rMarks_is N L o l k x wX (HIN.out wX (HB.out.trans (hb.mono (Nat.le_of_lt hgs)))) hm hx).mono fun e w' ⟨⟨A', n', c'⟩, he, ho, hl', hb'⟩ => by
      dsimp only at hl'
      obtain ⟨g', cap, hv, -, hlt⟩ := ho.form (by dsimp only; omega)
      simp only [Ad.v, Value.slice.injEq, true_and] at hv
      obtain ⟨rfl, rfl⟩ := hv
      refine ⟨g', n', c', he, by omega, fun wY hY => ?_, hb'⟩
      rw [hY.cell (p := ⟨g', m, none⟩) hlt]
      exact ((row_box ho).2 m _ (rowB_at hy)).1
  have HD : Hid (∀ wX, Below w1.heap.size w1 wX → wX.cell? ⟨g, 0, none⟩ = some (.int .i64 N) ∧ wX.cell? ⟨g, 1, none⟩ = some (.int .i64 L) ∧ wX.cell? ⟨g, 2, none⟩ = some (.slice o.A o.n o.c)) := fun wX hb => dag_cells (HX0.out.below hb HX0.out.1)
  obtain ⟨d0, d1, d2⟩ := HD.out w1 (Below.refl _ _)
  have i0 : (0 : Int) ≤ (m : Int) := by omega
  clear hg hw1 hb1 hsz hx0 h hm hx hy hip hiq hk hm' hlen
  unfold dagV
  go_enter Try.func71, Try.ntmps71
  go_upto_region 1 with fail
  rw [HG.out, HW.out]
  have hbz : Below w1.heap.size w1 w1.drew := (Below.refl _ _).drew
  go_region_with (first
      | (go_at_call 95; with_reducible refine (HMK.out _ ?_).mono ?_
         · with_reducible assumption
         rintro e w4 ⟨b, n, c, rfl, hmc, hcel, hb4⟩
         have hb14 : Below w1.heap.size w1 w4 := Below.trans (by with_reducible assumption) (hb4.mono (by first | (simp; done) | exact Below.size (by with_reducible assumption)))
         have hcq := hcel w4 (Below.refl _ _)
         obtain ⟨q0, q1, q2⟩ := HD.out w4 hb14)
      | (go_at_call 41; with_reducible refine (HFP.out _ ?_).mono ?_
         · with_reducible assumption
         rintro e w5 ⟨rfl, hb5⟩
         have hb15 : Below w1.heap.size w1 w5 := Below.trans (by with_reducible assumption) (hb5.mono (by first | (simp; done) | exact Below.size (by with_reducible assumption)))
         obtain ⟨q0, q1, q2⟩ := HD.out w5 hb15)
      | (go_at_call 41; have hcz := hcel; with_reducible refine (HFQ.out _ ?_).mono ?_
         · with_reducible assumption
         rintro e w6 ⟨rfl, hb6⟩
         have hb16 : Below w1.heap.size w1 w6 := Below.trans (by with_reducible assumption) (hb6.mono (by first | (simp; done) | exact Below.size (by with_reducible assumption)))
         have hcq6 := hcel w6 hb6
         obtain ⟨q0, q1, q2⟩ := HD.out w6 hb16))
  all_goals go_wp2_with fail
  all_goals go_ret
  all_goals exact ⟨rfl, by rw [HG.out]; exact HB.out.trans (hb16.mono (Nat.le_of_lt hgs))⟩

end Go.Proofs.Ytejkeccoialogaa
