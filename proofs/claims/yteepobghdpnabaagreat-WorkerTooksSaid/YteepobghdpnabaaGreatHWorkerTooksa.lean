/-
 A worker as plain data, and what the page says of it.
-/
import Derived.WalkKit
import Derived.Below
import Derived.Deep.Draws
import Derived.Deep.AppendLies
import Derived.Lib.AppendStr
import Derived.Lib.ConvBytes
import Derived.Lib.Hide
import Derived.Test.YteepobghdpnabaaGreatRows
import Derived.WalkSpells
import Derived.WalkLawsBesides
import Derived.Deep.QuietTactic
import Derived.BigQuiet
import Derived.LoopTactic
import Derived.Outline
import Derived.Laws.StructEq
import Derived.Deep.RegionHeld3
import Derived.OneCell
import Derived.IntWalk
import Derived.ProofKit
import Derived.OpenShut
import Derived.SliceStrings
import Derived.ChangeSlices
import Derived.Deep.Slices
import Derived.Deep.Fields
import Derived.ChangeOld
import Derived.Carry
import Derived.SizedLaws
import Derived.ScopeJumps
import Derived.Laws.Rows
import Derived.Laws.CopyRow
import Derived.Lib.AppendZerosOnto
import Derived.Lib.Overlaps
import Derived.Deep.RegionLaw
import Derived.StillTailTactics
import Derived.Laws.Externs
import Derived.Deep.MidRow
import Derived.Deep.DeepCutAuto
import Derived.Deep.CutRange
import Derived.BigRegion
import Derived.Deep.CutBlock
import Derived.Maps.OwnSet
import Derived.Great.BuildSlice
import Derived.Maps.AppendAt
import Derived.Deep.Heap
import Derived.Test.YteepobghdpnabaaGreatKWorkerTicksa
import Derived.Test.YteepobghdpnabaaGreatKWorkerTicksb
import Derived.Test.YteepobghdpnabaaGreatKWorkerTicksc
import Derived.Test.YteepobghdpnabaaGreatKWorkerTicksd
import Derived.Test.YteepobghdpnabaaGreatKWorkerTickse
import Derived.Test.YteepobghdpnabaaGreatKWorkerTicksf
import Derived.Test.YteepobghdpnabaaGreatKWorkerTicksg
import Derived.Test.YteepobghdpnabaaGreatKWorkerTicksh
import Derived.Test.YteepobghdpnabaaGreatKWorkerTicksi
import Derived.Test.YteepobghdpnabaaGreatKWorkerTicksj
import Derived.Test.YteepobghdpnabaaGreatKWorkerTicksk
import Derived.Test.YteepobghdpnabaaGreatKWorkerTicksl
import Derived.Test.YteepobghdpnabaaGreatKWorkerTicksm
import Derived.Test.YteepobghdpnabaaGreatKWorkerTicksn
import Derived.Test.YteepobghdpnabaaGreatKWorkerTickso
import Derived.Test.YteepobghdpnabaaGreatKWorkerTicksp
import Derived.Test.YteepobghdpnabaaGreatKWorkerTicksq
import Derived.Test.YteepobghdpnabaaGreatKWorkerTicksr
import Derived.Test.YteepobghdpnabaaGreatKWorkerTickss
import Derived.Test.YteepobghdpnabaaGreatKWorkerTickst
import Derived.Test.YteepobghdpnabaaGreatKWorkerTicksu
import Derived.Test.YteepobghdpnabaaGreatKWorkerTicksv
import Derived.Test.YteepobghdpnabaaGreatKWorkerTicksw
import Derived.Test.YteepobghdpnabaaGreatKWorkerTicksx
import Derived.Test.YteepobghdpnabaaGreatKWorkerTicksy
import Derived.Test.YteepobghdpnabaaGreatKWorkerTicksz
import Derived.Test.YteepobghdpnabaaGreatKWorkerTicksaa
import Derived.Test.YteepobghdpnabaaGreatKWorkerTicksab
import Derived.Test.YteepobghdpnabaaGreatKWorkerTicksac
import Derived.Test.YteepobghdpnabaaGreatKWorkerTicksad
import Derived.Test.YteepobghdpnabaaGreatKWorkerTicksae
import Derived.Test.YteepobghdpnabaaGreatKWorkerTicksaf
import Derived.Test.YteepobghdpnabaaGreatKWorkerTicksag
import Derived.Test.YteepobghdpnabaaGreatKWorkerTicksah
import Derived.Test.YteepobghdpnabaaGreatKWorkerTicksai
import Derived.Test.YteepobghdpnabaaGreatKWorkerTicksaj
import Derived.Test.YteepobghdpnabaaGreatKWorkerTicksak
import Derived.Test.YteepobghdpnabaaGreatKWorkerTicksal
import Derived.Test.YteepobghdpnabaaGreatKWorkerTicksam
import Derived.Test.YteepobghdpnabaaGreatKWorkerTicksan
import Derived.Test.YteepobghdpnabaaGreatKWorkerTicksao
import Derived.Test.YteepobghdpnabaaGreatKWorkerTicksap
import Derived.Test.YteepobghdpnabaaGreatKWorkerTicksaq
import Derived.Test.YteepobghdpnabaaGreatKWorkerTicksar
namespace Go.Proofs.YteepobghdpnabaaGreat
open Go.RowKit

/-! ### where a number stands in a rising list -/
/-! ### a worker that may be -/
/-! ### what is done -/
def tookW (P : WkD) (l : List Int) : WkD := { P with R := P.R.filter fun d => decide (d ∉ l) }
def backL (R : List Int) : List Int → List Int → List Int
 | [], b => b
 | d :: r, b => backL R r (if digB d = true ∧ d ∉ R ∧ d ∉ b then b ++ [d] else b)
end Go.Proofs.YteepobghdpnabaaGreat
namespace Go.Proofs.YteepobghdpnabaaGreat
open Go.RowKit

theorem zint_one : ∀ v ∈ zint.cells.toList, v.oneCell' = true := by
 intro v hv
 simp [zint, Value.cells] at hv
 first | (rcases hv with rfl | rfl <;> rfl) | (subst hv; rfl)

end Go.Proofs.YteepobghdpnabaaGreat
namespace Go.Proofs.YteepobghdpnabaaGreat
open Go.RowKit

theorem Grown.took {k : Nat} {P : WkD} (h : Grown k P) (l : List Int) : Grown (k + 1) (tookW P l) :=
 (show Grown k (tookW P l) from ⟨h.o, h.w, h.h, Nat.le_trans (Nat.add_le_add_right (List.length_filter_le _ _) _) h.r, h.s, h.l⟩).more (Nat.le_succ k)
/-! ### what is handed out -/
/-! ### a step stands while only one block of another sort turns -/
end Go.Proofs.YteepobghdpnabaaGreat
namespace Go.Proofs.YteepobghdpnabaaGreat
open Go.RowKit

theorem st_box {s B : Nat} {w : World} {Q : WkD} {a : WkA} (hbx : Box w s (wkC Q a ++ [noAd.v])) (hn : WNew B w Q a) (hs : s < B) : StAt s s w Q a [] noAd [] := by
  refine ⟨hbx, (hn.more (by omega)).pg, rowOwn_none _ _, rfl, ?_, fun y hy => by simp at hy, Nat.le_refl _, by have := hbx.1; omega⟩
  rintro k (hk | ⟨x, hx, hk⟩ | hk | ⟨y, hy, hk⟩)
  · have := (hn.core.lt hk).2; omega
  · have h1 : a.O.v.ownBlock = some x.block := by rw [Ad.v, hx]; rfl
    have := (own_lt hn.open_ h1).2
    omega
  · simp [noAd, Ad.v, Value.ownBlock] at hk
  · simp at hy
end Go.Proofs.YteepobghdpnabaaGreat
namespace Go.Proofs.YteepobghdpnabaaGreat
open Go.RowKit Go.Deep

def outOf (L l : List Int) : List Int := l.filter fun d => decide (d ∉ L)
theorem outOf_take {L l : List Int} {k : Nat} {d : Int} (h : l[k]? = some d) : outOf L (l.take (k + 1)) = outOf L (l.take k) ++ (if d ∈ L then [] else [d]) := by
 unfold outOf
 rw [take_nxt h, List.filter_append]
 congr 1
 by_cases hd : d ∈ L
 ·simp [hd]
 ·simp [hd]
theorem outOf_len (L l : List Int) : (outOf L l).length ≤ l.length := List.length_filter_le _ _
theorem outOf_all {L l : List Int} (h : ∀ (j : Nat) (y : Int), l[j]? = some y → y ∉ L) : outOf L l = l := by
 unfold outOf
 rw [List.filter_eq_self]
 intro y hy
 obtain ⟨j, hj⟩ := List.mem_iff_getElem?.1 hy
 exact decide_eq_true (h j y hj)
def FoundF (L l : List Int) (e : Ending) : Prop := (e = .returned (.int .i64 (-1)) ∧ ∀ (j : Nat) (y : Int), l[j]? = some y → y ∉ L) ∨ ∃ k : Nat, e = .returned (.int .i64 k) ∧ k < l.length ∧ (∀ y, l[k]? = some y → y ∈ L) ∧ ∀ (j : Nat) (y : Int), j < k → l[j]? = some y → y ∉ L

set_option maxRecDepth 100000 in
set_option maxHeartbeats 4000000 in
theorem indexF_any (A : Option Addr) (c n b mS : Nat) (l L : List Int) (w : World) (hz : l.length = n) (hr : Rd w A (i64s l)) (hn : n ≤ 1000000) (hd : ∀ (j : Nat) (y : Int), l[j]? = some y → digB y = true) (hs : SetIs w b mS L) :
    Calls Tryz.prog 140 #[.slice A n c, .func (.func 78) #[.map (some b)] #[]] w fun e w' => FoundF L l e ∧ Below w.heap.size w w' := by
  have HZ := Lib.hid hz
  have HD := Lib.hid hd
  clear hz hd
  go_enter Tryz.func140, Tryz.ntmps140
  go_wp2
  go_loopw [8] (fun i wr => ∃ k : Nat, i = .int .i64 k ∧ k ≤ n ∧ Hid (∀ (j : Nat) (y : Int), j < k → l[j]? = some y → y ∉ L) ∧ Below w.heap.size w wr) (fun i _ => n - (intOf i).toNat)
  case atStart => exact ⟨0, rfl, by omega, by show ∀ j, _; exact fun j y hj => by omega, Below.refl _ _⟩
  case round =>
    obtain ⟨k, rfl, hk, HI, hb⟩ := hrel
    by_cases hlt : k < n
    · obtain ⟨bl, off, rfl, hbl, hcell⟩ := hr.open_ (by rw [i64s_length, HZ.out]; omega)
      have hk1 := hcell k _ (i64s_at (by rw [HZ.out]; exact hlt))
      have hc1 := (hb.cell (p := ⟨bl, off + k, none⟩) hbl).trans hk1
      have hy : l[k]? = some (l[k]?.getD 0) := at_some (by rw [HZ.out]; exact hlt)
      obtain ⟨y, hye⟩ : ∃ y, y = l[k]?.getD 0 := ⟨_, rfl⟩
      rw [← hye] at hc1 hy
      have HY := Lib.hid hy
      have HS := Lib.hid (hs.below hb)
      clear hcell hk1 hye hy
      have i0 : (0 : Int) ≤ (k : Int) := by omega
      have i1 : (k : Int) < (n : Int) := by omega
      by_cases hin : y ∈ L
      · have HN : Hid (decide (y ∈ L) = true) := decide_eq_true hin
        clear hin
        go_wp2_with (go_at_call 78; refine (has_any b mS L y _ HS.out (HD.out k y HY.out)).mono ?_; rw [HN.out]; rintro e w' ⟨rfl, hb'⟩)
        go_ret
        exact ⟨.inr ⟨k, rfl, by rw [HZ.out]; exact hlt, fun z hz => by rw [HY.out] at hz; cases hz; exact of_decide_eq_true HN.out, HI.out⟩, hb.trans (hb'.mono hb.size)⟩
      · have HN : Hid (decide (y ∈ L) = false) := decide_eq_false hin
        clear hin
        go_wp2_with (go_at_call 78; refine (has_any b mS L y _ HS.out (HD.out k y HY.out)).mono ?_; rw [HN.out]; rintro e w' ⟨rfl, hb'⟩)
        go_roundw
        case rel =>
          refine ⟨k + 1, by go_num, by omega, ?_, hb.trans (hb'.mono hb.size)⟩
          show ∀ j z, j < k + 1 → l[j]? = some z → z ∉ L
          intro j z hj hz
          rcases Nat.lt_or_ge j k with h1 | h1
          · exact HI.out j z h1 hz
          · obtain rfl : j = k := by omega
            rw [HY.out] at hz
            cases hz
            exact of_decide_eq_false HN.out
        case measure => simp [intOf]; omega
    · have i1 : ¬ ((k : Int) < (n : Int)) := by omega
      obtain rfl : k = n := by omega
      go_wp2_with fail
      go_ret
      exact ⟨.inl ⟨rfl, fun j y hj => HI.out j y (by have := (List.getElem?_eq_some_iff.1 hj).1; rw [HZ.out] at this; exact this) hj⟩, hb⟩

structure DF (B g n cap b mS p q : Nat) (l L ys : List Int) (w wr : World) : Prop where
 own : wr.ownsRow B 3 1 (.slice (some ⟨g, 0, none⟩) n cap) n (i64s ys)
 len : ys.length = n
 low : ys.take p = outOf L (l.take q)
 high : ∀ j, q ≤ j → ys[j]? = l[j]?
 set : SetIs wr b mS L
 lt : p < q
 touch : Touch (fun k => k = g) w wr
section
variable {B g n cap b mS p q : Nat} {l L ys : List Int} {w wr w' : World}
theorem DF.below (h : DF B g n cap b mS p q l L ys w wr) (hb : Below wr.heap.size wr w') : DF B g n cap b mS p q l L ys w w' :=
 ⟨ownS_below h.own hb, h.len, h.low, h.high, h.set.below hb, h.lt, h.touch.then hb⟩
theorem DF.skip {y : Int} (h : DF B g n cap b mS p q l L ys w wr) (hy : l[q]? = some y) (hi : y ∈ L) : DF B g n cap b mS p (q + 1) l L ys w wr :=
 ⟨h.own, h.len, by rw [h.low, outOf_take hy, if_pos hi, List.append_nil], fun j hj => h.high j (by omega), h.set, by have := h.lt; omega, h.touch⟩
theorem DF.keep {y : Int} (h : DF B g n cap b mS p q l L ys w wr) (hq : q < n) (hg : g ≠ b) (hy : l[q]? = some y) (hi : y ∉ L) : DF B g n cap b mS (p + 1) (q + 1) l L (ys.set p y) w (wr.setCell ⟨g, p, none⟩ (.int .i64 y)) := by
  have hlt := h.lt
  obtain ⟨s1, s2⟩ := h.own.stored p (.int .i64 y)
  refine ⟨by rw [show i64s (ys.set p y) = (i64s ys).set p (.int .i64 y) from by simp [i64s, List.map_set]]; exact s1, by rw [List.length_set]; exact h.len, ?_, fun j hj => by rw [List.getElem?_set_ne (by omega)]; exact h.high j (by omega), ?_, by omega, h.touch.set (.inl rfl) _⟩
  · have e : (ys.set p y).take (p + 1) = ys.take p ++ [y] := by
      apply List.ext_getElem?
      intro j
      simp only [List.getElem?_take, List.getElem?_set, List.getElem?_append, List.length_take, h.len]
      rcases Nat.lt_trichotomy j p with h1 | h1 | h1
      · rw [if_pos (by omega), if_neg (by omega), if_pos (by omega), if_pos h1]
      · subst h1
        rw [if_pos (by omega), if_pos rfl, if_pos (by omega), if_neg (by omega), Nat.min_eq_left (by omega), Nat.sub_self]
        rfl
      · rw [if_neg (by omega), if_neg (by omega), Nat.min_eq_left (by omega)]
        rw [List.getElem?_eq_none (by simp; omega)]
    rw [e, h.low, outOf_take hy, if_neg hi]
  · exact h.set.block (blk_setCell_other _ _ _ _ (Ne.symm hg))
end

def DelTo (B : Nat) (l L : List Int) (v : Value) (w : World) (e : Ending) (w' : World) : Prop := ∃ o : Ad, e = .returned o.v ∧ w'.ownsRow B 3 1 o.v o.n (i64s (outOf L l)) ∧ (outOf L l).length = o.n ∧ o.v.ownBlock = v.ownBlock ∧ Touch (fun k => v.ownBlock = some k) w w'
set_option maxRecDepth 100000 in
set_option maxHeartbeats 4000000 in
theorem deleteF_any (B : Nat) (A : Option Addr) (c n b mS : Nat) (l L : List Int) (w : World) (h : w.ownsRow B 3 1 (.slice A n c) n (i64s l)) (hn : n ≤ 1000000) (hd : ∀ (j : Nat) (y : Int), l[j]? = some y → digB y = true) (hs : SetIs w b mS L) :
    Calls Tryz.prog 110 #[.slice A n c, .func (.func 78) #[.map (some b)] #[]] w (DelTo B l L (.slice A n c) w) := by
  obtain ⟨hc, hm, hr⟩ := rd_of_ownS (A := A) (c := c) h
  have hz : l.length = n := by have := h.1; rw [i64s_length] at this; omega
  have HO := Lib.hid h
  have HZ := Lib.hid hz
  have HD := Lib.hid hd
  have HI := Lib.hid (indexF_any A c n b mS l L w hz hr hn hd hs)
  have HS := Lib.hid hs
  clear hz hr hd h hs hm
  go_enter Tryz.func110, Tryz.ntmps110
  go_wp2_with fail
  refine HI.out.mono ?_
  rintro e w1 ⟨hF, hb1⟩
  rcases hF with ⟨rfl, hall⟩ | ⟨k, rfl, hk, hat, hlow⟩
  · go_wp2_with fail
    go_ret
    exact ⟨⟨A, n, c⟩, rfl, by rw [outOf_all hall]; exact ownS_below HO.out hb1, by rw [outOf_all hall]; exact HZ.out, rfl, Touch.of hb1⟩
  · have hkn : k < n := by have := HZ.out; omega
    obtain ⟨g, cap, hv, hBg, hglt⟩ := HO.out.form (by omega)
    simp only [Value.slice.injEq, true_and] at hv
    obtain ⟨rfl, rfl⟩ := hv
    have hy0 : l[k]? = some (l[k]?.getD 0) := at_some hk
    have hgb : Hid (g ≠ b) := by
      show g ≠ b
      rintro rfl
      obtain ⟨D, ⟨es, clock, hmp, _⟩, _⟩ := HS.out
      obtain ⟨cur, hcur⟩ := own_typeZ HO.out (b := g) rfl
      rw [hmp] at hcur
      cases hcur
    have H0 : Hid (DF B g n c b mS k (k + 1) l L l w w1) := by
      refine ⟨ownS_below HO.out hb1, HZ.out, ?_, fun _ _ => rfl, HS.out.below hb1, by omega, Touch.of hb1⟩
      rw [outOf_take hy0, if_pos (hat _ hy0), List.append_nil, outOf_all]
      intro j y hj
      rw [List.getElem?_take] at hj
      split at hj
      · exact hlow j y (by omega) hj
      · cases hj
    have e1 : ¬ ((k : Int) = -1) := by omega
    have e2 : ((k : Int) == -1) = false := by simp
    clear hy0 hat hlow hk
    go_wp2_with fail
    go_loopw [5, 6] (fun i j wr => ∃ (p q : Nat) (ys : List Int), i = .int .i64 p ∧ j = .int .i64 q ∧ q ≤ n ∧ p < q ∧ Hid (DF B g n c b mS p q l L ys w wr)) (fun _ j _ => n - (intOf j).toNat)
    case atStart => exact ⟨k, k + 1, l, rfl, by go_num, by omega, by omega, H0.out⟩
    case round =>
      clear H0 e1 e2
      obtain ⟨p, q, ys, rfl, rfl, hq, hpq, HF⟩ := hrel
      by_cases hlt : q < n
      · have hy : l[q]? = some (l[q]?.getD 0) := at_some (by rw [HZ.out]; exact hlt)
        obtain ⟨y, hye⟩ : ∃ y, y = l[q]?.getD 0 := ⟨_, rfl⟩
        rw [← hye] at hy
        have hyy : ys[q]? = some y := (HF.out.high q (Nat.le_refl _)).trans hy
        have hc1 : wr.cell? ⟨g, q, none⟩ = some (.int .i64 y) := by
          rw [HF.out.own.cellAt q (by omega)]
          simp [i64s, hyy]
        have HY := Lib.hid hy
        clear hye hy hyy
        have i0 : (0 : Int) ≤ (q : Int) := by omega
        have i1 : (q : Int) < (n : Int) := by omega
        have i2 : (0 : Int) ≤ (p : Int) := by omega
        have i3 : (p : Int) < (n : Int) := by omega
        by_cases hin : y ∈ L
        · have HN : Hid (decide (y ∈ L) = true) := decide_eq_true hin
          clear hin
          go_wp2_with (go_at_call 78; refine (has_any b mS L y _ HF.out.set (HD.out q y HY.out)).mono ?_; rw [HN.out]; rintro e w' ⟨rfl, hb'⟩)
          go_roundw
          case rel => exact ⟨p, q + 1, ys, rfl, by go_num, by omega, by omega, (HF.out.below hb').skip HY.out (of_decide_eq_true HN.out)⟩
          case measure => simp [intOf]; omega
        · have HN : Hid (decide (y ∈ L) = false) := decide_eq_false hin
          clear hin
          go_wp2_with (go_at_call 78; refine (has_any b mS L y _ HF.out.set (HD.out q y HY.out)).mono ?_; rw [HN.out]; rintro e w' ⟨rfl, hb'⟩; have HF' := Lib.hid (HF.out.below hb'); have hf1 := HF'.out.own.frozenAt p; have hc2 : w'.cell? ⟨g, p, none⟩ = some (.int .i64 (ys[p]?.getD 0)) := by rw [HF'.out.own.cellAt p (by omega), i64s_at (by rw [HF'.out.len]; omega)])
          go_roundw
          case rel => exact ⟨p + 1, q + 1, ys.set p y, by go_num, by go_num, by omega, by omega, HF'.out.keep hlt hgb.out HY.out (of_decide_eq_false HN.out)⟩
          case measure => simp [intOf]; omega
      · have i1 : ¬ ((q : Int) < (n : Int)) := by omega
        obtain rfl : q = n := by omega
        have hop := row_open HF.out.own
        obtain ⟨cur, hg, hb, hnc, hcm, hcs, hx⟩ := hop
        obtain ⟨i0, hi0, hz0, hz1, hz2⟩ := info_parts info_zint
        obtain ⟨cur2, hcur2⟩ : ∃ cur2, cur2 = over cur p (Builtin.zeroCells zint.cells (q - p)).toList := ⟨_, rfl⟩
        obtain ⟨w2, hw2⟩ : ∃ w2, w2 = wr.setRow g cur2 := ⟨_, rfl⟩
        have hclr : ∀ ty c', (Builtin.clear_ #[25] ty #[.slice (some ⟨g, p, none⟩) (q - p) c']).run Tryz.prog wr = .ok (.tuple #[]) w2 := by
          intro ty c'
          rw [hw2, hcur2]
          exact run_clear_in (P := Tryz.prog) wr Tryz.underlying25 hi0 hz0 hg (by show p + (q - p) * 1 ≤ _; omega) zint_one (by decide) (by omega)
        have hres : w2.ownsRow B 3 1 (.slice (some ⟨g, 0, none⟩) p c) p (i64s (outOf L l)) ∧ Touch (fun k' => (Value.slice (some ⟨g, 0, none⟩) q c).ownBlock = some k') w w2 := by
          have hzl : (Builtin.zeroCells zint.cells (q - p)).toList.length = (q - p) * 1 := by rw [Array.length_toList, size_zeroCells]; rfl
          have hlow := HF.out.low
          rw [List.take_of_length_le (l := l) (by rw [HZ.out]; exact Nat.le_refl _)] at hlow
          refine ⟨row_shut (cur := cur2) ?_ hb (by omega) hcm ?_ ?_, ?_⟩
          · rw [hw2, hcur2]; exact row_over _ hg _ _
          · rw [hcur2, over_size (by rw [hzl]; omega), hcs]
          · have hcl : cur.toList.length = c * 1 := by rw [Array.length_toList, hcs]
            rw [hcur2, over_list, List.append_assoc, List.take_append_of_le_length (by rw [List.length_take, hcl]; omega), List.take_take, Nat.mul_one, Nat.min_self, ← hlow, show i64s (ys.take p) = (i64s ys).take p by simp [i64s, List.map_take], ← hx, List.take_take, Nat.min_eq_left (by omega)]
          · rw [hw2]
            exact (HF.out.touch.trans (Touch.grown (F := fun k => k = g) (setRow_grown wr g cur2) (fun k e => by cases e; rfl)) (fun k hk => .inl hk)).mono fun k hk => by rw [hk]; rfl
        have hlen : (outOf L l).length = p := by
          have := hres.1.1
          rw [i64s_length] at this
          omega
        have HR := Lib.hid hres
        have HL := Lib.hid hlen
        have HC := Lib.hid hclr
        clear hres hlen hclr hw2 hcur2 hi0 hz0 hz1 hz2 hx hg hcm HF
        have e1 : (0 : Int) ≤ (p : Int) := by omega
        have e3 : (p : Int) ≤ (q : Int) := by omega
        have e4 : (p : Int) ≤ (c : Int) := by omega
        have e5 : (q : Int) ≤ (c : Int) := by omega
        have e6 : ¬ (c = p) := by omega
        have e7 : p ≤ q := by omega
        have e8 : (0 : Int) ≤ (q : Int) := by omega
        go_wp2_with (first | refine wpList_clear_run (o := ⟨none, _, _, _, _, _⟩) _ rfl (.tmp 38) 25 rfl rfl (HC.out _ _) ?_)
        go_ret
        exact ⟨⟨some ⟨g, 0, none⟩, p, c⟩, rfl, HR.out.1, HL.out, rfl, HR.out.2⟩

end Go.Proofs.YteepobghdpnabaaGreat
