/-
 Package worker's small functions: digests, rising numbers, sets of digests.
-/
import Derived.Maps.OwnSet
import Derived.ScopeJumps
import Derived.Test.YteepobghdpnabaaGreatKBe
import Derived.Test.YteepobghdpnabaaGreatKBk
namespace Go.Proofs.YteepobghdpnabaaGreat
open Go.RowKit Go.Maps Go.WideMaps

theorem zdig_is (b : Bool) (d : Int) (h : digB d = b) (w : World) : Calls Tryz.prog 41 #[.int .i64 d] w fun e w' => e = .returned (.bool b) ∧ w = w' := by
 have HB := Lib.hid h
 clear h
 by_cases h1 : 1 ≤ d
 ·by_cases h2 : d ≤ 65536
  ·have HN : Hid (b = true) := HB.out.symm.trans (by unfold digB; rw [decide_eq_true_eq]; omega)
   go_enter Tryz.func41, Tryz.ntmps41
   go_wp2_with fail
   go_ret
   exact ⟨ret_bool (by rw [HN.out]), rfl⟩
  ·have HN : Hid (b = false) := HB.out.symm.trans (by unfold digB; rw [decide_eq_false_iff_not]; omega)
   go_enter Tryz.func41, Tryz.ntmps41
   go_wp2_with fail
   go_ret
   exact ⟨ret_bool (by rw [HN.out]), rfl⟩
 ·have HN : Hid (b = false) := HB.out.symm.trans (by unfold digB; rw [decide_eq_false_iff_not]; omega)
  go_enter Tryz.func41, Tryz.ntmps41
  go_wp2_with fail
  go_ret
  exact ⟨ret_bool (by rw [HN.out]), rfl⟩

inductive RiseJ (p : Prop) (B : Nat) (w : World) : Act → World → Prop
 | mk (u0 u1 u2 u3 u4 u5 u6 u7 u8 u9 u10 u11 u12 u13 u14 u15 u16 u17 u18 u19 u20 u21 u22 u23 : Value) (w' : World) (hp : p) (hb : Below B w w') : RiseJ p B w { tmps := #[u0, u1, u2, u3, u4, u5, u6, u7, u8, u9, u10, u11, u12, u13, u14, u15, u16, u17, u18, u19, u20, u21, u22, u23], defers := [] } w'
theorem RiseJ.elim {p : Prop} {B : Nat} {w : World} {G : Act → World → Prop} (h : ∀ (u0 u1 u2 u3 u4 u5 u6 u7 u8 u9 u10 u11 u12 u13 u14 u15 u16 u17 u18 u19 u20 u21 u22 u23 : Value) (w' : World), p → Below B w w' → G { tmps := #[u0, u1, u2, u3, u4, u5, u6, u7, u8, u9, u10, u11, u12, u13, u14, u15, u16, u17, u18, u19, u20, u21, u22, u23], defers := [] } w') : ∀ a' w', RiseJ p B w a' w' → G a' w' := by
 intro a' w' k
 cases k with
 | mk u0 u1 u2 u3 u4 u5 u6 u7 u8 u9 u10 u11 u12 u13 u14 u15 u16 u17 u18 u19 u20 u21 u22 u23 _ hp hb => exact h u0 u1 u2 u3 u4 u5 u6 u7 u8 u9 u10 u11 u12 u13 u14 u15 u16 u17 u18 u19 u20 u21 u22 u23 _ hp hb

set_option maxHeartbeats 1000000 in
theorem zrise_is (b : Bool) (A : Option Addr) (c n : Nat) (l : List Int) (most : Int) (w : World) (h : upB 0 most l = b) (hz : l.length = n) (hr : Rd w A (i64s l)) (hn : n ≤ 1073741824) :
  Calls Tryz.prog 42 #[.slice A n c, .int .i64 most] w fun e w' => e = .returned (.bool b) ∧ Below w.heap.size w w' := by
 have HZ := Lib.hid hz
 have HU := Lib.hid h
 clear hz h
 go_enter Tryz.func42, Tryz.ntmps42
 go_wp2_with fail
 refine wp_scope_jumps 0 (RiseJ (b = false) w.heap.size w) (fun _ _ => 0) rfl ?_ ?_
 ·go_wp2_with fail
  go_loop [5, 10] (fun v i => ∃ (k : Nat) (m : Int), i = .int .i64 k ∧ v = .int .i64 m ∧ k ≤ n ∧ Hid (upB m most (l.drop k) = b)) (fun _ i => n - (intOf i).toNat)
  case atStart => exact ⟨0, 0, rfl, rfl, by omega, by rw [List.drop_zero]; exact HU.out⟩
  case round =>
   obtain ⟨k, m, rfl, rfl, hk, HR⟩ := hrel
   by_cases hlt : k < n
   ·obtain ⟨bl, off, rfl, hbl, hcell⟩ := hr.open_ (by rw [i64s_length, HZ.out]; omega)
    have hc1 := hcell k _ (i64s_at (by rw [HZ.out]; exact hlt))
    have hd := drop_at (l := l) (k := k) (by rw [HZ.out]; exact hlt)
    clear hcell
    obtain ⟨y, hy⟩ : ∃ y, y = l[k]?.getD 0 := ⟨_, rfl⟩
    rw [← hy] at hc1 hd
    have hu := HR.out
    rw [hd, upB_cons] at hu
    have HY := Lib.hid hu
    clear hy hd hu
    have i0 : (0 : Int) ≤ (k : Int) := by omega
    have i1 : (k : Int) < (n : Int) := by omega
    by_cases h1 : y ≤ m
    ·have HB : Hid (b = false) := by
      show b = false
      rw [← HY.out, Bool.and_eq_false_iff]
      exact .inl (by simp; omega)
     go_wp2_with fail
     go_step3
     show 0 = 0 ∧ RiseJ (b = false) w.heap.size w _ _
     exact ⟨rfl, .mk _ _ _ _ _ _ _ _ _ _ _ _ _ _ _ _ _ _ _ _ _ _ _ _ _ HB.out (Below.refl _ _)⟩
    ·by_cases h2 : most < y
     ·have HB : Hid (b = false) := by
       show b = false
       rw [← HY.out, Bool.and_eq_false_iff]
       exact .inl (by simp; omega)
      go_wp2_with fail
      go_step3
      show 0 = 0 ∧ RiseJ (b = false) w.heap.size w _ _
      exact ⟨rfl, .mk _ _ _ _ _ _ _ _ _ _ _ _ _ _ _ _ _ _ _ _ _ _ _ _ _ HB.out (Below.refl _ _)⟩
     ·have HN : Hid (upB y most (l.drop (k + 1)) = b) := by
       show upB y most (l.drop (k + 1)) = b
       have h3 := HY.out
       have h4 : decide (m < y ∧ y ≤ most) = true := by simp; omega
       rw [h4, Bool.true_and] at h3
       exact h3
      go_wp2_with fail
      go_round
      case rel => exact ⟨k + 1, y, by go_num, rfl, by omega, HN⟩
      case measure => simp [intOf]; omega
   ·have HB : Hid (b = true) := by
     show b = true
     rw [← HR.out, List.drop_eq_nil_of_le (by rw [HZ.out]; omega)]
     rfl
    have i1 : ¬ ((k : Int) < (n : Int)) := by omega
    go_wp2_with fail
    simp only [Exit.jump]
    go_ret
    exact ⟨ret_bool HB.out.symm, Below.refl _ _⟩
 ·refine RiseJ.elim ?_
  intro u0 u1 u2 u3 u4 u5 u6 u7 u8 u9 u10 u11 u12 u13 u14 u15 u16 u17 u18 u19 u20 u21 u22 u23 w' hp hb
  have HN := Lib.hid hp
  clear hp
  go_wp2_with fail
  simp only [Exit.jump]
  go_ret
  exact ⟨ret_bool HN.out.symm, hb⟩

/-! ### sets of digests -/
theorem dig_keyed : Keyed Tryz.prog 3 := int_keyed Tryz.underlying3
theorem dig_key {d : Int} (h : digB d = true) : keyOf Tryz.prog 3 (.int .i64 d) = some (.int .i64 d) := by
 refine keyOf_int_mk Tryz.underlying3 ?_
 have e1 : IntKind.i64.min = -9223372036854775808 := rfl
 have e2 : IntKind.i64.max = 9223372036854775807 := rfl
 simp only [digB, decide_eq_true_eq] at h
 simp only [Lit.wf, e1, e2, Bool.and_eq_true, decide_eq_true_eq]
 omega
theorem unit_zero (w : World) : (zeroValue 113).run Tryz.prog w = .ok (.agg #[]) w := by kernel_rfl
def SetIs (w : World) (b n : Nat) (L : List Int) : Prop :=
 ∃ D : DataW Unit, w.ownsMap Tryz.prog 3 unitElem b n D ∧ IsMap D ∧ ∀ x, digB x = true → Maps.has D (.int .i64 x) = decide (x ∈ L)
theorem SetIs.lt {w : World} {b n : Nat} {L : List Int} (h : SetIs w b n L) : b < w.heap.size := by
 obtain ⟨D, h1, _⟩ := h
 exact h1.lt
theorem SetIs.block {w w' : World} {b n : Nat} {L : List Int} (h : SetIs w b n L) (hk : w'.heap[b]? = w.heap[b]?) : SetIs w' b n L := by
 obtain ⟨D, ⟨es, clock, hb, r⟩, h2⟩ := h
 exact ⟨D, ⟨es, clock, hk.trans hb, r⟩, h2⟩
theorem SetIs.below {w w' : World} {b n : Nat} {L : List Int} (h : SetIs w b n L) (hb : Below w.heap.size w w') : SetIs w' b n L := h.block (hb.block b h.lt)
theorem set_new (w : World) : SetIs (w.alloc (.map #[] 0)) w.heap.size 0 [] := ⟨.map [], World.ownsMap_made w _ _ _, isMap_empty, fun _ _ => rfl⟩
theorem set_put {w' : World} {b n : Nat} {D : DataW Unit} {L : List Int} {d : Int} (hd : digB d = true) (hm : IsMap D) (hh : ∀ x, digB x = true → Maps.has D (.int .i64 x) = decide (x ∈ L))
  (h : w'.ownsMap Tryz.prog 3 unitElem b n (D.put (.int .i64 d) (.agg []))) : SetIs w' b n (L ++ [d]) := by
 refine ⟨_, h, hm.put _ _, fun x hx => ?_⟩
 by_cases hxd : x = d
 ·subst hxd
  rw [has_put_same hm (dig_keyed.key (dig_key hx))]
  simp
 ·rw [has_put_other (fun e => hxd (by injection e))]
  rw [hh x hx]
  simp [hxd]
theorem SetIs.same {w : World} {b n : Nat} {L M : List Int} (h : SetIs w b n L) (e : ∀ x, digB x = true → (x ∈ L ↔ x ∈ M)) : SetIs w b n M := by
 obtain ⟨D, h1, h2, h3⟩ := h
 exact ⟨D, h1, h2, fun x hx => by rw [h3 x hx]; simp [e x hx]⟩

set_option maxHeartbeats 1000000 in
theorem has_any (b n : Nat) (L : List Int) (d : Int) (w : World) (h : SetIs w b n L) (hd : digB d = true) :
  Calls Tryz.prog 78 #[.map (some b), .int .i64 d] w fun e w' => e = .returned (.bool (decide (d ∈ L))) ∧ Below w.heap.size w w' := by
 obtain ⟨D, hm, hI, hh⟩ := h
 have HK := Lib.hid (dig_key hd)
 have HH := Lib.hid (hh d hd)
 have HM := Lib.hid hm
 clear hd hm hI hh
 go_enter Tryz.func78, Tryz.ntmps78
 go_wp2_with (at_lookup; refine wpList_lookup_own_unit _ rfl _ _ 112 rfl 3 113 dig_keyed Tryz.underlying112 (unit_zero _) b n D rfl HM.out _ _ rfl HK.out ?_)
 go_ret
 exact ⟨ret_bool HH.out, (Below.refl _ _).alloc (Nat.le_refl _) _⟩

def digsOf (l : List Int) : List Int := l.filter digB
theorem digsOf_take {l : List Int} {k : Nat} {d : Int} (h : l[k]? = some d) : digsOf (l.take (k + 1)) = digsOf (l.take k) ++ (if digB d = true then [d] else []) := by
 unfold digsOf
 rw [take_nxt h, List.filter_append]
 congr 1
 by_cases hd : digB d = true
 ·simp [hd]
 ·simp [hd]
def SetTo (L : List Int) (w : World) (e : Ending) (w' : World) : Prop := ∃ b n, e = .returned (.map (some b)) ∧ SetIs w' b n L ∧ n ≤ 1000000 ∧ w.heap.size ≤ b ∧ Below w.heap.size w w'

set_option maxHeartbeats 2000000 in
theorem setOf_any (A : Option Addr) (c n : Nat) (l : List Int) (w : World) (hz : l.length = n) (hr : Rd w A (i64s l)) (hn : n ≤ 1000000) :
  Calls Tryz.prog 109 #[.slice A n c] w (SetTo (digsOf l) w) := by
 have HZ := Lib.hid hz
 have HS := Lib.hid (set_new w)
 clear hz
 have hmm := @run_makeMap Tryz.prog
 go_enter Tryz.func109, Tryz.ntmps109
 go_wp2_with fail
 clear hmm
 go_loopw [9] (fun i wr => ∃ k m : Nat, i = .int .i64 k ∧ k ≤ n ∧ m ≤ k ∧ Hid (SetIs wr w.heap.size m (digsOf (l.take k))) ∧ Below w.heap.size w wr) (fun i _ => n - (intOf i).toNat)
 case atStart => exact ⟨0, 0, rfl, by omega, Nat.le_refl _, by rw [List.take_zero]; exact HS.out, (Below.refl _ _).alloc (Nat.le_refl _) _⟩
 case round =>
  obtain ⟨k, m, rfl, hk, hmk, HI, hb⟩ := hrel
  by_cases hlt : k < n
  ·obtain ⟨bl, off, rfl, hbl, hcell⟩ := hr.open_ (by rw [i64s_length, HZ.out]; omega)
   have hk1 := hcell k _ (i64s_at (by rw [HZ.out]; exact hlt))
   have hc1 := (hb.cell (p := ⟨bl, off + k, none⟩) hbl).trans hk1
   have hy : l[k]? = some (l[k]?.getD 0) := at_some (by rw [HZ.out]; exact hlt)
   obtain ⟨y, hye⟩ : ∃ y, y = l[k]?.getD 0 := ⟨_, rfl⟩
   rw [← hye] at hc1 hy
   clear hcell hk1 hye
   have hT := digsOf_take hy
   clear hy
   have i0 : (0 : Int) ≤ (k : Int) := by omega
   have i1 : (k : Int) < (n : Int) := by omega
   cases hdy : digB y with
   | true =>
    rw [hdy, if_pos rfl] at hT
    have HT := Lib.hid hT
    have HD := Lib.hid hdy
    obtain ⟨D, hown, hI, hh⟩ := HI.out
    have HO := Lib.hid hown
    have HM := Lib.hid hI
    have HH := Lib.hid hh
    clear hT hdy hown hI hh
    go_wp2_with (first | (go_at_call 41; refine (zdig_is true y HD.out _).mono ?_; rintro e w' ⟨rfl, rfl⟩) | (at_mapUpdate; refine wpList_mapUpdate_own _ rfl _ _ _ 112 rfl 3 113 dig_keyed Tryz.underlying112 unitElem w.heap.size m D rfl HO.out (by unfold maxLen; omega) (.int .i64 y) (.agg #[]) _ rfl rfl (dig_key HD.out) (.agg []) [] unitElem_mk ?_))
    intro w1 hown1 hg1
    have hs1 := set_put HD.out HM.out HH.out hown1
    rw [← HT.out] at hs1
    have hb1 := hb.grown hg1 hb.size (fun k hk => by cases hk; exact Nat.le_refl _)
    go_wp2_with fail
    go_roundw
    case rel => exact ⟨k + 1, m + 1, by go_num, by omega, by omega, hs1, hb1⟩
    case measure => simp [intOf]; omega
   | false =>
    rw [hdy, if_neg (by decide), List.append_nil] at hT
    have HT := Lib.hid hT
    have HD := Lib.hid hdy
    clear hT hdy
    go_wp2_with (go_at_call 41; refine (zdig_is false y HD.out _).mono ?_; rintro e w' ⟨rfl, rfl⟩)
    go_roundw
    case rel => exact ⟨k + 1, m, by go_num, by omega, by omega, by show SetIs _ _ _ _; rw [HT.out]; exact HI.out, hb⟩
    case measure => simp [intOf]; omega
  ·have i1 : ¬ ((k : Int) < (n : Int)) := by omega
   have HN : Hid (SetIs wr w.heap.size m (digsOf l)) := by
    show SetIs wr w.heap.size m (digsOf l)
    have := HI.out
    rwa [List.take_of_length_le (by rw [HZ.out]; omega)] at this
   go_wp2_with fail
   go_ret
   exact ⟨_, m, rfl, HN.out, by omega, Nat.le_refl _, hb⟩

inductive OnceJ (p : Prop) (B : Nat) (w : World) : Act → World → Prop
 | mk (u0 u1 u2 u3 u4 u5 u6 u7 u8 u9 u10 u11 u12 u13 u14 u15 u16 u17 u18 u19 u20 u21 u22 u23 u24 : Value) (w' : World) (hp : p) (hb : Below B w w') : OnceJ p B w { tmps := #[u0, u1, u2, u3, u4, u5, u6, u7, u8, u9, u10, u11, u12, u13, u14, u15, u16, u17, u18, u19, u20, u21, u22, u23, u24], defers := [] } w'
theorem OnceJ.elim {p : Prop} {B : Nat} {w : World} {G : Act → World → Prop} (h : ∀ (u0 u1 u2 u3 u4 u5 u6 u7 u8 u9 u10 u11 u12 u13 u14 u15 u16 u17 u18 u19 u20 u21 u22 u23 u24 : Value) (w' : World), p → Below B w w' → G { tmps := #[u0, u1, u2, u3, u4, u5, u6, u7, u8, u9, u10, u11, u12, u13, u14, u15, u16, u17, u18, u19, u20, u21, u22, u23, u24], defers := [] } w') : ∀ a' w', OnceJ p B w a' w' → G a' w' := by
 intro a' w' k
 cases k with
 | mk u0 u1 u2 u3 u4 u5 u6 u7 u8 u9 u10 u11 u12 u13 u14 u15 u16 u17 u18 u19 u20 u21 u22 u23 u24 _ hp hb => exact h u0 u1 u2 u3 u4 u5 u6 u7 u8 u9 u10 u11 u12 u13 u14 u15 u16 u17 u18 u19 u20 u21 u22 u23 u24 _ hp hb

def OnceTo (l : List Int) (k : Nat) : Prop := ∀ (i : Nat) (x : Int), i < k → l[i]? = some x → digB x = true ∧ x ∉ l.take i
theorem onceTo_all {l : List Int} {k : Nat} (h : OnceTo l k) (hk : l.length ≤ k) : betB 1 65536 l = true ∧ OnceOk l := by
 refine ⟨betB_iff.2 fun x hx => ?_, fun i x hx => ?_⟩
 ·obtain ⟨i, hi⟩ := List.mem_iff_getElem?.1 hx
  have := (h i x (by have := (List.getElem?_eq_some_iff.1 hi).1; omega) hi).1
  simpa [digB] using this
 ·exact (h i x (by have := (List.getElem?_eq_some_iff.1 hx).1; omega) hx).2
theorem onceTo_next {l : List Int} {k : Nat} {y : Int} (h : OnceTo l k) (hy : l[k]? = some y) (hd : digB y = true) (hn : y ∉ l.take k) : OnceTo l (k + 1) := by
 intro i x hi hx
 rcases Nat.lt_or_ge i k with h1 | h1
 ·exact h i x h1 hx
 ·obtain rfl : i = k := by omega
  rw [hy] at hx
  cases hx
  exact ⟨hd, hn⟩
set_option maxRecDepth 100000 in
set_option maxHeartbeats 4000000 in
theorem areOnce_is (b : Bool) (A : Option Addr) (c n : Nat) (l : List Int) (w : World) (h : b = true ↔ (betB 1 65536 l = true ∧ OnceOk l)) (hz : l.length = n) (hr : Rd w A (i64s l)) (hn : n ≤ 1000000) :
  Calls Tryz.prog 44 #[.slice A n c] w fun e w' => e = .returned (.bool b) ∧ Below w.heap.size w w' := by
 have HZ := Lib.hid hz
 have HB := Lib.hid h
 have HS := Lib.hid (set_new w)
 clear hz h
 have hmm := @run_makeMap Tryz.prog
 go_enter Tryz.func44, Tryz.ntmps44
 go_wp2_with fail
 refine wp_scope_jumps 0 (OnceJ (b = false) w.heap.size w) (fun _ _ => 0) rfl ?_ ?_
 ·go_wp2_with fail
  clear hmm
  go_loopw [9] (fun i wr => ∃ k m : Nat, i = .int .i64 k ∧ k ≤ n ∧ m ≤ k ∧ Hid (SetIs wr w.heap.size m (l.take k)) ∧ Hid (OnceTo l k) ∧ Below w.heap.size w wr) (fun i _ => n - (intOf i).toNat)
  case atStart => exact ⟨0, 0, rfl, by omega, Nat.le_refl _, by rw [List.take_zero]; exact HS.out, fun i x hi => by omega, (Below.refl _ _).alloc (Nat.le_refl _) _⟩
  case round =>
   obtain ⟨k, m, rfl, hk, hmk, HI, HT, hb⟩ := hrel
   by_cases hlt : k < n
   ·obtain ⟨bl, off, rfl, hbl, hcell⟩ := hr.open_ (by rw [i64s_length, HZ.out]; omega)
    have hk1 := hcell k _ (i64s_at (by rw [HZ.out]; exact hlt))
    have hc1 := (hb.cell (p := ⟨bl, off + k, none⟩) hbl).trans hk1
    have hy : l[k]? = some (l[k]?.getD 0) := at_some (by rw [HZ.out]; exact hlt)
    obtain ⟨y, hye⟩ : ∃ y, y = l[k]?.getD 0 := ⟨_, rfl⟩
    rw [← hye] at hc1 hy
    clear hcell hk1 hye
    have HY := Lib.hid hy
    clear hy
    have i0 : (0 : Int) ≤ (k : Int) := by omega
    have i1 : (k : Int) < (n : Int) := by omega
    cases hdy : digB y with
    | false =>
     have HF : Hid (b = false) := by
      show b = false
      cases hbb : b with
      | false => rfl
      | true =>
       have h1 := (HB.out.1 hbb).1
       have h2 := betB_iff.1 h1 y (List.mem_of_getElem? HY.out)
       simp only [digB, decide_eq_false_iff_not] at hdy
       exact absurd h2 hdy
     have HD := Lib.hid hdy
     clear hdy
     go_wp2_with (go_at_call 41; refine (zdig_is false y HD.out _).mono ?_; rintro e w' ⟨rfl, rfl⟩)
     go_step3
     show 0 = 0 ∧ OnceJ (b = false) w.heap.size w _ _
     exact ⟨rfl, .mk _ _ _ _ _ _ _ _ _ _ _ _ _ _ _ _ _ _ _ _ _ _ _ _ _ _ HF.out hb⟩
    | true =>
     have HD := Lib.hid hdy
     clear hdy
     by_cases hin : y ∈ l.take k
     ·have HF : Hid (b = false) := by
       show b = false
       cases hbb : b with
       | false => rfl
       | true => exact absurd hin ((HB.out.1 hbb).2 k y HY.out)
      have HIN := Lib.hid (decide_eq_true hin)
      clear hin
      go_wp2_with (first | (go_at_call 41; refine (zdig_is true y HD.out _).mono ?_; rintro e w' ⟨rfl, rfl⟩) | (go_at_call 78; refine (has_any _ m _ y _ HI.out HD.out).mono ?_; rw [HIN.out]; rintro e w2 ⟨rfl, hb2⟩))
      go_step3
      show 0 = 0 ∧ OnceJ (b = false) w.heap.size w _ _
      exact ⟨rfl, .mk _ _ _ _ _ _ _ _ _ _ _ _ _ _ _ _ _ _ _ _ _ _ _ _ _ _ HF.out (hb.trans (hb2.mono hb.size))⟩
     ·have HIN := Lib.hid (decide_eq_false hin)
      have HNI := Lib.hid hin
      clear hin
      go_wp2_with (first | (go_at_call 41; refine (zdig_is true y HD.out _).mono ?_; rintro e w' ⟨rfl, rfl⟩) | (go_at_call 78; refine (has_any _ m _ y _ HI.out HD.out).mono ?_; rw [HIN.out]; rintro e w2 ⟨rfl, hb2⟩) | (at_mapUpdate; obtain ⟨D, hown, hI, hh⟩ := HI.out.below hb2; refine wpList_mapUpdate_own _ rfl _ _ _ 112 rfl 3 113 dig_keyed Tryz.underlying112 unitElem w.heap.size m D rfl hown (by unfold maxLen; omega) (.int .i64 y) (.agg #[]) _ rfl rfl (dig_key HD.out) (.agg []) [] unitElem_mk ?_))
      intro w1 hown1 hg1
      have hs1 := set_put HD.out hI hh hown1
      rw [← take_nxt HY.out] at hs1
      have hb1 := (hb.trans (hb2.mono hb.size)).grown hg1 (hb.trans (hb2.mono hb.size)).size (fun k hk => by cases hk; exact Nat.le_refl _)
      have HT1 := Lib.hid (onceTo_next HT.out HY.out HD.out HNI.out)
      go_wp2_with fail
      go_roundw
      case rel => exact ⟨k + 1, m + 1, by go_num, by omega, by omega, hs1, HT1, hb1⟩
      case measure => simp [intOf]; omega
   ·have i1 : ¬ ((k : Int) < (n : Int)) := by omega
    have HF : Hid (b = true) := by
     show b = true
     exact HB.out.2 (onceTo_all HT.out (by rw [HZ.out]; omega))
    go_wp2_with fail
    simp only [Exit.jump]
    go_ret
    exact ⟨ret_bool HF.out.symm, hb⟩
 ·refine OnceJ.elim ?_
  intro u0 u1 u2 u3 u4 u5 u6 u7 u8 u9 u10 u11 u12 u13 u14 u15 u16 u17 u18 u19 u20 u21 u22 u23 u24 w' hp hb
  have HN := Lib.hid hp
  clear hp
  go_wp2_with fail
  simp only [Exit.jump]
  go_ret
  exact ⟨ret_bool HN.out.symm, hb⟩

end Go.Proofs.YteepobghdpnabaaGreat
