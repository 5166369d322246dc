/-
 Package worker's Check: which workers may be.
-/
import Derived.Test.YteepobghdpnabaaGreatKBl
import Derived.Test.YteepobghdpnabaaGreatKBi
import Derived.Test.YteepobghdpnabaaGreatKBk
import Derived.Test.YteepobghdpnabaaGreatKBq
namespace Go.Proofs.YteepobghdpnabaaGreat
open Go.RowKit

def numsW (P : WkD) : Bool := decide (mayB P.N = true ∧ (1 ≤ P.i ∧ P.i ≤ P.N) ∧ (1 ≤ P.x ∧ P.x ≤ 1099511627776) ∧ (0 ≤ P.g ∧ P.g ≤ 1099511627776) ∧ 0 ≤ P.c ∧ P.c ≤ 1099511627776)
set_option maxHeartbeats 4000000 in
theorem hasNums_is (b : Bool) (P : WkD) (a : WkA) (w : World) (h : numsW P = b) : Calls Tryz.prog 39 #[wkV P a] w (Tells w.heap.size w (.bool b)) := by
 have HB := Lib.hid h
 clear h
 unfold wkV Ad.v
 by_cases hm : mayB P.N = true
 ·have HM : Hid (mayB P.N = true) := hm
  clear hm
  by_cases h1 : 1 ≤ P.i
  ·by_cases h2 : P.i ≤ P.N
   ·by_cases h3 : 1 ≤ P.x
    ·by_cases h4 : P.x ≤ 1099511627776
     ·by_cases h5 : 0 ≤ P.g
      ·by_cases h6 : P.g ≤ 1099511627776
       ·by_cases h7 : 0 ≤ P.c
        ·by_cases h8 : P.c ≤ 1099511627776
         ·have HN : Hid (b = true) := HB.out.symm.trans (decide_eq_true ⟨HM.out, ⟨h1, h2⟩, ⟨h3, h4⟩, ⟨h5, h6⟩, h7, h8⟩)
          go_enter Tryz.func39, Tryz.ntmps39
          go_wp2_with (go_at_call 76; refine (check_yes P.N HM.out _).mono ?_; rintro e w' ⟨rfl, rfl⟩)
          go_ret
          exact ⟨ret_bool (by rw [HN.out]; first | done | rfl | (simp; omega)), (Below.refl _ _).alloc (Nat.le_refl _) _⟩
         ·have HN : Hid (b = false) := HB.out.symm.trans (decide_eq_false fun ⟨q1, q2, q3, q4, q5, q6⟩ => h8 q6)
          go_enter Tryz.func39, Tryz.ntmps39
          go_wp2_with (go_at_call 76; refine (check_yes P.N HM.out _).mono ?_; rintro e w' ⟨rfl, rfl⟩)
          go_ret
          exact ⟨ret_bool (by rw [HN.out]; first | done | rfl | (simp; omega)), (Below.refl _ _).alloc (Nat.le_refl _) _⟩
        ·have HN : Hid (b = false) := HB.out.symm.trans (decide_eq_false fun ⟨q1, q2, q3, q4, q5, q6⟩ => h7 q5)
         go_enter Tryz.func39, Tryz.ntmps39
         go_wp2_with (go_at_call 76; refine (check_yes P.N HM.out _).mono ?_; rintro e w' ⟨rfl, rfl⟩)
         go_ret
         exact ⟨ret_bool (by rw [HN.out]; first | done | rfl | (simp; omega)), (Below.refl _ _).alloc (Nat.le_refl _) _⟩
       ·have HN : Hid (b = false) := HB.out.symm.trans (decide_eq_false fun ⟨q1, q2, q3, q4, q5, q6⟩ => h6 q4.2)
        go_enter Tryz.func39, Tryz.ntmps39
        go_wp2_with (go_at_call 76; refine (check_yes P.N HM.out _).mono ?_; rintro e w' ⟨rfl, rfl⟩)
        go_ret
        exact ⟨ret_bool (by rw [HN.out]; first | done | rfl | (simp; omega)), (Below.refl _ _).alloc (Nat.le_refl _) _⟩
      ·have HN : Hid (b = false) := HB.out.symm.trans (decide_eq_false fun ⟨q1, q2, q3, q4, q5, q6⟩ => h5 q4.1)
       go_enter Tryz.func39, Tryz.ntmps39
       go_wp2_with (go_at_call 76; refine (check_yes P.N HM.out _).mono ?_; rintro e w' ⟨rfl, rfl⟩)
       go_ret
       exact ⟨ret_bool (by rw [HN.out]; first | done | rfl | (simp; omega)), (Below.refl _ _).alloc (Nat.le_refl _) _⟩
     ·have HN : Hid (b = false) := HB.out.symm.trans (decide_eq_false fun ⟨q1, q2, q3, q4, q5, q6⟩ => h4 q3.2)
      go_enter Tryz.func39, Tryz.ntmps39
      go_wp2_with (go_at_call 76; refine (check_yes P.N HM.out _).mono ?_; rintro e w' ⟨rfl, rfl⟩)
      go_ret
      exact ⟨ret_bool (by rw [HN.out]; first | done | rfl | (simp; omega)), (Below.refl _ _).alloc (Nat.le_refl _) _⟩
    ·have HN : Hid (b = false) := HB.out.symm.trans (decide_eq_false fun ⟨q1, q2, q3, q4, q5, q6⟩ => h3 q3.1)
     go_enter Tryz.func39, Tryz.ntmps39
     go_wp2_with (go_at_call 76; refine (check_yes P.N HM.out _).mono ?_; rintro e w' ⟨rfl, rfl⟩)
     go_ret
     exact ⟨ret_bool (by rw [HN.out]; first | done | rfl | (simp; omega)), (Below.refl _ _).alloc (Nat.le_refl _) _⟩
   ·have HN : Hid (b = false) := HB.out.symm.trans (decide_eq_false fun ⟨q1, q2, q3, q4, q5, q6⟩ => h2 q2.2)
    go_enter Tryz.func39, Tryz.ntmps39
    go_wp2_with (go_at_call 76; refine (check_yes P.N HM.out _).mono ?_; rintro e w' ⟨rfl, rfl⟩)
    go_ret
    exact ⟨ret_bool (by rw [HN.out]; first | done | rfl | (simp; omega)), (Below.refl _ _).alloc (Nat.le_refl _) _⟩
  ·have HN : Hid (b = false) := HB.out.symm.trans (decide_eq_false fun ⟨q1, q2, q3, q4, q5, q6⟩ => h1 q2.1)
   go_enter Tryz.func39, Tryz.ntmps39
   go_wp2_with (go_at_call 76; refine (check_yes P.N HM.out _).mono ?_; rintro e w' ⟨rfl, rfl⟩)
   go_ret
   exact ⟨ret_bool (by rw [HN.out]; first | done | rfl | (simp; omega)), (Below.refl _ _).alloc (Nat.le_refl _) _⟩
 ·have HN : Hid (b = false) := HB.out.symm.trans (decide_eq_false fun ⟨q1, q2, q3, q4, q5, q6⟩ => hm q1)
  have HM : Hid (mayB P.N = false) := by show mayB P.N = false; simpa using hm
  clear hm
  go_enter Tryz.func39, Tryz.ntmps39
  go_wp2_with (go_at_call 76; refine (check_no P.N HM.out _).mono ?_; rintro e w' ⟨rfl, rfl⟩)
  go_ret
  exact ⟨ret_bool (by rw [HN.out]; first | done | rfl | (simp; omega)), (Below.refl _ _).alloc (Nat.le_refl _) _⟩

theorem gq_facts (q n : Nat) (h : q + 1 < n) (hn : n ≤ 1000000) : decide ((0 : Int) < (q : Int) + 1) = true ∧ (0 : Int) < (q : Int) + 1 ∧ IntKind.i64.wrap (q : Int) = (q : Int) ∧ wrap64 (q : Int) = (q : Int) ∧ (q : Int) < (n : Int) ∧ (0 : Int) ≤ (q : Int) := by
 have e : IntKind.i64.wrap (q : Int) = (q : Int) := IntWalk.i64_in _ (by omega)
 refine ⟨decide_eq_true (by omega), by omega, e, ?_, by omega, by omega⟩
 rw [wrap64]
 omega

inductive CheckJ (p : Prop) (B : Nat) (w : World) : Act → World → Prop
 | mk (u0 u1 u2 u3 u4 u5 u6 u7 u8 u9 u10 u11 u12 u13 u14 u15 u16 u17 u18 u19 u20 u21 u22 u23 u24 u25 u26 u27 u28 u29 u30 u31 u32 u33 u34 u35 u36 u37 u38 u39 u40 u41 u42 u43 u44 u45 u46 u47 u48 u49 u50 u51 u52 u53 u54 u55 u56 u57 u58 u59 u60 u61 u62 u63 u64 u65 u66 u67 u68 u69 u70 u71 u72 u73 u74 u75 u76 u77 u78 u79 u80 u81 u82 u83 u84 u85 u86 u87 u88 u89 u90 u91 u92 u93 u94 u95 u96 u97 u98 u99 u100 u101 u102 u103 u104 u105 : Value) (w' : World) (hp : p) (hb : Below B w w') : CheckJ p B w { tmps := #[u0, u1, u2, u3, u4, u5, u6, u7, u8, u9, u10, u11, u12, u13, u14, u15, u16, u17, u18, u19, u20, u21, u22, u23, u24, u25, u26, u27, u28, u29, u30, u31, u32, u33, u34, u35, u36, u37, u38, u39, u40, u41, u42, u43, u44, u45, u46, u47, u48, u49, u50, u51, u52, u53, u54, u55, u56, u57, u58, u59, u60, u61, u62, u63, u64, u65, u66, u67, u68, u69, u70, u71, u72, u73, u74, u75, u76, u77, u78, u79, u80, u81, u82, u83, u84, u85, u86, u87, u88, u89, u90, u91, u92, u93, u94, u95, u96, u97, u98, u99, u100, u101, u102, u103, u104, u105], defers := [] } w'
theorem CheckJ.elim {p : Prop} {B : Nat} {w : World} {G : Act → World → Prop} (h : ∀ (u0 u1 u2 u3 u4 u5 u6 u7 u8 u9 u10 u11 u12 u13 u14 u15 u16 u17 u18 u19 u20 u21 u22 u23 u24 u25 u26 u27 u28 u29 u30 u31 u32 u33 u34 u35 u36 u37 u38 u39 u40 u41 u42 u43 u44 u45 u46 u47 u48 u49 u50 u51 u52 u53 u54 u55 u56 u57 u58 u59 u60 u61 u62 u63 u64 u65 u66 u67 u68 u69 u70 u71 u72 u73 u74 u75 u76 u77 u78 u79 u80 u81 u82 u83 u84 u85 u86 u87 u88 u89 u90 u91 u92 u93 u94 u95 u96 u97 u98 u99 u100 u101 u102 u103 u104 u105 : Value) (w' : World), p → Below B w w' → G { tmps := #[u0, u1, u2, u3, u4, u5, u6, u7, u8, u9, u10, u11, u12, u13, u14, u15, u16, u17, u18, u19, u20, u21, u22, u23, u24, u25, u26, u27, u28, u29, u30, u31, u32, u33, u34, u35, u36, u37, u38, u39, u40, u41, u42, u43, u44, u45, u46, u47, u48, u49, u50, u51, u52, u53, u54, u55, u56, u57, u58, u59, u60, u61, u62, u63, u64, u65, u66, u67, u68, u69, u70, u71, u72, u73, u74, u75, u76, u77, u78, u79, u80, u81, u82, u83, u84, u85, u86, u87, u88, u89, u90, u91, u92, u93, u94, u95, u96, u97, u98, u99, u100, u101, u102, u103, u104, u105], defers := [] } w') : ∀ a' w', CheckJ p B w a' w' → G a' w' := by
 intro a' w' k
 cases k with
 | mk u0 u1 u2 u3 u4 u5 u6 u7 u8 u9 u10 u11 u12 u13 u14 u15 u16 u17 u18 u19 u20 u21 u22 u23 u24 u25 u26 u27 u28 u29 u30 u31 u32 u33 u34 u35 u36 u37 u38 u39 u40 u41 u42 u43 u44 u45 u46 u47 u48 u49 u50 u51 u52 u53 u54 u55 u56 u57 u58 u59 u60 u61 u62 u63 u64 u65 u66 u67 u68 u69 u70 u71 u72 u73 u74 u75 u76 u77 u78 u79 u80 u81 u82 u83 u84 u85 u86 u87 u88 u89 u90 u91 u92 u93 u94 u95 u96 u97 u98 u99 u100 u101 u102 u103 u104 u105 _ hp hb => exact h u0 u1 u2 u3 u4 u5 u6 u7 u8 u9 u10 u11 u12 u13 u14 u15 u16 u17 u18 u19 u20 u21 u22 u23 u24 u25 u26 u27 u28 u29 u30 u31 u32 u33 u34 u35 u36 u37 u38 u39 u40 u41 u42 u43 u44 u45 u46 u47 u48 u49 u50 u51 u52 u53 u54 u55 u56 u57 u58 u59 u60 u61 u62 u63 u64 u65 u66 u67 u68 u69 u70 u71 u72 u73 u74 u75 u76 u77 u78 u79 u80 u81 u82 u83 u84 u85 u86 u87 u88 u89 u90 u91 u92 u93 u94 u95 u96 u97 u98 u99 u100 u101 u102 u103 u104 u105 _ hp hb

set_option maxRecDepth 100000 in
set_option maxHeartbeats 40000000 in
theorem check_is (b : Bool) (P : WkD) (a : WkA) (w : World) (hb : mayW P = b) (h : WIn w P a) (hf : WFew P 1000000) : Calls Tryz.prog 18 #[wkV P a] w (Tells w.heap.size w (.int .i64 (okV b))) := by
 obtain ⟨w0, hw0⟩ : ∃ w0, w0 = w.alloc (.cells #[.int .i64 P.i, .int .i64 P.N, .int .i64 P.x, .slice a.O.A a.O.n a.O.c, .int .i64 P.g, .int .i64 P.c, .slice a.W.A a.W.n a.W.c, .slice a.H.A a.H.n a.H.c, .slice a.R.A a.R.n a.R.c] 27) := ⟨_, rfl⟩
 have hb0 : Below w.heap.size w w0 := by rw [hw0]; exact (Below.refl _ _).alloc (Nat.le_refl _) _
 have bx0 : Box w0 w.heap.size (wkC P a) := by rw [hw0]; exact box_new w (wkC P a) 27
 obtain ⟨g, hg⟩ : ∃ g, g = w.heap.size := ⟨_, rfl⟩
 rw [← hg] at bx0 hb0 ⊢
 have HB : Hid (b = true ↔ MayW P) := by show _ ↔ _; rw [← hb]; exact mayW_iff
 have HNO : Hid (¬ MayW P → b = false) := by show _ → _; intro hn; rw [← hb]; exact mayW_no hn
 have hIN0 : WIn w0 P a := by rw [hg] at hb0; exact h.below hb0
 have HIN : Hid (∀ wX, Below w0.heap.size w0 wX → WIn wX P a) := by show ∀ wX, _; exact fun wX hX => hIN0.below hX
 have HW0 := Lib.hid hw0
 have HG := Lib.hid hg
 have HBX := Lib.hid bx0
 have HB0 := Lib.hid hb0
 have HF := Lib.hid hf
 have HEW := Lib.hid h.eW
 have HEH := Lib.hid h.eH
 have hgl : g < w0.heap.size := bx0.1
 obtain ⟨AO, nO, cO, hoO⟩ : ∃ A n c, a.O = ⟨A, n, c⟩ := ⟨_, _, _, rfl⟩
 obtain ⟨AW, nW, cW, hoW⟩ : ∃ A n c, a.W = ⟨A, n, c⟩ := ⟨_, _, _, rfl⟩
 obtain ⟨AH, nH, cH, hoH⟩ : ∃ A n c, a.H = ⟨A, n, c⟩ := ⟨_, _, _, rfl⟩
 obtain ⟨AR, nR, cR, hoR⟩ : ∃ A n c, a.R = ⟨A, n, c⟩ := ⟨_, _, _, rfl⟩
 have HOO := Lib.hid hoO
 have HOW := Lib.hid hoW
 have HOH := Lib.hid hoH
 have HOR := Lib.hid hoR
 have hlO : P.O.length = nO := by have := hIN0.open_.len; rw [hoO] at this; exact this
 have hlW : a.ms.length = nW := by have := hIN0.waits.row.len; rw [hoW] at this; exact this
 have hlH : a.hs.length = nH := by have := hIN0.held.row.len; rw [hoH] at this; exact this
 have hlPH : P.H.length = nH := by rw [← h.eH, List.length_map]; exact hlH
 have HLO := Lib.hid hlO
 have HLW := Lib.hid hlW
 have HLH := Lib.hid hlH
 have HLPH := Lib.hid hlPH
 have hC : ∀ wX, Below w0.heap.size w0 wX → wX.cell? ⟨g, 1, none⟩ = some (.int .i64 P.N) ∧ wX.cell? ⟨g, 3, none⟩ = some (.slice AO nO cO) ∧ wX.cell? ⟨g, 6, none⟩ = some (.slice AW nW cW) ∧ wX.cell? ⟨g, 7, none⟩ = some (.slice AH nH cH) ∧ wX.cell? ⟨g, 8, none⟩ = some (.slice AR nR cR) := fun wX hX => by
  have hx := bx0.below hX hgl
  obtain ⟨-, k1, -, k3, -, -, k6, k7, k8⟩ := wk_cells hx
  rw [hoO] at k3
  rw [hoW] at k6
  rw [hoH] at k7
  rw [hoR] at k8
  exact ⟨k1, k3, k6, k7, k8⟩
 have HC := Lib.hid hC
 have hnums := hasNums_is (numsW P) P a w0 rfl
 obtain ⟨bn, hbn⟩ : ∃ bn, bn = numsW P := ⟨_, rfl⟩
 rw [← hbn] at hnums
 have HNM := Lib.hid hnums
 have HBN := Lib.hid hbn
 have hnO : nO ≤ 1000000 := by have := hf.o; omega
 have hnW : nW ≤ 1000000 := by have := len_fst h.eW; have := hf.w; omega
 have hnH : nH ≤ 1000000 := by have := hf.h; omega
 have HJB : Hid (∀ wX, Below w0.heap.size w0 wX → Below g w0 wX) := by show ∀ wX, _; exact fun wX hX => hX.mono (by omega)
 clear h hw0 hg bx0 hb0 hIN0 hf hb hoO hoW hoH hoR hC hnums hbn hlPH hlO hlW hlH
 unfold wkV Ad.v
 go_enter Tryz.func18, Tryz.ntmps18
 go_upto_region 1 with fail
 rw [← HW0.out, ← HG.out]
 refine wp_scope_jumps 0 (CheckJ (b = false) g w0) (fun _ _ => 0) rfl ?_ ?_
 ·cases bn with
  | false =>
   have HF : Hid (b = false) := HNO.out fun mw => by have h1 : numsW P = true := decide_eq_true ⟨mw.nodes, mw.id, mw.next, mw.age, mw.clock⟩; rw [← HBN.out] at h1; cases h1
   go_wp2_with (first
    | (refine wpList_load_box rfl 27 _ rfl g rfl (wkC P a) HBX.out _ Tryz.underlying27 rfl size_wk ?_)
    | (go_at_call 39; refine HNM.out.mono ?_; rintro e w1 ⟨rfl, hb1⟩; obtain ⟨k1, k3, k6, k7, k8⟩ := HC.out _ hb1))
   go_step3
   show 0 = 0 ∧ CheckJ (b = false) g w0 _ _
   exact ⟨rfl, .mk _ _ _ _ _ _ _ _ _ _ _ _ _ _ _ _ _ _ _ _ _ _ _ _ _ _ _ _ _ _ _ _ _ _ _ _ _ _ _ _ _ _ _ _ _ _ _ _ _ _ _ _ _ _ _ _ _ _ _ _ _ _ _ _ _ _ _ _ _ _ _ _ _ _ _ _ _ _ _ _ _ _ _ _ _ _ _ _ _ _ _ _ _ _ _ _ _ _ _ _ _ _ _ _ _ _ _ HF.out (HJB.out _ hb1)⟩
  | true =>
   by_cases hO64 : (64 : Int) < (nO : Int)
   ·have HF : Hid (b = false) := HNO.out fun mw => by have h1 := mw.few; have h2 := HLO.out; omega
    go_wp2_with (first
     | (refine wpList_load_box rfl 27 _ rfl g rfl (wkC P a) HBX.out _ Tryz.underlying27 rfl size_wk ?_)
     | (go_at_call 39; refine HNM.out.mono ?_; rintro e w1 ⟨rfl, hb1⟩; obtain ⟨k1, k3, k6, k7, k8⟩ := HC.out _ hb1))
    go_step3
    show 0 = 0 ∧ CheckJ (b = false) g w0 _ _
    exact ⟨rfl, .mk _ _ _ _ _ _ _ _ _ _ _ _ _ _ _ _ _ _ _ _ _ _ _ _ _ _ _ _ _ _ _ _ _ _ _ _ _ _ _ _ _ _ _ _ _ _ _ _ _ _ _ _ _ _ _ _ _ _ _ _ _ _ _ _ _ _ _ _ _ _ _ _ _ _ _ _ _ _ _ _ _ _ _ _ _ _ _ _ _ _ _ _ _ _ _ _ _ _ _ _ _ _ _ _ _ _ _ HF.out (HJB.out _ hb1)⟩
   ·by_cases hH : (1024 : Int) < (nH : Int)
    ·have HF : Hid (b = false) := HNO.out fun mw => by have h1 := mw.room; have h2 := HLPH.out; omega
     go_wp2_with (first
      | (refine wpList_load_box rfl 27 _ rfl g rfl (wkC P a) HBX.out _ Tryz.underlying27 rfl size_wk ?_)
      | (go_at_call 39; refine HNM.out.mono ?_; rintro e w1 ⟨rfl, hb1⟩; obtain ⟨k1, k3, k6, k7, k8⟩ := HC.out _ hb1))
     go_step3
     show 0 = 0 ∧ CheckJ (b = false) g w0 _ _
     exact ⟨rfl, .mk _ _ _ _ _ _ _ _ _ _ _ _ _ _ _ _ _ _ _ _ _ _ _ _ _ _ _ _ _ _ _ _ _ _ _ _ _ _ _ _ _ _ _ _ _ _ _ _ _ _ _ _ _ _ _ _ _ _ _ _ _ _ _ _ _ _ _ _ _ _ _ _ _ _ _ _ _ _ _ _ _ _ _ _ _ _ _ _ _ _ _ _ _ _ _ _ _ _ _ _ _ _ _ _ _ _ _ HF.out (HJB.out _ hb1)⟩
    ·go_wp2_with (first
      | (refine wpList_load_box rfl 27 _ rfl g rfl (wkC P a) HBX.out _ Tryz.underlying27 rfl size_wk ?_)
      | (go_at_call 39; refine HNM.out.mono ?_; rintro e w1 ⟨rfl, hb1⟩; obtain ⟨k1, k3, k6, k7, k8⟩ := HC.out _ hb1))
     go_loopw [27] (fun i wr => ∃ k : Nat, i = .int .i64 k ∧ k ≤ nO ∧ Hid (∀ j t, j < k → P.O[j]? = some t → txB t = true) ∧ Below w0.heap.size w0 wr) (fun i _ => nO - (intOf i).toNat)
     case atStart => exact ⟨0, rfl, Nat.zero_le _, fun j t hj => by omega, hb1⟩
     case round =>
      clear hb1
      obtain ⟨k, rfl, hk, HT, hb⟩ := hrel
      have HBW := Lib.hid hb
      by_cases hlt : k < nO
      ·have hrd := (HIN.out wr hb).open_.rd
       rw [HOO.out] at hrd
       obtain ⟨bl, off, t, hA, hbl, ht, c0, c1, c2, c3⟩ := hrd.tx (i := k) (by rw [HLO.out]; exact hlt)
       simp only at hA
       subst hA
       have HTX := Lib.hid ht
       have hsz := hb.size
       clear hrd ht hb
       have i0 : (0 : Int) ≤ (k : Int) := by omega
       have i1 : (k : Int) < (nO : Int) := by omega
       cases htx : txB t with
       | true =>
        have HTB := Lib.hid htx
        clear htx
        go_wp2_with (go_at_call 40; refine (btx_yes t _ HTB.out).mono ?_; rintro e w2 ⟨rfl, hb2⟩)
        go_roundw
        case rel => exact ⟨k + 1, by go_num, by omega, fun j u hj hu => (by
         rcases Nat.lt_or_ge j k with h1 | h1
         ·exact HT.out j u h1 hu
         ·obtain rfl : j = k := by omega
          rw [HTX.out] at hu
          cases hu
          exact HTB.out), (HBW.out.alloc hsz _).trans (hb2.mono (by simp; omega))⟩
        case measure => simp [intOf]; omega
       | false =>
        have HTB := Lib.hid htx
        clear htx
        have HF : Hid (b = false) := HNO.out fun mw => by have h1 := List.all_eq_true.1 mw.open_ t (List.mem_of_getElem? HTX.out); rw [HTB.out] at h1; cases h1
        go_wp2_with (go_at_call 40; refine (btx_no t _ HTB.out).mono ?_; rintro e w2 ⟨rfl, hb2⟩)
        go_step3
        show 0 = 0 ∧ CheckJ (b = false) g w0 _ _
        exact ⟨rfl, .mk _ _ _ _ _ _ _ _ _ _ _ _ _ _ _ _ _ _ _ _ _ _ _ _ _ _ _ _ _ _ _ _ _ _ _ _ _ _ _ _ _ _ _ _ _ _ _ _ _ _ _ _ _ _ _ _ _ _ _ _ _ _ _ _ _ _ _ _ _ _ _ _ _ _ _ _ _ _ _ _ _ _ _ _ _ _ _ _ _ _ _ _ _ _ _ _ _ _ _ _ _ _ _ _ _ _ _ HF.out (HJB.out _ ((HBW.out.alloc hsz _).trans (hb2.mono (by simp; omega))))⟩
      ·have i1 : ¬ ((k : Int) < (nO : Int)) := by omega
       have HALLO : Hid (P.O.all txB = true) := List.all_eq_true.2 fun x hx => (by
        obtain ⟨j, hj⟩ := List.mem_iff_getElem?.1 hx
        exact HT.out j x (by have := (List.getElem?_eq_some_iff.1 hj).1; have := HLO.out; omega) hj)
       obtain ⟨w2, rfl⟩ : ∃ w2, w2 = wr := ⟨_, rfl⟩
       obtain ⟨k1, k3, k6, k7, k8⟩ := HC.out _ hb
       clear HT hk hlt
       go_wp2_with fail
       go_loopw [38] (fun i wr => ∃ k : Nat, i = .int .i64 k ∧ k ≤ nW ∧ Hid (∀ j x, j < k → P.W[j]? = some x → digB x.d = true ∧ risB x.S = true ∧ betB 1 P.N x.S = true ∧ ∀ y, 0 < j → P.W[j - 1]? = some y → y.d < x.d) ∧ Below w0.heap.size w0 wr) (fun i _ => nW - (intOf i).toNat)
       case atStart => exact ⟨0, rfl, Nat.zero_le _, fun j t hj => by omega, hb⟩
       case round =>
        clear hb HBW k1 k3 k6 k7 k8
        obtain ⟨k, rfl, hk, HT, hb⟩ := hrel
        by_cases hlt : k < nW
        ·obtain ⟨x, hx⟩ : ∃ x, a.ms[k]? = some x := ⟨_, List.getElem?_eq_getElem (by rw [HLW.out]; exact hlt)⟩
         have hin := HIN.out wr hb
         obtain ⟨bl, off, hA, hbl, -, hcell⟩ := hin.waits.cells hx
         rw [HOW.out] at hA
         simp only at hA
         subst hA
         have c0 : wr.cell? ⟨bl, off + k * 2, none⟩ = some (.int .i64 x.1.d) := hcell 0 _ rfl
         have c1 : wr.cell? ⟨bl, off + k * 2 + 1, none⟩ = some (.slice x.2.A x.2.n x.2.c) := by have := hcell 1 _ rfl; rwa [show off + (k * KW.s + 1) = off + k * 2 + 1 by show off + (k * 2 + 1) = _; omega] at this
         have hPx : P.W[k]? = some x.1 := by rw [← HEW.out, List.getElem?_map, hx]; rfl
         have HPX := Lib.hid hPx
         have hsub := hin.waits.sub x (List.mem_of_getElem? hx)
         have hsz := hb.size
         have HFX : Hid (x.1.S.length ≤ 1000000) := HF.out.s _ (mem_fst HEW.out (List.mem_of_getElem? hx))
         have hMS : ∀ q y, a.ms[q]? = some y → ∀ wX, Below w0.heap.size w0 wX → wX.cell? ⟨bl, off + q * 2, none⟩ = some (.int .i64 y.1.d) := fun q y hy wX hX => by
          obtain ⟨bl', off', hA', _, _, hcell'⟩ := (HIN.out wX hX).waits.cells hy
          rw [HOW.out] at hA'
          simp only [Option.some.injEq, Addr.mk.injEq] at hA'
          obtain ⟨rfl, rfl, _⟩ := hA'
          exact hcell' 0 _ rfl
         have HMS := Lib.hid hMS
         clear hx hin hcell hPx hMS
         have i0 : (0 : Int) ≤ (k : Int) := by omega
         have i1 : (k : Int) < (nW : Int) := by omega
         go_upto_region 10 with fail
         obtain ⟨w3, hw3⟩ : ∃ w3, w3 = wr.alloc (.cells #[.int .i64 x.1.d, .slice x.2.A x.2.n x.2.c] 56) := ⟨_, rfl⟩
         rw [← hw3]
         have hb3 : Below w0.heap.size w0 w3 := by rw [hw3]; exact hb.alloc hsz _
         have bx3 : Box w3 wr.heap.size [.int .i64 x.1.d, .slice x.2.A x.2.n x.2.c] := by rw [hw3]; exact box_new wr _ _
         have hs3 : SlIn w3 x.2 x.1.S.length (i64s x.1.S) := by rw [hw3]; exact hsub.below ((Below.refl _ _).alloc (Nat.le_refl _) _)
         have HB3 := Lib.hid hb3
         have HBX3 := Lib.hid bx3
         have HS3 := Lib.hid hs3
         have hwl := bx3.1
         have hsz3 := hb3.size
         clear hw3 hb3 bx3 hs3 c0 c1 hsub hb
         have y0 : w3.cell? ⟨wr.heap.size, 0, none⟩ = some (.int .i64 x.1.d) := (HBX3.out.2 0 _ rfl).1
         have y6 : w3.cell? ⟨g, 6, none⟩ = some (.slice (some ⟨bl, off, none⟩) nW cW) := (HC.out _ HB3.out).2.2.1
         -- behind the test: the numbers
         have htail : Hid (∀ w4, Below w3.heap.size w3 w4 → w4.cell? ⟨wr.heap.size, 0, none⟩ = some (.int .i64 x.1.d) ∧ w4.cell? ⟨wr.heap.size, 1, none⟩ = some (.slice x.2.A x.2.n x.2.c) ∧ w4.cell? ⟨g, 1, none⟩ = some (.int .i64 P.N)) := by
          show ∀ w4, _
          intro w4 h4
          exact ⟨(h4.cell (p := ⟨wr.heap.size, 0, none⟩) hwl).trans (HBX3.out.2 0 _ rfl).1, (h4.cell (p := ⟨wr.heap.size, 1, none⟩) hwl).trans (HBX3.out.2 1 _ rfl).1, (HC.out _ (HB3.out.trans (h4.mono hsz3))).1⟩
         by_cases hk0 : k = 0
         ·subst hk0
          have hprev : Hid (∀ y, 0 < 0 → P.W[0 - 1]? = some y → y.d < x.1.d) := by show ∀ y, _; intro y h0; omega
          go_quiet (fail)
          have HZ : Hid (Below w3.heap.size w3 (w3.drewN nq)) := below_n (Below.refl _ _) nq
          obtain ⟨w4, hw4⟩ : ∃ w4, w4 = w3.drewN nq := ⟨_, rfl⟩
          rw [← hw4] at HZ ⊢
          clear hw4
          clear y0 y6
          have hsz4 := HZ.out.size
          obtain ⟨e0, e1, eN⟩ := htail.out _ HZ.out
          cases hdg : digB x.1.d with
          | false =>
           have HDG := Lib.hid hdg
           clear hdg
           have HF : Hid (b = false) := HNO.out fun mw => by have := (mw.waits _ x.1 HPX.out).1; rw [HDG.out] at this; cases this
           go_wp2_with (go_at_call 41; refine (zdig_is false x.1.d HDG.out _).mono ?_; rintro e w' ⟨rfl, rfl⟩)
           go_step3
           show 0 = 0 ∧ CheckJ (b = false) g w0 _ _
           exact ⟨rfl, .mk _ _ _ _ _ _ _ _ _ _ _ _ _ _ _ _ _ _ _ _ _ _ _ _ _ _ _ _ _ _ _ _ _ _ _ _ _ _ _ _ _ _ _ _ _ _ _ _ _ _ _ _ _ _ _ _ _ _ _ _ _ _ _ _ _ _ _ _ _ _ _ _ _ _ _ _ _ _ _ _ _ _ _ _ _ _ _ _ _ _ _ _ _ _ _ _ _ _ _ _ _ _ _ _ _ _ _ HF.out (HJB.out _ (HB3.out.trans (HZ.out.mono hsz3)))⟩
          | true =>
           have HDG := Lib.hid hdg
           clear hdg
           have hs4 := HS3.out.below HZ.out
           cases hup : upB 0 P.N x.1.S with
           | false =>
            have hc := zrise_is false x.2.A x.2.c x.2.n x.1.S P.N w4 hup hs4.len hs4.rd (by have := HFX.out; have := hs4.len; omega)
            have HCC := Lib.hid hc
            have HUP := Lib.hid hup
            clear hc hup hs4
            have HF : Hid (b = false) := HNO.out fun mw => by have h1 := (mw.waits _ x.1 HPX.out).2.1; have h2 := (mw.waits _ x.1 HPX.out).2.2.1; have h3 := HUP.out; rw [upB_ris, h1, h2] at h3; cases h3
            go_wp2_with (first
             | (go_at_call 41; refine (zdig_is true x.1.d HDG.out _).mono ?_; rintro e w' ⟨rfl, rfl⟩)
             | (go_at_call 42; refine HCC.out.mono ?_; rintro e w5 ⟨rfl, hb5⟩))
            go_step3
            show 0 = 0 ∧ CheckJ (b = false) g w0 _ _
            exact ⟨rfl, .mk _ _ _ _ _ _ _ _ _ _ _ _ _ _ _ _ _ _ _ _ _ _ _ _ _ _ _ _ _ _ _ _ _ _ _ _ _ _ _ _ _ _ _ _ _ _ _ _ _ _ _ _ _ _ _ _ _ _ _ _ _ _ _ _ _ _ _ _ _ _ _ _ _ _ _ _ _ _ _ _ _ _ _ _ _ _ _ _ _ _ _ _ _ _ _ _ _ _ _ _ _ _ _ _ _ _ _ HF.out (HJB.out _ ((HB3.out.trans (HZ.out.mono hsz3)).trans (hb5.mono (by omega))))⟩
           | true =>
            have hc := zrise_is true x.2.A x.2.c x.2.n x.1.S P.N w4 hup hs4.len hs4.rd (by have := HFX.out; have := hs4.len; omega)
            have HCC := Lib.hid hc
            have hup2 := hup
            rw [upB_ris, Bool.and_eq_true] at hup2
            have HUP := Lib.hid hup2
            clear hc hup hup2 hs4
            go_wp2_with (first
             | (go_at_call 41; refine (zdig_is true x.1.d HDG.out _).mono ?_; rintro e w' ⟨rfl, rfl⟩)
             | (go_at_call 42; refine HCC.out.mono ?_; rintro e w5 ⟨rfl, hb5⟩))
            go_roundw
            case rel => exact ⟨0 + 1, by go_num, by omega, fun j u hj hu => (by
             rcases Nat.lt_or_ge j (0) with h1 | h1
             ·exact HT.out j u h1 hu
             ·obtain rfl : j = 0 := by omega
              rw [HPX.out] at hu
              cases hu
              exact ⟨HDG.out, HUP.out.2, HUP.out.1, hprev.out⟩), (HB3.out.trans (HZ.out.mono hsz3)).trans (hb5.mono (by omega))⟩
            case measure => simp [intOf]; omega
         ·obtain ⟨q, rfl⟩ : ∃ q, k = q + 1 := ⟨k - 1, by omega⟩
          obtain ⟨y, hy⟩ : ∃ y, a.ms[q]? = some y := ⟨_, List.getElem?_eq_getElem (by rw [HLW.out]; omega)⟩
          have hPy : P.W[q]? = some y.1 := by rw [← HEW.out, List.getElem?_map, hy]; rfl
          have HPY := Lib.hid hPy
          have yq : w3.cell? ⟨bl, off + q * 2, none⟩ = some (.int .i64 y.1.d) := HMS.out q y hy _ HB3.out
          clear hy hPy hk0
          by_cases hle : x.1.d ≤ y.1.d
          ·have HF : Hid (b = false) := HNO.out fun mw => absurd hle (Int.not_le.2 ((mw.waits (q + 1) x.1 HPX.out).2.2.2 y.1 (Nat.succ_pos q) HPY.out))
           have hdl : decide (x.1.d ≤ y.1.d) = true := decide_eq_true hle
           obtain ⟨gd1, gd2, gq1, gq2, gq3, gq4⟩ := gq_facts q nW hlt hnW
           go_quiet (fail)
           clear gd1 gd2 gq1 gq2 gq3 gq4
           have HZ : Hid (Below w3.heap.size w3 (w3.drewN nq)) := below_n (Below.refl _ _) nq
           obtain ⟨w4, hw4⟩ : ∃ w4, w4 = w3.drewN nq := ⟨_, rfl⟩
           rw [← hw4] at HZ ⊢
           clear hw4
           go_wp2_with fail
           go_step3
           show 0 = 0 ∧ CheckJ (b = false) g w0 _ _
           exact ⟨rfl, .mk _ _ _ _ _ _ _ _ _ _ _ _ _ _ _ _ _ _ _ _ _ _ _ _ _ _ _ _ _ _ _ _ _ _ _ _ _ _ _ _ _ _ _ _ _ _ _ _ _ _ _ _ _ _ _ _ _ _ _ _ _ _ _ _ _ _ _ _ _ _ _ _ _ _ _ _ _ _ _ _ _ _ _ _ _ _ _ _ _ _ _ _ _ _ _ _ _ _ _ _ _ _ _ _ _ _ _ HF.out (HJB.out _ (HB3.out.trans (HZ.out.mono hsz3)))⟩
          ·have hprev : Hid (∀ u, 0 < q + 1 → P.W[q + 1 - 1]? = some u → u.d < x.1.d) := by
            show ∀ u, _
            intro u _ hu
            have hu' : P.W[q]? = some u := hu
            rw [HPY.out] at hu'
            cases hu'
            exact Int.not_le.1 hle
           have hdl : decide (x.1.d ≤ y.1.d) = false := decide_eq_false hle
           obtain ⟨gd1, gd2, gq1, gq2, gq3, gq4⟩ := gq_facts q nW hlt hnW
           go_quiet (fail)
           clear gd1 gd2 gq1 gq2 gq3 gq4
           have HZ : Hid (Below w3.heap.size w3 (w3.drewN nq)) := below_n (Below.refl _ _) nq
           obtain ⟨w4, hw4⟩ : ∃ w4, w4 = w3.drewN nq := ⟨_, rfl⟩
           rw [← hw4] at HZ ⊢
           clear hw4
           clear y0 y6 yq
           have hsz4 := HZ.out.size
           obtain ⟨e0, e1, eN⟩ := htail.out _ HZ.out
           cases hdg : digB x.1.d with
           | false =>
            have HDG := Lib.hid hdg
            clear hdg
            have HF : Hid (b = false) := HNO.out fun mw => by have := (mw.waits _ x.1 HPX.out).1; rw [HDG.out] at this; cases this
            go_wp2_with (go_at_call 41; refine (zdig_is false x.1.d HDG.out _).mono ?_; rintro e w' ⟨rfl, rfl⟩)
            go_step3
            show 0 = 0 ∧ CheckJ (b = false) g w0 _ _
            exact ⟨rfl, .mk _ _ _ _ _ _ _ _ _ _ _ _ _ _ _ _ _ _ _ _ _ _ _ _ _ _ _ _ _ _ _ _ _ _ _ _ _ _ _ _ _ _ _ _ _ _ _ _ _ _ _ _ _ _ _ _ _ _ _ _ _ _ _ _ _ _ _ _ _ _ _ _ _ _ _ _ _ _ _ _ _ _ _ _ _ _ _ _ _ _ _ _ _ _ _ _ _ _ _ _ _ _ _ _ _ _ _ HF.out (HJB.out _ (HB3.out.trans (HZ.out.mono hsz3)))⟩
           | true =>
            have HDG := Lib.hid hdg
            clear hdg
            have hs4 := HS3.out.below HZ.out
            cases hup : upB 0 P.N x.1.S with
            | false =>
             have hc := zrise_is false x.2.A x.2.c x.2.n x.1.S P.N w4 hup hs4.len hs4.rd (by have := HFX.out; have := hs4.len; omega)
             have HCC := Lib.hid hc
             have HUP := Lib.hid hup
             clear hc hup hs4
             have HF : Hid (b = false) := HNO.out fun mw => by have h1 := (mw.waits _ x.1 HPX.out).2.1; have h2 := (mw.waits _ x.1 HPX.out).2.2.1; have h3 := HUP.out; rw [upB_ris, h1, h2] at h3; cases h3
             go_wp2_with (first
              | (go_at_call 41; refine (zdig_is true x.1.d HDG.out _).mono ?_; rintro e w' ⟨rfl, rfl⟩)
              | (go_at_call 42; refine HCC.out.mono ?_; rintro e w5 ⟨rfl, hb5⟩))
             go_step3
             show 0 = 0 ∧ CheckJ (b = false) g w0 _ _
             exact ⟨rfl, .mk _ _ _ _ _ _ _ _ _ _ _ _ _ _ _ _ _ _ _ _ _ _ _ _ _ _ _ _ _ _ _ _ _ _ _ _ _ _ _ _ _ _ _ _ _ _ _ _ _ _ _ _ _ _ _ _ _ _ _ _ _ _ _ _ _ _ _ _ _ _ _ _ _ _ _ _ _ _ _ _ _ _ _ _ _ _ _ _ _ _ _ _ _ _ _ _ _ _ _ _ _ _ _ _ _ _ _ HF.out (HJB.out _ ((HB3.out.trans (HZ.out.mono hsz3)).trans (hb5.mono (by omega))))⟩
            | true =>
             have hc := zrise_is true x.2.A x.2.c x.2.n x.1.S P.N w4 hup hs4.len hs4.rd (by have := HFX.out; have := hs4.len; omega)
             have HCC := Lib.hid hc
             have hup2 := hup
             rw [upB_ris, Bool.and_eq_true] at hup2
             have HUP := Lib.hid hup2
             clear hc hup hup2 hs4
             go_wp2_with (first
              | (go_at_call 41; refine (zdig_is true x.1.d HDG.out _).mono ?_; rintro e w' ⟨rfl, rfl⟩)
              | (go_at_call 42; refine HCC.out.mono ?_; rintro e w5 ⟨rfl, hb5⟩))
             go_roundw
             case rel => exact ⟨(q + 1) + 1, by go_num, by omega, fun j u hj hu => (by
              rcases Nat.lt_or_ge j ((q + 1)) with h1 | h1
              ·exact HT.out j u h1 hu
              ·obtain rfl : j = (q + 1) := by omega
               rw [HPX.out] at hu
               cases hu
               exact ⟨HDG.out, HUP.out.2, HUP.out.1, hprev.out⟩), (HB3.out.trans (HZ.out.mono hsz3)).trans (hb5.mono (by omega))⟩
             case measure => simp [intOf]; omega
        ·have i1 : ¬ ((k : Int) < (nW : Int)) := by omega
         have HALLW : Hid (WaitOk P.N P.W) := by
          show WaitOk P.N P.W
          exact fun i x hx => HT.out i x (by have := (List.getElem?_eq_some_iff.1 hx).1; have := len_fst HEW.out; have := HLW.out; omega) hx
         have HBW := Lib.hid hb
         obtain ⟨w2, rfl⟩ : ∃ w2, w2 = wr := ⟨_, rfl⟩
         obtain ⟨k1, k3, k6, k7, k8⟩ := HC.out _ hb
         clear HT hk hlt
         go_wp2_with fail
         go_loopw [73] (fun i wr => ∃ k : Nat, i = .int .i64 k ∧ k ≤ nH ∧ Hid (∀ j x, j < k → P.H[j]? = some x → digB x.d = true ∧ batB x.a x.n x.L = true ∧ ∀ y, 0 < j → P.H[j - 1]? = some y → y.d < x.d) ∧ Below w0.heap.size w0 wr) (fun i _ => nH - (intOf i).toNat)
         case atStart => exact ⟨0, rfl, Nat.zero_le _, fun j t hj => by omega, hb⟩
         case round =>
          clear hb HBW k1 k3 k6 k7 k8
          obtain ⟨k, rfl, hk, HT, hb⟩ := hrel
          by_cases hlt : k < nH
          ·obtain ⟨x, hx⟩ : ∃ x, a.hs[k]? = some x := ⟨_, List.getElem?_eq_getElem (by rw [HLH.out]; exact hlt)⟩
           have hin := HIN.out wr hb
           obtain ⟨bl, off, hA, hbl, -, hcell⟩ := hin.held.cells hx
           rw [HOH.out] at hA
           simp only at hA
           subst hA
           have c0 : wr.cell? ⟨bl, off + k * 4, none⟩ = some (.int .i64 x.1.d) := hcell 0 _ rfl
           have c1 : wr.cell? ⟨bl, off + k * 4 + 1, none⟩ = some (.int .i64 x.1.a) := by have := hcell 1 _ rfl; rwa [show off + (k * KH.s + 1) = off + k * 4 + 1 by show off + (k * 4 + 1) = _; omega] at this
           have c2 : wr.cell? ⟨bl, off + k * 4 + 2, none⟩ = some (.int .i64 x.1.n) := by have := hcell 2 _ rfl; rwa [show off + (k * KH.s + 2) = off + k * 4 + 2 by show off + (k * 4 + 2) = _; omega] at this
           have c3 : wr.cell? ⟨bl, off + k * 4 + 3, none⟩ = some (.slice x.2.A x.2.n x.2.c) := by have := hcell 3 _ rfl; rwa [show off + (k * KH.s + 3) = off + k * 4 + 3 by show off + (k * 4 + 3) = _; omega] at this
           have hPx : P.H[k]? = some x.1 := by rw [← HEH.out, List.getElem?_map, hx]; rfl
           have HPX := Lib.hid hPx
           have hsub := hin.held.sub x (List.mem_of_getElem? hx)
           have hsz := hb.size
           have HFX : Hid (x.1.L.length ≤ 1000000) := HF.out.l _ (mem_fst HEH.out (List.mem_of_getElem? hx))
           have hMS : ∀ q y, a.hs[q]? = some y → ∀ wX, Below w0.heap.size w0 wX → wX.cell? ⟨bl, off + q * 4, none⟩ = some (.int .i64 y.1.d) := fun q y hy wX hX => by
            obtain ⟨bl', off', hA', _, _, hcell'⟩ := (HIN.out wX hX).held.cells hy
            rw [HOH.out] at hA'
            simp only [Option.some.injEq, Addr.mk.injEq] at hA'
            obtain ⟨rfl, rfl, _⟩ := hA'
            exact hcell' 0 _ rfl
           have HMS := Lib.hid hMS
           clear hx hin hcell hPx hMS
           have i0 : (0 : Int) ≤ (k : Int) := by omega
           have i1 : (k : Int) < (nH : Int) := by omega
           go_upto_region 16 with fail
           obtain ⟨w3, hw3⟩ : ∃ w3, w3 = wr.alloc (.cells #[.int .i64 x.1.d, .int .i64 x.1.a, .int .i64 x.1.n, .slice x.2.A x.2.n x.2.c] 70) := ⟨_, rfl⟩
           rw [← hw3]
           have hb3 : Below w0.heap.size w0 w3 := by rw [hw3]; exact hb.alloc hsz _
           have bx3 : Box w3 wr.heap.size [.int .i64 x.1.d, .int .i64 x.1.a, .int .i64 x.1.n, .slice x.2.A x.2.n x.2.c] := by rw [hw3]; exact box_new wr _ _
           have hs3 : SlIn w3 x.2 x.1.L.length (txs x.1.L) := by rw [hw3]; exact hsub.below ((Below.refl _ _).alloc (Nat.le_refl _) _)
           have HB3 := Lib.hid hb3
           have HBX3 := Lib.hid bx3
           have HS3 := Lib.hid hs3
           have hwl := bx3.1
           have hsz3 := hb3.size
           clear hw3 hb3 bx3 hs3 c0 c1 c2 c3 hsub hb
           have y0 : w3.cell? ⟨wr.heap.size, 0, none⟩ = some (.int .i64 x.1.d) := (HBX3.out.2 0 _ rfl).1
           have y6 : w3.cell? ⟨g, 7, none⟩ = some (.slice (some ⟨bl, off, none⟩) nH cH) := (HC.out _ HB3.out).2.2.2.1
           -- behind the test: the numbers
           have htail : Hid (∀ w4, Below w3.heap.size w3 w4 → w4.cell? ⟨wr.heap.size, 0, none⟩ = some (.int .i64 x.1.d) ∧ w4.cell? ⟨wr.heap.size, 1, none⟩ = some (.int .i64 x.1.a) ∧ w4.cell? ⟨wr.heap.size, 2, none⟩ = some (.int .i64 x.1.n) ∧ w4.cell? ⟨wr.heap.size, 3, none⟩ = some (.slice x.2.A x.2.n x.2.c)) := by
            show ∀ w4, _
            intro w4 h4
            exact ⟨(h4.cell (p := ⟨wr.heap.size, 0, none⟩) hwl).trans (HBX3.out.2 0 _ rfl).1, (h4.cell (p := ⟨wr.heap.size, 1, none⟩) hwl).trans (HBX3.out.2 1 _ rfl).1, (h4.cell (p := ⟨wr.heap.size, 2, none⟩) hwl).trans (HBX3.out.2 2 _ rfl).1, (h4.cell (p := ⟨wr.heap.size, 3, none⟩) hwl).trans (HBX3.out.2 3 _ rfl).1⟩
           by_cases hk0 : k = 0
           ·subst hk0
            have hprev : Hid (∀ y, 0 < 0 → P.H[0 - 1]? = some y → y.d < x.1.d) := by show ∀ y, _; intro y h0; omega
            go_quiet (fail)
            have HZ : Hid (Below w3.heap.size w3 (w3.drewN nq)) := below_n (Below.refl _ _) nq
            obtain ⟨w4, hw4⟩ : ∃ w4, w4 = w3.drewN nq := ⟨_, rfl⟩
            rw [← hw4] at HZ ⊢
            clear hw4
            clear y0 y6
            have hsz4 := HZ.out.size
            obtain ⟨e0, e1, e2, e3⟩ := htail.out _ HZ.out
            cases hdg : digB x.1.d with
            | false =>
             have HDG := Lib.hid hdg
             clear hdg
             have HF : Hid (b = false) := HNO.out fun mw => by have := (mw.held _ x.1 HPX.out).1; rw [HDG.out] at this; cases this
             go_wp2_with (go_at_call 41; refine (zdig_is false x.1.d HDG.out _).mono ?_; rintro e w' ⟨rfl, rfl⟩)
             go_step3
             show 0 = 0 ∧ CheckJ (b = false) g w0 _ _
             exact ⟨rfl, .mk _ _ _ _ _ _ _ _ _ _ _ _ _ _ _ _ _ _ _ _ _ _ _ _ _ _ _ _ _ _ _ _ _ _ _ _ _ _ _ _ _ _ _ _ _ _ _ _ _ _ _ _ _ _ _ _ _ _ _ _ _ _ _ _ _ _ _ _ _ _ _ _ _ _ _ _ _ _ _ _ _ _ _ _ _ _ _ _ _ _ _ _ _ _ _ _ _ _ _ _ _ _ _ _ _ _ _ HF.out (HJB.out _ (HB3.out.trans (HZ.out.mono hsz3)))⟩
            | true =>
             have HDG := Lib.hid hdg
             clear hdg
             have hs4 := HS3.out.below HZ.out
             cases hup : batB x.1.a x.1.n x.1.L with
             | false =>
              have hc := bcheck_no x.1.a x.1.n x.2.A x.2.c x.2.n x.1.L w4 hup hs4.len hs4.rd
              have HCC := Lib.hid hc
              have HUP := Lib.hid hup
              clear hc hup hs4
              have HF : Hid (b = false) := HNO.out fun mw => by have h1 := (mw.held _ x.1 HPX.out).2.1; rw [HUP.out] at h1; cases h1
              go_wp2_with (first
               | (go_at_call 41; refine (zdig_is true x.1.d HDG.out _).mono ?_; rintro e w' ⟨rfl, rfl⟩)
               | (go_at_call 43; refine HCC.out.mono ?_; rintro e w5 ⟨rfl, hb5⟩))
              go_step3
              show 0 = 0 ∧ CheckJ (b = false) g w0 _ _
              exact ⟨rfl, .mk _ _ _ _ _ _ _ _ _ _ _ _ _ _ _ _ _ _ _ _ _ _ _ _ _ _ _ _ _ _ _ _ _ _ _ _ _ _ _ _ _ _ _ _ _ _ _ _ _ _ _ _ _ _ _ _ _ _ _ _ _ _ _ _ _ _ _ _ _ _ _ _ _ _ _ _ _ _ _ _ _ _ _ _ _ _ _ _ _ _ _ _ _ _ _ _ _ _ _ _ _ _ _ _ _ _ _ HF.out (HJB.out _ ((HB3.out.trans (HZ.out.mono hsz3)).trans (hb5.mono (by omega))))⟩
             | true =>
              have hc := bcheck_yes x.1.a x.1.n x.2.A x.2.c x.2.n x.1.L w4 hup hs4.len hs4.rd
              have HCC := Lib.hid hc
              have HUP := Lib.hid hup
              clear hc hup hs4
              go_wp2_with (first
               | (go_at_call 41; refine (zdig_is true x.1.d HDG.out _).mono ?_; rintro e w' ⟨rfl, rfl⟩)
               | (go_at_call 43; refine HCC.out.mono ?_; rintro e w5 ⟨rfl, hb5⟩))
              go_roundw
              case rel => exact ⟨0 + 1, by go_num, by omega, fun j u hj hu => (by
               rcases Nat.lt_or_ge j (0) with h1 | h1
               ·exact HT.out j u h1 hu
               ·obtain rfl : j = 0 := by omega
                rw [HPX.out] at hu
                cases hu
                exact ⟨HDG.out, HUP.out, hprev.out⟩), (HB3.out.trans (HZ.out.mono hsz3)).trans (hb5.mono (by omega))⟩
              case measure => simp [intOf]; omega
           ·obtain ⟨q, rfl⟩ : ∃ q, k = q + 1 := ⟨k - 1, by omega⟩
            obtain ⟨y, hy⟩ : ∃ y, a.hs[q]? = some y := ⟨_, List.getElem?_eq_getElem (by rw [HLH.out]; omega)⟩
            have hPy : P.H[q]? = some y.1 := by rw [← HEH.out, List.getElem?_map, hy]; rfl
            have HPY := Lib.hid hPy
            have yq : w3.cell? ⟨bl, off + q * 4, none⟩ = some (.int .i64 y.1.d) := HMS.out q y hy _ HB3.out
            clear hy hPy hk0
            by_cases hle : x.1.d ≤ y.1.d
            ·have HF : Hid (b = false) := HNO.out fun mw => absurd hle (Int.not_le.2 ((mw.held (q + 1) x.1 HPX.out).2.2 y.1 (Nat.succ_pos q) HPY.out))
             have hdl : decide (x.1.d ≤ y.1.d) = true := decide_eq_true hle
             obtain ⟨gd1, gd2, gq1, gq2, gq3, gq4⟩ := gq_facts q nH hlt hnH
             go_quiet (fail)
             clear gd1 gd2 gq1 gq2 gq3 gq4
             have HZ : Hid (Below w3.heap.size w3 (w3.drewN nq)) := below_n (Below.refl _ _) nq
             obtain ⟨w4, hw4⟩ : ∃ w4, w4 = w3.drewN nq := ⟨_, rfl⟩
             rw [← hw4] at HZ ⊢
             clear hw4
             go_wp2_with fail
             go_step3
             show 0 = 0 ∧ CheckJ (b = false) g w0 _ _
             exact ⟨rfl, .mk _ _ _ _ _ _ _ _ _ _ _ _ _ _ _ _ _ _ _ _ _ _ _ _ _ _ _ _ _ _ _ _ _ _ _ _ _ _ _ _ _ _ _ _ _ _ _ _ _ _ _ _ _ _ _ _ _ _ _ _ _ _ _ _ _ _ _ _ _ _ _ _ _ _ _ _ _ _ _ _ _ _ _ _ _ _ _ _ _ _ _ _ _ _ _ _ _ _ _ _ _ _ _ _ _ _ _ HF.out (HJB.out _ (HB3.out.trans (HZ.out.mono hsz3)))⟩
            ·have hprev : Hid (∀ u, 0 < q + 1 → P.H[q + 1 - 1]? = some u → u.d < x.1.d) := by
              show ∀ u, _
              intro u _ hu
              have hu' : P.H[q]? = some u := hu
              rw [HPY.out] at hu'
              cases hu'
              exact Int.not_le.1 hle
             have hdl : decide (x.1.d ≤ y.1.d) = false := decide_eq_false hle
             obtain ⟨gd1, gd2, gq1, gq2, gq3, gq4⟩ := gq_facts q nH hlt hnH
             go_quiet (fail)
             clear gd1 gd2 gq1 gq2 gq3 gq4
             have HZ : Hid (Below w3.heap.size w3 (w3.drewN nq)) := below_n (Below.refl _ _) nq
             obtain ⟨w4, hw4⟩ : ∃ w4, w4 = w3.drewN nq := ⟨_, rfl⟩
             rw [← hw4] at HZ ⊢
             clear hw4
             clear y0 y6 yq
             have hsz4 := HZ.out.size
             obtain ⟨e0, e1, e2, e3⟩ := htail.out _ HZ.out
             cases hdg : digB x.1.d with
             | false =>
              have HDG := Lib.hid hdg
              clear hdg
              have HF : Hid (b = false) := HNO.out fun mw => by have := (mw.held _ x.1 HPX.out).1; rw [HDG.out] at this; cases this
              go_wp2_with (go_at_call 41; refine (zdig_is false x.1.d HDG.out _).mono ?_; rintro e w' ⟨rfl, rfl⟩)
              go_step3
              show 0 = 0 ∧ CheckJ (b = false) g w0 _ _
              exact ⟨rfl, .mk _ _ _ _ _ _ _ _ _ _ _ _ _ _ _ _ _ _ _ _ _ _ _ _ _ _ _ _ _ _ _ _ _ _ _ _ _ _ _ _ _ _ _ _ _ _ _ _ _ _ _ _ _ _ _ _ _ _ _ _ _ _ _ _ _ _ _ _ _ _ _ _ _ _ _ _ _ _ _ _ _ _ _ _ _ _ _ _ _ _ _ _ _ _ _ _ _ _ _ _ _ _ _ _ _ _ _ HF.out (HJB.out _ (HB3.out.trans (HZ.out.mono hsz3)))⟩
             | true =>
              have HDG := Lib.hid hdg
              clear hdg
              have hs4 := HS3.out.below HZ.out
              cases hup : batB x.1.a x.1.n x.1.L with
              | false =>
               have hc := bcheck_no x.1.a x.1.n x.2.A x.2.c x.2.n x.1.L w4 hup hs4.len hs4.rd
               have HCC := Lib.hid hc
               have HUP := Lib.hid hup
               clear hc hup hs4
               have HF : Hid (b = false) := HNO.out fun mw => by have h1 := (mw.held _ x.1 HPX.out).2.1; rw [HUP.out] at h1; cases h1
               go_wp2_with (first
                | (go_at_call 41; refine (zdig_is true x.1.d HDG.out _).mono ?_; rintro e w' ⟨rfl, rfl⟩)
                | (go_at_call 43; refine HCC.out.mono ?_; rintro e w5 ⟨rfl, hb5⟩))
               go_step3
               show 0 = 0 ∧ CheckJ (b = false) g w0 _ _
               exact ⟨rfl, .mk _ _ _ _ _ _ _ _ _ _ _ _ _ _ _ _ _ _ _ _ _ _ _ _ _ _ _ _ _ _ _ _ _ _ _ _ _ _ _ _ _ _ _ _ _ _ _ _ _ _ _ _ _ _ _ _ _ _ _ _ _ _ _ _ _ _ _ _ _ _ _ _ _ _ _ _ _ _ _ _ _ _ _ _ _ _ _ _ _ _ _ _ _ _ _ _ _ _ _ _ _ _ _ _ _ _ _ HF.out (HJB.out _ ((HB3.out.trans (HZ.out.mono hsz3)).trans (hb5.mono (by omega))))⟩
              | true =>
               have hc := bcheck_yes x.1.a x.1.n x.2.A x.2.c x.2.n x.1.L w4 hup hs4.len hs4.rd
               have HCC := Lib.hid hc
               have HUP := Lib.hid hup
               clear hc hup hs4
               go_wp2_with (first
                | (go_at_call 41; refine (zdig_is true x.1.d HDG.out _).mono ?_; rintro e w' ⟨rfl, rfl⟩)
                | (go_at_call 43; refine HCC.out.mono ?_; rintro e w5 ⟨rfl, hb5⟩))
               go_roundw
               case rel => exact ⟨(q + 1) + 1, by go_num, by omega, fun j u hj hu => (by
                rcases Nat.lt_or_ge j ((q + 1)) with h1 | h1
                ·exact HT.out j u h1 hu
                ·obtain rfl : j = (q + 1) := by omega
                 rw [HPX.out] at hu
                 cases hu
                 exact ⟨HDG.out, HUP.out, hprev.out⟩), (HB3.out.trans (HZ.out.mono hsz3)).trans (hb5.mono (by omega))⟩
               case measure => simp [intOf]; omega
          ·have i1 : ¬ ((k : Int) < (nH : Int)) := by omega
           have HALLH : Hid (HeldOk P.H) := by
            show HeldOk P.H
            exact fun i x hx => HT.out i x (by have := (List.getElem?_eq_some_iff.1 hx).1; have := HLPH.out; omega) hx
           have HBW := Lib.hid hb
           obtain ⟨w2, rfl⟩ : ∃ w2, w2 = wr := ⟨_, rfl⟩
           obtain ⟨k1, k3, k6, k7, k8⟩ := HC.out _ hb
           have hrd := (HIN.out _ hb).ready
           rw [HOR.out] at hrd
           have hiff : b = true ↔ (betB 1 65536 P.R = true ∧ OnceOk P.R) := HB.out.trans ⟨fun mw => ⟨mw.digs, mw.once⟩, fun ⟨q1, q2⟩ => by
            have hq : numsW P = true := HBN.out.symm
            simp only [numsW, decide_eq_true_eq] at hq
            obtain ⟨n1, n2, n3, n4, n5⟩ := hq
            exact ⟨n1, n2, n3, by have := HLO.out; omega, HALLO.out, n4, n5, by have := HLPH.out; omega, HALLH.out, q1, q2, HALLW.out⟩⟩
           have hcall := areOnce_is b AR cR nR P.R w2 hiff hrd.len hrd.rd (by have h1 := HF.out.r; have h2 := hrd.len; simp only at h2; omega)
           have HCALL := Lib.hid hcall
           have hsz := hb.size
           clear HT hk hlt hrd hiff hcall hb
           cases b with
           | true =>
            go_wp2_with (go_at_call 44; refine HCALL.out.mono ?_; rintro e w3 ⟨rfl, hb3⟩)
            simp only [Exit.jump]
            go_ret
            exact ⟨rfl, HB0.out.trans (HJB.out _ (HBW.out.trans (hb3.mono hsz)))⟩
           | false =>
            go_wp2_with (go_at_call 44; refine HCALL.out.mono ?_; rintro e w3 ⟨rfl, hb3⟩)
            refine wp_label ?_
            go_wp2_with fail
            simp only [Exit.jump]
            go_ret
            exact ⟨rfl, HB0.out.trans (HJB.out _ (HBW.out.trans (hb3.mono hsz)))⟩
 ·refine CheckJ.elim ?_
  intro u0 u1 u2 u3 u4 u5 u6 u7 u8 u9 u10 u11 u12 u13 u14 u15 u16 u17 u18 u19 u20 u21 u22 u23 u24 u25 u26 u27 u28 u29 u30 u31 u32 u33 u34 u35 u36 u37 u38 u39 u40 u41 u42 u43 u44 u45 u46 u47 u48 u49 u50 u51 u52 u53 u54 u55 u56 u57 u58 u59 u60 u61 u62 u63 u64 u65 u66 u67 u68 u69 u70 u71 u72 u73 u74 u75 u76 u77 u78 u79 u80 u81 u82 u83 u84 u85 u86 u87 u88 u89 u90 u91 u92 u93 u94 u95 u96 u97 u98 u99 u100 u101 u102 u103 u104 u105 w' hp hb
  have HN := Lib.hid hp
  clear hp
  go_wp2_with fail
  simp only [Exit.jump]
  go_ret
  exact ⟨by rw [HN.out]; rfl, HB0.out.trans hb⟩


end Go.Proofs.YteepobghdpnabaaGreat
