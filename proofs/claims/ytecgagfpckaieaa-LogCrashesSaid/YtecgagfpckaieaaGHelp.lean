/-
  What the statements on logs ask besides: what texts weigh, which scripts are let go, new disks.
-/
import Derived.Test.YtecgagfpckaieaaGScr
import Derived.Test.YtecgagfpckaieaaHelp
import Derived.Test.YtecgagfpckaieaaDSafeP
import Derived.BigQuiet
namespace Go.Proofs.Ytecgagfpckaieaa
open Go.RowKit

theorem quietG_same {P : Program} {f : FuncId} {args : Array Value} {w : World} {n : Nat} {v : Value} (h : Calls P f args (w.drewN n) fun e w' => e = .returned v ∧ w.drewN n = w') :
    Calls P f args (w.drewN n) fun e w'' => e = .returned v ∧ ∃ n', w'' = w.drewN n' :=
  h.mono fun _ _ ⟨he, hw⟩ => ⟨he, n, hw.symm⟩
theorem num10_any (n : Int) (w : World) : Calls Try.prog 9 #[.int .i64 n] w fun e w' => e = .returned (.int .i64 n) ∧ w = w' := by
  go_enter Try.func9, Try.ntmps9
  go_wp2
  go_ret
  exact ⟨rfl, rfl⟩

/-! ### what texts weigh -/
def twGo : List ByteArray → Nat → Nat
  | [], n => n
  | s :: l, n => if n < 1048576 then twGo l (n + s.size) else n
theorem twGo_le : ∀ {l : List ByteArray} {n m : Nat}, twGo l n ≤ m → m < 1048576 → n ≤ m ∧ ∀ s ∈ l, s.size ≤ m
  | [], n, m, h, _ => ⟨h, fun s hs => by simp at hs⟩
  | s :: l, n, m, h, hm => by
    unfold twGo at h
    split at h
    · obtain ⟨h1, h2⟩ := twGo_le h hm
      refine ⟨by omega, fun x hx => ?_⟩
      rcases List.mem_cons.1 hx with rfl | hx
      · omega
      · exact h2 x hx
    · exact ⟨h, fun x hx => by omega⟩
theorem twGo_max {M : Nat} : ∀ {l : List ByteArray} {n : Nat}, (∀ s ∈ l, s.size ≤ M) → n ≤ 1048576 + M → twGo l n ≤ 1048576 + M
  | [], n, _, h => h
  | s :: l, n, hs, h => by
    unfold twGo
    split
    · exact twGo_max (fun x hx => hs x (List.mem_cons_of_mem _ hx)) (by have := hs s (List.mem_cons_self ..); omega)
    · exact h

set_option maxHeartbeats 1000000 in
theorem textWeight_any (A : Option Addr) (c n : Nat) (l : List ByteArray) (w : World) (hz : l.length = n) (hr : Rd w A (strs l)) (hs : ∀ s ∈ l, s.size ≤ 140737488351232) (hn : n ≤ 140737488351232) :
    Calls Try.prog 22 #[.slice A n c] w fun e w' => e = .returned (.int .i64 (twGo l n : Nat)) ∧ w = w' := by
  have HZ := Lib.hid hz
  have HR := Lib.hid hr
  have HS := Lib.hid hs
  obtain ⟨T, hT⟩ : ∃ T, twGo l n = T := ⟨_, rfl⟩
  rw [hT]
  have HT := Lib.hid hT
  clear hz hr hs hT
  go_enter Try.func22, Try.ntmps22
  go_wp2_with fail
  go_loop [3, 4] (fun t i => ∃ k tt : Nat, i = .int .i64 k ∧ t = .int .i64 tt ∧ k ≤ n ∧ tt ≤ 140737489399808 ∧ Hid (twGo (l.drop k) tt = T)) (fun _ i => n - (intOf i).toNat)
  case atStart => exact ⟨0, n, rfl, rfl, by omega, by omega, by rw [List.drop_zero]; exact HT.out⟩
  case round =>
    obtain ⟨k, tt, rfl, rfl, hk, htt, HG⟩ := hrel
    have i0 : (0 : Int) ≤ (k : Int) := by omega
    by_cases hlt : k < n
    · have i1 : (k : Int) < (n : Int) := by omega
      obtain ⟨b, off, rfl, _, hcl⟩ := HR.out.open_ (by rw [strs_length, HZ.out]; omega)
      have hkl : k < l.length := by rw [HZ.out]; exact hlt
      obtain ⟨x, hx⟩ : ∃ x, x = l[k] := ⟨_, rfl⟩
      have e0 : w.cell? ⟨b, off + k, none⟩ = some (.string x) := by rw [hx, hcl k _ (strs_at hkl)]; simp [hkl]
      have hsx : x.size ≤ 140737488351232 := by rw [hx]; exact HS.out _ (List.getElem_mem hkl)
      have hg := HG.out
      rw [List.drop_eq_getElem_cons hkl, ← hx, twGo] at hg
      by_cases hbig : tt < 1048576
      · rw [if_pos hbig] at hg
        have HG2 := Lib.hid hg
        have i2 : (tt : Int) < 1048576 := by omega
        have e1 : IntKind.i64.wrap ((tt : Int) + (x.size : Int)) = ((tt + x.size : Nat) : Int) := by rw [IntKind.wrap_i64]; omega
        clear hg hcl hx
        go_wp2_with fail
        go_round
        case rel => exact ⟨k + 1, tt + x.size, by go_num, by first | rfl | go_num, by omega, by omega, HG2.out⟩
        case measure => simp [intOf]; omega
      · rw [if_neg hbig] at hg
        have HG2 := Lib.hid hg
        have i2 : ¬ ((tt : Int) < 1048576) := by omega
        clear hg hcl hx
        go_wp2_with fail
        go_ret
        exact ⟨by rw [← HG2.out]; rfl, rfl⟩
    · have i1 : ¬ ((k : Int) < (n : Int)) := by omega
      have hg := HG.out
      rw [List.drop_of_length_le (by rw [HZ.out]; omega), twGo] at hg
      have HG2 := Lib.hid hg
      clear hg
      go_wp2_with fail
      go_ret
      exact ⟨by rw [← HG2.out]; rfl, rfl⟩

def sizeL : List ByteArray → Nat
  | [] => 0
  | s :: l => s.size + 16 + sizeL l
theorem sizeL_append (a b : List ByteArray) : sizeL (a ++ b) = sizeL a + sizeL b := by
  induction a with
  | nil => simp [sizeL]
  | cons s l ih => simp only [List.cons_append, sizeL, ih]; omega
theorem sizeL_max : ∀ {l : List ByteArray}, (∀ s ∈ l, s.size ≤ 4096) → sizeL l ≤ l.length * 4112
  | [], _ => by simp [sizeL]
  | s :: l, h => by
    have h1 := sizeL_max fun x hx => h x (List.mem_cons_of_mem _ hx)
    have h2 := h s (List.mem_cons_self ..)
    simp only [sizeL, List.length_cons]
    omega
theorem sizeL_len : ∀ (l : List ByteArray), l.length * 16 ≤ sizeL l
  | [] => by simp [sizeL]
  | s :: l => by
    have := sizeL_len l
    simp only [sizeL, List.length_cons]
    omega

set_option maxHeartbeats 1000000 in
theorem size_any (A : Option Addr) (c n : Nat) (l : List ByteArray) (w : World) (hz : l.length = n) (hr : Rd w A (strs l)) (hs : ∀ s ∈ l, s.size ≤ 4096) (hn : n ≤ 1000000) :
    Calls Try.prog 28 #[.slice A n c] w fun e w' => e = .returned (.int .i64 (sizeL l : Nat)) ∧ w = w' := by
  have HZ := Lib.hid hz
  have HR := Lib.hid hr
  have HS := Lib.hid hs
  have hmx := sizeL_max hs
  rw [hz] at hmx
  obtain ⟨T, hT⟩ : ∃ T, sizeL l = T := ⟨_, rfl⟩
  rw [hT] at hmx ⊢
  have HT := Lib.hid hT
  clear hz hr hs hT
  go_enter Try.func28, Try.ntmps28
  go_wp2_with fail
  go_loop [3, 4] (fun t i => ∃ k tt : Nat, i = .int .i64 k ∧ t = .int .i64 tt ∧ k ≤ n ∧ tt ≤ k * 4112 ∧ Hid (tt + sizeL (l.drop k) = T)) (fun _ i => n - (intOf i).toNat)
  case atStart => exact ⟨0, 0, rfl, rfl, by omega, by omega, by rw [List.drop_zero]; show 0 + sizeL l = T; rw [HT.out]; omega⟩
  case round =>
    obtain ⟨k, tt, rfl, rfl, hk, htt, HG⟩ := hrel
    have i0 : (0 : Int) ≤ (k : Int) := by omega
    by_cases hlt : k < n
    · have i1 : (k : Int) < (n : Int) := by omega
      obtain ⟨b, off, rfl, _, hcl⟩ := HR.out.open_ (by rw [strs_length, HZ.out]; omega)
      have hkl : k < l.length := by rw [HZ.out]; exact hlt
      obtain ⟨x, hx⟩ : ∃ x, x = l[k] := ⟨_, rfl⟩
      have e0 : w.cell? ⟨b, off + k, none⟩ = some (.string x) := by rw [hx, hcl k _ (strs_at hkl)]; simp [hkl]
      have hsx : x.size ≤ 4096 := by rw [hx]; exact HS.out _ (List.getElem_mem hkl)
      have hg := HG.out
      rw [List.drop_eq_getElem_cons hkl, ← hx, sizeL] at hg
      have HG2 : Hid (tt + x.size + 16 + sizeL (l.drop (k + 1)) = T) := by show _ = _; omega
      have e1 : IntKind.i64.wrap ((tt : Int) + (x.size : Int)) = ((tt + x.size : Nat) : Int) := by rw [IntKind.wrap_i64]; omega
      have e2 : IntKind.i64.wrap (((tt + x.size : Nat) : Int) + 16) = ((tt + x.size + 16 : Nat) : Int) := by rw [IntKind.wrap_i64]; omega
      clear hg hcl hx
      go_wp2_with fail
      go_round
      case rel => exact ⟨k + 1, tt + x.size + 16, by go_num, by first | rfl | go_num, by omega, by omega, HG2.out⟩
      case measure => simp [intOf]; omega
    · have i1 : ¬ ((k : Int) < (n : Int)) := by omega
      have hg := HG.out
      rw [List.drop_of_length_le (by rw [HZ.out]; omega), sizeL, Nat.add_zero] at hg
      have HG2 := Lib.hid hg
      clear hg
      go_wp2_with fail
      go_ret
      exact ⟨by rw [← HG2.out]; rfl, rfl⟩

/-! ### which scripts are let go -/
def hvGo : List ActG → Nat → Nat
  | [], n => n
  | a :: l, n => if n < 1048576 then hvGo l (n + a.S.size + twGo a.ls a.nL + a.nK) else n
def LightG (s : ScrG) : Prop := s.nL ≤ 200 ∧ s.nO ≤ 20 ∧ ∀ a ∈ s.L, a.S.size ≤ 40000 ∧ a.nL ≤ 40000 ∧ (∀ x ∈ a.ls, x.size ≤ 40000) ∧ a.nK ≤ 40000
theorem hvGo_le : ∀ {l : List ActG} {n : Nat}, hvGo l n ≤ 40000 → n ≤ 40000 ∧ ∀ a ∈ l, a.S.size ≤ 40000 ∧ a.nL ≤ 40000 ∧ (∀ x ∈ a.ls, x.size ≤ 40000) ∧ a.nK ≤ 40000
  | [], n, h => ⟨h, fun s hs => by simp at hs⟩
  | a :: l, n, h => by
    unfold hvGo at h
    split at h
    · obtain ⟨h1, h2⟩ := hvGo_le h
      obtain ⟨h3, h4⟩ := twGo_le (l := a.ls) (n := a.nL) (m := 40000) (by omega) (by omega)
      refine ⟨by omega, fun x hx => ?_⟩
      rcases List.mem_cons.1 hx with rfl | hx
      · exact ⟨by omega, h3, h4, by omega⟩
      · exact h2 x hx
    · omega
def HeavyG (s : ScrG) (w : World) (e : Ending) (w' : World) : Prop := ∃ b : Bool, e = .returned (.bool b) ∧ Below w.heap.size w w' ∧ (b = false → LightG s)

set_option maxRecDepth 100000 in
set_option maxHeartbeats 4000000 in
theorem heavyG_any (s : ScrG) (w : World) (h : ScrGIn w s) : Calls Try.prog 6 #[scrVG s] w (HeavyG s w) := by
  obtain ⟨w1, hw1⟩ : ∃ w1, w1 = w.alloc (.cells #[.slice s.AL s.nL s.cL, .slice s.AO s.nO s.cO] 25) := ⟨_, rfl⟩
  have hb1 : Below w.heap.size w w1 := by rw [hw1]; exact (Below.refl _ _).alloc (Nat.le_refl _) _
  have bx1 : Box w1 w.heap.size (scrCG s) := by rw [hw1]; exact box_new w (scrCG s) 25
  have HW := Lib.hid hw1
  have HI : Hid (∀ wX, Below w1.heap.size w1 wX → ScrGIn wX s) := fun wX hX => h.below (hb1.trans (hX.mono hb1.size))
  obtain ⟨nL, hnL⟩ : ∃ nL, s.nL = nL := ⟨_, rfl⟩
  obtain ⟨nO, hnO⟩ : ∃ nO, s.nO = nO := ⟨_, rfl⟩
  have HNL := Lib.hid hnL
  have HNO := Lib.hid hnO
  have HZL : Hid (s.L.length = nL) := h.zL.trans hnL
  have hnmx : nL ≤ 9223372036854775807 := by have h1 := h.kL; have h2 := h.xL; unfold maxLen at h2; omega
  have HC0 : Hid (∀ wX, Below w1.heap.size w1 wX → wX.cell? ⟨w.heap.size, 0, none⟩ = some (.slice s.AL nL s.cL)) := fun wX h => by rw [← hnL]; exact (bx1.below h bx1.1).2 0 _ rfl
  have HC1 : Hid (∀ wX, Below w1.heap.size w1 wX → wX.cell? ⟨w.heap.size, 1, none⟩ = some (.slice s.AO nO s.cO)) := fun wX h => by rw [← hnO]; exact (bx1.below h bx1.1).2 1 _ rfl
  clear hw1 bx1 h hnL hnO
  unfold scrVG
  have fin : ∀ (tt : Nat) (wX : World), Below w1.heap.size w1 wX → hvGo s.L 0 = tt → ∀ b : Bool, (b = false → tt ≤ 40000 ∧ nO ≤ 20 ∧ nL ≤ 200) → HeavyG s w (.returned (.bool b)) wX := by
    intro tt wX hX hT b hb
    refine ⟨b, rfl, hb1.trans (hX.mono hb1.size), fun h0 => ?_⟩
    obtain ⟨q1, q2, q3⟩ := hb h0
    have h1 := HNL.out
    have h2 := HNO.out
    exact ⟨by omega, by omega, (hvGo_le (by rw [hT]; exact q1)).2⟩
  have HFIN := Lib.hid fin
  clear fin
  go_enter Try.func6, Try.ntmps6
  go_upto_region 1 with fail
  rw [← HW.out]
  go_wp2_with fail
  go_loopw [3, 4] (fun t i wr => ∃ k tt : Nat, i = .int .i64 k ∧ t = .int .i64 tt ∧ k ≤ nL ∧ tt ≤ 1000000000000000 ∧ Hid (hvGo (s.L.drop k) tt = hvGo s.L 0) ∧ Below w1.heap.size w1 wr) (fun _ i _ => nL - (intOf i).toNat)
  case atStart => exact ⟨0, 0, rfl, rfl, by omega, by omega, by rw [List.drop_zero]; rfl, Below.refl _ _⟩
  case round =>
    obtain ⟨k, tt, rfl, rfl, hk, htt, HG, hb⟩ := hrel
    have c0 := HC0.out _ hb
    have c1 := HC1.out _ hb
    have i0 : (0 : Int) ≤ (k : Int) := by omega
    by_cases hgo : k < nL ∧ tt < 1048576
    · obtain ⟨hlt, hbig⟩ := hgo
      have i1 : (k : Int) < (nL : Int) := by omega
      have i2 : (tt : Int) < 1048576 := by omega
      obtain ⟨bl, off, a, hAL, hbl, hx, hmem, hrg⟩ := (HI.out _ hb).at_ (k := k) (by rw [HNL.out]; exact hlt)
      rw [hAL] at c0
      have hin := (HI.out _ hb).act a hmem
      have d1 : wr.cell? ⟨bl, off + k * 4 + 1, none⟩ = some (.string a.S) := hrg 1 _ rfl
      have d2 : wr.cell? ⟨bl, off + k * 4 + 2, none⟩ = some (.slice a.AL a.nL a.cL) := hrg 2 _ rfl
      have d3 : wr.cell? ⟨bl, off + k * 4 + 3, none⟩ = some (.slice a.AK a.nK a.cK) := hrg 3 _ rfl
      obtain ⟨nA, hnA⟩ : ∃ nA, a.nL = nA := ⟨_, rfl⟩
      obtain ⟨nK, hnK⟩ : ∃ nK, a.nK = nK := ⟨_, rfl⟩
      obtain ⟨nS, hnS⟩ : ∃ nS, a.S.size = nS := ⟨_, rfl⟩
      obtain ⟨tw, htw⟩ : ∃ tw, twGo a.ls nA = tw := ⟨_, rfl⟩
      have hmx : tw ≤ 140737489399808 := by rw [← htw]; exact twGo_max hin.sL (by have := hin.fL; omega)
      have hsS := hin.sS
      have hfK := hin.fK
      have hg := HG.out
      have hkl : k < s.L.length := by rw [HZL.out]; exact hlt
      have hxa : s.L[k] = a := (List.getElem?_eq_some_iff.1 hx).2
      rw [List.drop_eq_getElem_cons hkl, hxa, hvGo, if_pos hbig, hnA, hnK, hnS, htw] at hg
      have HG2 := Lib.hid hg
      have hcall : ∀ N, Calls Try.prog 22 #[.slice a.AL nA a.cL] (wr.drewN N) fun e w' => e = .returned (.int .i64 (tw : Nat)) ∧ wr.drewN N = w' := fun N => by
        rw [← htw]
        exact textWeight_any a.AL a.cL nA a.ls (wr.drewN N) (hin.zL.trans hnA) hin.rL hin.sL (by have := hin.fL; omega)
      have HCALL := Lib.hid hcall
      rw [hnA] at d2
      rw [hnK] at d3 hfK
      rw [hnS] at hsS
      have HNS := Lib.hid hnS
      have e1 : IntKind.i64.wrap ((tt : Int) + (nS : Int)) = ((tt + nS : Nat) : Int) := by rw [IntKind.wrap_i64]; omega
      have e2 : IntKind.i64.wrap (((tt + nS : Nat) : Int) + (tw : Int)) = ((tt + nS + tw : Nat) : Int) := by rw [IntKind.wrap_i64]; omega
      have e3 : IntKind.i64.wrap (((tt + nS + tw : Nat) : Int) + (nK : Int)) = ((tt + nS + tw + nK : Nat) : Int) := by rw [IntKind.wrap_i64]; omega
      have e4 : (a.S.size : Int) = (nS : Int) := by rw [HNS.out]
      clear hAL hmem hrg hx hin hg hxa hcall hnA hnK htw hnS
      go_wp2_with fail
      go_quiet ((go_at_call 22; exact quietG_same (HCALL.out _)))
      go_wp2_with fail
      go_roundw
      case rel => exact ⟨k + 1, tt + nS + tw + nK, by go_num, by first | rfl | go_num, by omega, by omega, HG2, below_n hb _⟩
      case measure => simp [intOf]; omega
    · have HT : Hid (hvGo s.L 0 = tt) := by
        show _ = _
        rw [← HG.out]
        by_cases hlt : k < nL
        · have hkl : k < s.L.length := by rw [HZL.out]; exact hlt
          rw [List.drop_eq_getElem_cons hkl, hvGo, if_neg (fun h => hgo ⟨hlt, h⟩)]
        · rw [List.drop_of_length_le (by rw [HZL.out]; omega), hvGo]
      have hcase : (¬ ((k : Int) < (nL : Int))) ∨ ((k : Int) < (nL : Int) ∧ ¬ ((tt : Int) < 1048576)) := by
        by_cases hlt : k < nL
        · exact .inr ⟨by omega, fun h => hgo ⟨hlt, by omega⟩⟩
        · exact .inl (by omega)
      clear hgo
      by_cases g1 : 40000 < tt
      · have j1 : (40000 : Int) < (tt : Int) := by omega
        rcases hcase with i1 | ⟨i1, i2⟩
        all_goals
          go_wp2_with fail
          go_ret
          exact HFIN.out tt _ hb HT.out true (fun h => by cases h)
      · have j1 : ¬ ((40000 : Int) < (tt : Int)) := by omega
        rcases hcase with i1 | ⟨i1, i2⟩
        · by_cases g2 : 20 < nO
          · have j2 : (20 : Int) < (nO : Int) := by omega
            go_wp2_with fail
            go_ret
            exact HFIN.out tt _ hb HT.out true (fun h => by cases h)
          · have j2 : ¬ ((20 : Int) < (nO : Int)) := by omega
            by_cases g3 : 200 < nL
            · have j3 : (200 : Int) < (nL : Int) := by omega
              go_wp2_with fail
              go_ret
              exact HFIN.out tt _ hb HT.out true (fun h => by cases h)
            · have j3 : ¬ ((200 : Int) < (nL : Int)) := by omega
              go_wp2_with fail
              go_ret
              exact HFIN.out tt _ hb HT.out false (fun _ => ⟨by omega, by omega, by omega⟩)
        · exfalso
          omega

/-! ### new disks -/
theorem diskG_any (w : World) : Calls Try.prog 7 #[] w fun e w' => ∃ g, e = .returned (.pointer (some ⟨g, 0, none⟩)) ∧ HDG (fun k => k < w.heap.size) w' g (dNew []) ∧ Below w.heap.size w w' := by
  go_enter Try.func7, Try.ntmps7
  go_wp2_with fail
  refine (new_nil _).mono ?_
  rintro e w2 ⟨hb2, g, rfl, hd2⟩
  have HD := Lib.hid hd2
  clear hd2
  go_wp2_with fail
  refine (num10_any _ _).mono ?_
  rintro e w' ⟨rfl, rfl⟩
  go_wp2_with fail
  go_ret
  exact ⟨g, rfl, HD.out, hb2⟩

theorem againG_any {G : Nat → Prop} {D : PD} (g : Nat) (AP : Option Addr) (nP cP : Nat) (ps : List Int) (w : World) (h : HDG G w g D) (hP : ps.length = nP) (hr : Rd w AP (i64s ps)) (hc : nP ≤ cP) (hm : cP ≤ maxLen) (hpr : ∀ x ∈ ps, -9223372036854775808 ≤ x ∧ x ≤ 9223372036854775807) :
    Calls Try.prog 16 #[.pointer (some ⟨g, 0, none⟩), .slice AP nP cP] w fun e w' => ∃ g', e = .returned (.pointer (some ⟨g', 0, none⟩)) ∧ HDG (fun k => k < w.heap.size) w' g' (dNew (dCrash D ps)) ∧ Below w.heap.size w w' := by
  have HH := Lib.hid (hd_crash h AP nP cP ps hP hr hc hm hpr)
  have hmb := crash_may h.good ps
  obtain ⟨fs, hfs⟩ : ∃ fs, dCrash D ps = fs := ⟨_, rfl⟩
  rw [hfs] at hmb HH ⊢
  have HMB := Lib.hid hmb
  have hlen : fs.length ≤ 16 ∧ ∀ f ∈ fs, f.1.size ≤ 32 := by
    simp only [mayB, Bool.and_eq_true, decide_eq_true_eq, List.all_eq_true] at hmb
    refine ⟨hmb.1, fun f hf => ?_⟩
    obtain ⟨i, hi⟩ := List.mem_iff_getElem?.1 hf
    have hil := (List.getElem?_eq_some_iff.1 hi).1
    have h1 := hmb.2 i (by simpa using hil)
    rw [okAt, hi] at h1
    simp only [Bool.and_eq_true] at h1
    exact (okName_size h1.1).2
  have HLEN := Lib.hid hlen
  clear h hmb hlen hfs hP hr hpr
  go_enter Try.func16, Try.ntmps16
  go_wp2_with fail
  refine HH.out.mono ?_
  rintro e w2 ⟨v2, l2, rfl, hm2, ho2, hb2⟩
  obtain ⟨n2, hn2⟩ : ∃ n2, l2.length = n2 := ⟨_, rfl⟩
  have hrow2 := ho2.row
  rw [hn2] at hrow2
  obtain ⟨A2, c2, rfl, hnc2, _, hr2, _⟩ := ownS_slice hrow2
  have h16 : n2 ≤ 16 := by have := HLEN.out.1; rw [← hm2, List.length_map, hn2] at this; exact this
  have hnw := new_is A2 n2 c2 l2 fs w2 hn2 hm2 hr2 (fun f hf => ho2.fin hf) (fun f hf => by
    have := HLEN.out.2 f.pl (by rw [← hm2]; exact List.mem_map.2 ⟨f, hf, rfl⟩)
    have h3 : f.nm.size ≤ 32 := this
    unfold maxLen
    omega) hnc2 (by omega)
  have HNW := Lib.hid hnw
  have z2 := hb2.size
  clear hnw ho2 hrow2 hr2 hm2 hn2
  go_wp2_with fail
  refine HNW.out.mono ?_
  rintro e w3 ⟨hb3, hif⟩
  rw [if_pos HMB.out] at hif
  obtain ⟨g', F, rfl, hd3, hF⟩ := hif
  have HG3 := Lib.hid ((newTo_hd hd3 hF hb3).less (G' := fun k => k < w.heap.size) fun k hk => Nat.lt_of_lt_of_le hk z2)
  have hb13 := hb2.trans (hb3.mono z2)
  clear hd3 hF
  go_wp2_with fail
  refine (num10_any _ _).mono ?_
  rintro e w' ⟨rfl, rfl⟩
  go_wp2_with fail
  go_ret
  exact ⟨g', rfl, HG3.out, hb13⟩

end Go.Proofs.Ytecgagfpckaieaa
