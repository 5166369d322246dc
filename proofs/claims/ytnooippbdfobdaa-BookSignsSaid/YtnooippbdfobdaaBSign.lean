/-
  Package book as landed: the calls that write.
-/
import Derived.Test.YtnooippbdfobdaaBAsk
import Derived.ScopeJumps
import Derived.WalkMore
namespace Go.Proofs.Ytnooippbdfobdaa
open Go.RowKit Go.Maps Go.WideMaps

/-- what holds at the label: the world as it was -/
inductive SignedJ (p : Prop) (w : World) : Act → World → Prop
  | mk (u0 u1 u2 u3 u4 u5 u6 u7 u8 u9 u10 u11 u12 u13 u14 u15 u16 u17 u18 u19 u20 u21 u22 u23 u24 u25 u26 u27 u28 u29 u30 u31 u32 u33 u34 u35 u36 u37 u38 u39 u40 u41 u42 u43 u44 u45 u46 u47 u48 u49 u50 u51 u52 u53 u54 u55 u56 : Value) (hp : p) : SignedJ p w { tmps := #[u0, u1, u2, u3, u4, u5, u6, u7, u8, u9, u10, u11, u12, u13, u14, u15, u16, u17, u18, u19, u20, u21, u22, u23, u24, u25, u26, u27, u28, u29, u30, u31, u32, u33, u34, u35, u36, u37, u38, u39, u40, u41, u42, u43, u44, u45, u46, u47, u48, u49, u50, u51, u52, u53, u54, u55, u56], defers := [] } w
theorem signedJ_elim {p : Prop} {w : World} {G : Act → World → Prop} (h : ∀ (u0 u1 u2 u3 u4 u5 u6 u7 u8 u9 u10 u11 u12 u13 u14 u15 u16 u17 u18 u19 u20 u21 u22 u23 u24 u25 u26 u27 u28 u29 u30 u31 u32 u33 u34 u35 u36 u37 u38 u39 u40 u41 u42 u43 u44 u45 u46 u47 u48 u49 u50 u51 u52 u53 u54 u55 u56 : Value), p → G { tmps := #[u0, u1, u2, u3, u4, u5, u6, u7, u8, u9, u10, u11, u12, u13, u14, u15, u16, u17, u18, u19, u20, u21, u22, u23, u24, u25, u26, u27, u28, u29, u30, u31, u32, u33, u34, u35, u36, u37, u38, u39, u40, u41, u42, u43, u44, u45, u46, u47, u48, u49, u50, u51, u52, u53, u54, u55, u56], defers := [] } w) : ∀ a' w', SignedJ p w a' w' → G a' w' := by
  intro a' w' k
  cases k with
  | mk u0 u1 u2 u3 u4 u5 u6 u7 u8 u9 u10 u11 u12 u13 u14 u15 u16 u17 u18 u19 u20 u21 u22 u23 u24 u25 u26 u27 u28 u29 u30 u31 u32 u33 u34 u35 u36 u37 u38 u39 u40 u41 u42 u43 u44 u45 u46 u47 u48 u49 u50 u51 u52 u53 u54 u55 u56 hp => exact h u0 u1 u2 u3 u4 u5 u6 u7 u8 u9 u10 u11 u12 u13 u14 u15 u16 u17 u18 u19 u20 u21 u22 u23 u24 u25 u26 u27 u28 u29 u30 u31 u32 u33 u34 u35 u36 u37 u38 u39 u40 u41 u42 u43 u44 u45 u46 u47 u48 u49 u50 u51 u52 u53 u54 u55 u56 hp

theorem psign_form {F : Nat → Prop} (g : Nat) (L : List (List Int)) (S : List (Int × Int)) (who d : Int) (w : World) (_h : IsBook w g F L S) (hw : ¬ (1 ≤ who ∧ who ≤ 16)) :
    Calls Try.prog 16 #[.pointer (some ⟨g, 0, none⟩), .int .i64 who, .int .i64 d] w fun e w' => e = .returned (.int .i64 1) ∧ w = w' := by
  by_cases h1 : who < 1
  · clear hw
    go_enter Try.func16, Try.ntmps16
    go_wp2
    refine wp_scope_jumps 0 (fun _ _ => False) (fun _ _ => 0) rfl ?_ (fun _ _ h => h.elim)
    go_wp2
    simp only [Exit.jump]
    go_ret
    exact ⟨rfl, rfl⟩
  · have h2 : 16 < who := by omega
    clear hw
    go_enter Try.func16, Try.ntmps16
    go_wp2
    refine wp_scope_jumps 0 (fun _ _ => False) (fun _ _ => 0) rfl ?_ (fun _ _ h => h.elim)
    go_wp2
    simp only [Exit.jump]
    go_ret
    exact ⟨rfl, rfl⟩

theorem psign_none {F : Nat → Prop} (g : Nat) (L : List (List Int)) (S : List (Int × Int)) (who d : Int) (w : World) (h : IsBook w g F L S) (hw : 1 ≤ who ∧ who ≤ 16) (hd : ¬ (1 ≤ d ∧ d ≤ (L.length : Int))) :
    Calls Try.prog 16 #[.pointer (some ⟨g, 0, none⟩), .int .i64 who, .int .i64 d] w fun e w' => e = .returned (.int .i64 3) ∧ w = w' := by
  obtain ⟨m, vE, vs, h⟩ := h
  obtain ⟨nL, hnL⟩ : ∃ nL, L.length = nL := ⟨_, rfl⟩
  have c1 := h.c1
  have rE := h.rE
  rw [hnL] at rE hd
  have h1 : ¬ who < 1 := by omega
  have h2 : ¬ 16 < who := by omega
  obtain ⟨AE, cE, rfl, _, _, _, _, _⟩ := ownS_slice rE
  have HB := Lib.hid (decide_eq_false hd)
  clear h hd rE hnL hw
  go_enter Try.func16, Try.ntmps16
  go_wp2
  refine wp_scope_jumps 0 (fun _ _ => False) (fun _ _ => 0) rfl ?_ (fun _ _ h => h.elim)
  go_wp2_with fail
  refine (phas_cell false g nL cE _ _ _ c1 HB.out).mono ?_
  rintro e w' ⟨rfl, rfl⟩
  go_wp2_with fail
  simp only [Exit.jump]
  go_ret
  exact ⟨rfl, rfl⟩

/-- behind an append -/
theorem grown_far {w wX w2 : World} {row : Option Nat} (hX : Below w.heap.size w wX) (hg : wX.grownBy w2 row) :
    w.heap.size ≤ w2.heap.size ∧ (∀ k, k < w.heap.size → row ≠ some k → w2.heap[k]? = w.heap[k]?) ∧ Touch (fun k => row = some k) w w2 :=
  ⟨Nat.le_trans hX.size hg.size, fun k hk hn => (hg.block k (Nat.lt_of_lt_of_le hk hX.size) (fun e => hn e.symm)).trans (hX.block k hk), (Touch.of hX).trans (Touch.grown (F := fun k => row = some k) hg (fun _ e => e)) (fun _ hf => .inl hf)⟩

theorem contains_next {xs : List Int} {k : Nat} {z who : Int} (h1 : (xs.take k).contains who = false) (hz : xs[k]? = some z) (h2 : ¬ z = who) : (xs.take (k + 1)).contains who = false := by
  rw [take_next hz]
  have h3 : ¬ who = z := fun e => h2 e.symm
  simp only [List.contains_eq_any_beq, List.any_append, List.any_cons, List.any_nil, Bool.or_false] at h1 ⊢
  rw [h1]
  simp [h3]

set_option maxRecDepth 10000 in
set_option maxHeartbeats 4000000 in
theorem psign_ok {F : Nat → Prop} (g : Nat) (L : List (List Int)) (S : List (Int × Int)) (who d : Int) (w : World) (h : IsBook w g F L S) (hL : L.length ≤ 1000) (hS : S.length ≤ 1000) (hw : 1 ≤ who ∧ who ≤ 16) (hd : 1 ≤ d ∧ d ≤ (L.length : Int)) :
    Calls Try.prog 16 #[.pointer (some ⟨g, 0, none⟩), .int .i64 who, .int .i64 d] w fun e w' => e = .returned (.int .i64 0) ∧ BookTo IsBook g F L (S ++ [(who, d)]) w w' := by
  obtain ⟨m, vE, vs, h⟩ := h
  obtain ⟨nL, hnL⟩ : ∃ nL, L.length = nL := ⟨_, rfl⟩
  obtain ⟨k, hk⟩ : ∃ k : Nat, d = (k : Int) + 1 := ⟨(d - 1).toNat, by omega⟩
  subst hk
  have hkl : k < L.length := by omega
  have s1 : wrap64 (k : Int) = (k : Int) := IntWalk.wrap64_in _ (by omega)
  have s2 : IntKind.i64.wrap (k : Int) = (k : Int) := IntWalk.i64_in _ (by omega)
  have i0 : (0 : Int) ≤ (k : Int) := by omega
  have i1 : (k : Int) < (nL : Int) := by omega
  have g1 : ¬ who < 1 := by omega
  have g2 : ¬ 16 < who := by omega
  obtain ⟨gE, cE, x, v, rfl, hx, hv, _, e1, ef, hgEl, hgEg⟩ := h.entry hkl
  obtain ⟨xs, ho, hl, hc, hf⟩ := h.sg k v hv
  obtain ⟨nS, hnS⟩ : ∃ nS, xs.length = nS := ⟨_, rfl⟩
  rw [hnS] at ho
  have hlS : nS ≤ 1000 := by omega
  have hn1 : nS + 1 ≤ 68719476736 := by omega
  obtain ⟨AS, cS, rfl, _, _, hrS, _, _⟩ := own_val ho
  have c1 := h.c1
  rw [hnL] at c1 hd
  have HB : Hid (decide (1 ≤ (k : Int) + 1 ∧ (k : Int) + 1 ≤ (nL : Int)) = true) := decide_eq_true hd
  have HH := Lib.hid h
  have HKL := Lib.hid hkl
  have HV := Lib.hid hv
  have HL : Hid (nS ≤ S.length) := by rw [← hnS]; exact hl
  have HC := Lib.hid hc
  have HO := Lib.hid ho
  have HNS := Lib.hid hnS
  have hgl := h.lt g h.here
  have hgEF := (h.fE gE rfl).1
  have hvg : (Value.slice AS nS cS).ownBlock ≠ some g := fun e => (hf g e).2.1 rfl
  have hvE : (Value.slice AS nS cS).ownBlock ≠ some gE := fun e => (hf gE e).2.2.1 rfl
  have hvF : ∀ j, (Value.slice AS nS cS).ownBlock = some j → F j := fun j e => (hf j e).1
  clear h ho hc hd hnL hnS hx hv hkl hl hf hw hL hS
  go_enter Try.func16, Try.ntmps16
  go_wp2
  refine wp_scope_jumps 0 (SignedJ (xs.contains who = true) w) (fun _ _ => 0) rfl ?_ ?_
  · go_wp2_with fail
    refine (phas_cell true g nL cE _ _ _ c1 HB.out).mono ?_
    rintro e w' ⟨rfl, rfl⟩
    go_wp2_with fail
    go_loop [29, 8] (fun i _ => ∃ j : Nat, i = .int .i64 j ∧ j ≤ nS ∧ Hid ((xs.take j).contains who = false)) (fun i _ => nS - (intOf i).toNat)
    case atStart => exact ⟨0, rfl, by omega, by simp [Hid]⟩
    case round =>
      obtain ⟨j, rfl, hj, HJ⟩ := hrel
      by_cases hlt : j < nS
      · obtain ⟨b, off, rfl, hbl, hcell⟩ := hrS.open_ (by rw [i64s_length, HNS.out]; omega)
        obtain ⟨z, hz⟩ : ∃ z, xs[j]? = some z := ⟨xs[j]'(by rw [HNS.out]; exact hlt), by simp [HNS.out, hlt]⟩
        have k1 := hcell j (.int .i64 z) (by simp [i64s, hz])
        have HZ := Lib.hid hz
        have j0 : (0 : Int) ≤ (j : Int) := by omega
        have j1 : (j : Int) < (nS : Int) := by omega
        clear hcell hz
        by_cases hzw : z = who
        · have HT : Hid (xs.contains who = true) := by
            show xs.contains who = true
            rw [← hzw]
            simp only [List.contains_iff_mem]
            exact List.mem_of_getElem? HZ.out
          have z1 : (z == who) = true := by simp [hzw]
          clear hzw
          go_wp2
          go_step3
          show 0 = 0 ∧ SignedJ (xs.contains who = true) w _ _
          exact ⟨rfl, .mk _ _ _ _ _ _ _ _ _ _ _ _ _ _ _ _ _ _ _ _ _ _ _ _ _ _ _ _ _ _ _ _ _ _ _ _ _ _ _ _ _ _ _ _ _ _ _ _ _ _ _ _ _ _ _ _ _ HT.out⟩
        · have z1 : (z == who) = false := by simp [hzw]
          have HN := Lib.hid (contains_next HJ.out HZ.out hzw)
          clear hzw
          go_wp2
          go_round
          case rel => exact ⟨j + 1, by go_num, by omega, HN.out⟩
          case measure => simp [intOf]; omega
      · have j1 : ¬ ((j : Int) < (nS : Int)) := by omega
        have c1a : ∀ o, (w.alloc o).cell? ⟨g, 1, none⟩ = some (.slice (some ⟨gE, 0, none⟩) nL cE) := fun o => (((Below.refl w.heap.size w).alloc (Nat.le_refl _) o).cell (p := ⟨g, 1, none⟩) hgl).trans c1
        have e1a : ∀ o, (w.alloc o).cell? ⟨gE, k * 2 + 1, none⟩ = some (.slice AS nS cS) := fun o => (((Below.refl w.heap.size w).alloc (Nat.le_refl _) o).cell (p := ⟨gE, k * 2 + 1, none⟩) hgEl).trans e1
        go_wp2_with fail
        go_region_law (first
          | (refine step_app_lies _ (by rfl) _ _ _ (by rfl) 0 3 (.int .i64 0) 8 Try.underlying28 info_i64 rfl (by decide) (.slice AS nS cS) nS (i64s xs) (by rfl) (by first | exact HO.out.alloc _ | exact World.ownsRow.drew (HO.out.alloc _)) w.heap.size (.int .i64 who) (by rfl) (by first | exact cell_new _ _ _ | exact cell_new w (.int .i64 who) _) rfl hn1 (Nat.zero_le _) ?_; intro g' c' w7 ho7 hg7 hat7; have hG7 := grown_far (w := w) (by first | exact (Below.refl _ _).alloc (Nat.le_refl _) _ | exact ((Below.refl _ _).alloc (Nat.le_refl _) _).drew) hg7; have q1 := (World.cell?_of_block (a := ⟨g, 1, none⟩) (hG7.2.1 g hgl hvg)).trans c1; have q2 := (World.cell?_of_block (a := ⟨gE, k * 2 + 1, none⟩) (hG7.2.1 gE hgEl hvE)).trans e1; have q3 := (World.frozen?_of_block (a := ⟨gE, k * 2 + 1, none⟩) (hG7.2.1 gE hgEl hvE)).trans ef; have hat8 : (Value.slice AS nS cS).ownBlock = some g' ∨ w.heap.size ≤ g' := hat7.imp id (fun e => by rw [e]; simp)))
        all_goals
          have ho8 : w7.ownsRow 0 3 1 (.slice (some ⟨g', 0, none⟩) (nS + 1) c') (nS + 1) (i64s (xs ++ [who])) := own_conv ho7 (by simp [i64s]) rfl
          have HR := Lib.hid (HH.out.signs rfl HKL.out HV.out HNS.out HL.out HC.out hG7.1 hG7.2.1 ho8 hat8)
          have HT := Lib.hid ((hG7.2.2.mono hvF).set (b := gE) (o := k * 2 + 1) (.inl hgEF) (.slice (some ⟨g', 0, none⟩) (nS + 1) c'))
          clear ho7 ho8 hg7 hat7 hat8 hG7 q1 q2 q3
          go_wp2_with fail
          go_step3
          go_wp2_with fail
          simp only [Exit.jump]
          go_ret
          exact ⟨rfl, _, ⟨_, _, _, HR.out⟩, HT.out, fun j hf => hf.imp id (fun h => h.1)⟩
  · refine signedJ_elim ?_
    intro u0 u1 u2 u3 u4 u5 u6 u7 u8 u9 u10 u11 u12 u13 u14 u15 u16 u17 u18 u19 u20 u21 u22 u23 u24 u25 u26 u27 u28 u29 u30 u31 u32 u33 u34 u35 u36 u37 u38 u39 u40 u41 u42 u43 u44 u45 u46 u47 u48 u49 u50 u51 u52 u53 u54 u55 u56 hp
    have HR := Lib.hid (HH.out.again HKL.out (who := who) (by rw [← HC.out who]; exact hp))
    clear hp
    go_wp2
    simp only [Exit.jump]
    go_ret
    exact ⟨rfl, F, ⟨_, _, _, HR.out⟩, Touch.refl _ _, fun _ h => .inl h⟩

end Go.Proofs.Ytnooippbdfobdaa
