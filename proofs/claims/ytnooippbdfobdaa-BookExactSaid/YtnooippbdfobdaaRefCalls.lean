/-
  The page's own book: its calls that put something in.
-/
import Derived.Test.YtnooippbdfobdaaRefTurns
import Derived.Deep.DeepCutAuto
import Derived.Deep.CutRange
namespace Go.Proofs.Ytnooippbdfobdaa
open Go.RowKit

theorem info_u8s : (Try.prog.info? 31).map (fun i => (i.zero, i.size, i.bytes)) = some (some (.slice none 0 0), 1, 24) := by kernel_rfl
theorem grown_alloc {w w2 : World} {o : Obj} {row : Option Nat} (hg : (w.alloc o).grownBy w2 row) : w.heap.size ≤ w2.heap.size ∧ ∀ k, k < w.heap.size → row ≠ some k → w2.heap[k]? = w.heap[k]? :=
  ⟨Nat.le_trans (by simp) hg.size, fun k hk hn => (hg.block k (by simp; omega) (fun e => hn e.symm)).trans (Below.heap_alloc w o k hk)⟩
theorem at_or {w : World} {p : Prop} {g : Nat} (h : p ∨ g = w.heap.size + 1) : p ∨ w.heap.size ≤ g := h.imp id fun e => by omega
theorem RefTo.refl {g : Nat} {F : Nat → Prop} {L : List (List Int)} {S : List (Int × Int)} {w : World} (h : IsRef w g F L S) : RefTo g F L S w w := ⟨F, h, Touch.refl _ _, fun _ h => .inl h⟩
theorem RefTo.below {g : Nat} {F : Nat → Prop} {L : List (List Int)} {S : List (Int × Int)} {w w' : World} (h : IsRef w g F L S) (hb : Below w.heap.size w w') : RefTo g F L S w w' := ⟨F, h.below hb, Touch.of hb, fun _ h => .inl h⟩

theorem ref_sign {w : World} {g : Nat} {F : Nat → Prop} {L : List (List Int)} {S : List (Int × Int)} {who d : Int} {a b c : Value} {es : List Value} (h : RefB w g F L (S.map Prod.fst ++ [who]) (S.map Prod.snd ++ [d]) a b c es) : IsRef w g F L (S ++ [(who, d)]) :=
  ⟨a, b, c, es, by rw [List.map_append, List.map_append]; exact h⟩
theorem rsign_form {F : Nat → Prop} (g : Nat) (L : List (List Int)) (S : List (Int × Int)) (who d : Int) (w : World) (h : IsRef w g F L S) (hw : ¬ (1 ≤ who ∧ who ≤ 16)) :
    Calls Try.prog 17 #[.pointer (some ⟨g, 0, none⟩), .int .i64 who, .int .i64 d] w fun e w' => e = .returned (.int .i64 1) ∧ RefTo g F L S w w' := by
  by_cases h1 : who < 1
  · clear hw
    go_enter Try.func17, Try.ntmps17
    go_wp2
    go_ret
    exact ⟨rfl, .refl h⟩
  · have h2 : 16 < who := by omega
    clear hw
    go_enter Try.func17, Try.ntmps17
    go_wp2
    go_ret
    exact ⟨rfl, .refl h⟩

theorem rsign_none {F : Nat → Prop} (g : Nat) (L : List (List Int)) (S : List (Int × Int)) (who d : Int) (w : World) (h : IsRef w g F L S) (hw : 1 ≤ who ∧ who ≤ 16) (hd : ¬ (1 ≤ d ∧ d ≤ (L.length : Int))) :
    Calls Try.prog 17 #[.pointer (some ⟨g, 0, none⟩), .int .i64 who, .int .i64 d] w fun e w' => e = .returned (.int .i64 3) ∧ RefTo g F L S w w' := by
  have hR := RefTo.refl h
  obtain ⟨vL, vW, vD, es, h⟩ := h
  obtain ⟨nL, hnL⟩ : ∃ nL, L.length = nL := ⟨_, rfl⟩
  have c0 := h.c0
  have rL := h.rL
  rw [hnL] at hd rL
  obtain ⟨AL, cL, rfl, _, _, _, _, _⟩ := own_val rL
  have g1 : ¬ (who < 1) := by omega
  have g2 : ¬ (16 < who) := by omega
  clear h rL hnL
  by_cases h1 : d < 1
  · clear hd hw
    go_enter Try.func17, Try.ntmps17
    go_wp2
    go_ret
    exact ⟨rfl, hR⟩
  · have h2 : (nL : Int) < d := by omega
    clear hd hw
    go_enter Try.func17, Try.ntmps17
    go_wp2
    go_ret
    exact ⟨rfl, hR⟩

set_option maxHeartbeats 1000000 in
theorem rsign_ok {F : Nat → Prop} (g : Nat) (L : List (List Int)) (S : List (Int × Int)) (who d : Int) (w : World) (h : IsRef w g F L S) (hw : 1 ≤ who ∧ who ≤ 16) (hd : 1 ≤ d ∧ d ≤ (L.length : Int)) (hS : S.length ≤ 1000) :
    Calls Try.prog 17 #[.pointer (some ⟨g, 0, none⟩), .int .i64 who, .int .i64 d] w fun e w' => e = .returned (.int .i64 0) ∧ RefTo g F L (S ++ [(who, d)]) w w' := by
  obtain ⟨vL, vW, vD, es, h⟩ := h
  have HREF := Lib.hid h
  obtain ⟨nL, hnL⟩ : ∃ nL, L.length = nL := ⟨_, rfl⟩
  obtain ⟨nS, hnS⟩ : ∃ nS, S.length = nS := ⟨_, rfl⟩
  have c0 := h.c0
  have c1 := h.c1
  have rL := h.rL
  have rW := h.rW
  rw [hnL] at hd rL
  rw [List.length_map, hnS] at rW
  rw [hnS] at hS
  obtain ⟨AL, cL, rfl, _, _, _, _, _⟩ := own_val rL
  obtain ⟨AW, cW, rfl, _, _, _, _, _⟩ := own_val rW
  have g1 : ¬ (who < 1) := by omega
  have g2 : ¬ (16 < who) := by omega
  have g3 : ¬ (d < 1) := by omega
  have g4 : ¬ ((nL : Int) < d) := by omega
  have HNS := Lib.hid hnS
  have HRW := Lib.hid rW
  clear h rL rW hnL hnS hd hw
  go_enter Try.func17, Try.ntmps17
  go_wp2_with (at_builtin; refine wpList_app_lies _ rfl _ _ 28 rfl 0 3 (.int .i64 0) 8 Try.underlying28 info_i64 rfl (by decide) _ nS _ rfl (HRW.out.alloc _) w.heap.size (.int .i64 who) rfl (cell_new _ _ _) rfl (by omega) (by omega) ?_)
  intro g' c' w2 ho2 hg2 hat2
  obtain ⟨hs2, hk2⟩ := grown_alloc hg2
  have ho2' := own_conv (n' := nS + 1) ho2 (ys := i64s (S.map Prod.fst ++ [who])) (by simp [i64s]) rfl
  have t2 : Touch F w w2 := (Touch.of ((Below.refl _ _).alloc (Nat.le_refl _) _)).trans (Touch.grown (F := F) hg2 (fun k e => (HREF.out.fW k e).1)) (fun k hf => .inl hf)
  have hgb := hk2 g (HREF.out.lt g HREF.out.here) (fun e => (HREF.out.fW g e).2 rfl)
  have k1 := (World.cell?_of_block (a := ⟨g, 1, none⟩) hgb).trans HREF.out.c1
  have kf := (World.frozen?_of_block (a := ⟨g, 1, none⟩) hgb).trans HREF.out.f1
  have R3 := HREF.out.putW hs2 hk2 (by rw [List.length_append, List.length_map, HNS.out]; rfl) ho2' (at_or hat2)
  have t3 := t2.set (b := g) (o := 1) (.inl HREF.out.here) (.slice (some ⟨g', 0, none⟩) (nS + 1) c')
  clear ho2 ho2' hg2 hat2 hk2 hgb t2 c0 c1
  go_upto_region 6 with fail
  obtain ⟨w3, hw3⟩ : ∃ w3, w3 = w2.setCell ⟨g, 1, none⟩ (.slice (some ⟨g', 0, none⟩) (nS + 1) c') := ⟨_, rfl⟩
  rw [← hw3] at R3 t3 ⊢
  clear hw3 k1 kf
  have c2 := R3.c2
  have rD := R3.rD
  rw [List.length_map, HNS.out] at rD
  obtain ⟨AD, cD, rfl, _, _, _, _, _⟩ := own_val rD
  have HR3 := Lib.hid R3
  have HRD := Lib.hid rD
  clear R3 rD
  go_wp2_with (at_builtin; refine wpList_app_lies _ rfl _ _ 28 rfl 0 3 (.int .i64 0) 8 Try.underlying28 info_i64 rfl (by decide) _ nS _ rfl (HRD.out.alloc _) w3.heap.size (.int .i64 d) rfl (cell_new _ _ _) rfl (by omega) (by omega) ?_)
  intro g5 c5 w5 ho5 hg5 hat5
  obtain ⟨hs5, hk5⟩ := grown_alloc hg5
  have ho5' := own_conv (n' := nS + 1) ho5 (ys := i64s (S.map Prod.snd ++ [d])) (by simp [i64s]) rfl
  have t5 := (Touch.of (F := fun k => F k ∨ (w.heap.size ≤ k ∧ k < w2.heap.size)) ((Below.refl w3.heap.size w3).alloc (Nat.le_refl _) _)).trans (Touch.grown (F := fun k => F k ∨ (w.heap.size ≤ k ∧ k < w2.heap.size)) hg5 (fun k e => (HR3.out.fD k e).1)) (fun k hf => .inl hf)
  have hgb := hk5 g (HR3.out.lt g HR3.out.here) (fun e => (HR3.out.fD g e).2 rfl)
  have k1 := (World.cell?_of_block (a := ⟨g, 2, none⟩) hgb).trans HR3.out.c2
  have kf := (World.frozen?_of_block (a := ⟨g, 2, none⟩) hgb).trans HR3.out.f2
  have R6 := HR3.out.putD hs5 hk5 (by rw [List.length_append, List.length_map, HNS.out]; rfl) ho5' (at_or hat5)
  have t6 := t5.set (b := g) (o := 2) (.inl HR3.out.here) (.slice (some ⟨g5, 0, none⟩) (nS + 1) c5)
  clear ho5 ho5' hg5 hat5 hk5 hgb t5 c2
  go_wp2_with fail
  go_ret
  refine ⟨rfl, _, ref_sign R6, t3.trans t6 (fun k hf => hf.imp id (fun h => h.1)), fun k hf => ?_⟩
  rcases hf with hf | hf
  · exact hf.imp id (fun h => h.1)
  · exact .inr (Nat.le_trans t3.size hf.1)

theorem copyb_wp {w : World} {o : Oper} {a : Act} {K : Act → World → Prop} {Q : Exit → Act → World → Prop} {s : Nat} {t : TypeId} {v : Value} (ho : o.op = .call { callee := .value (.func 8), args := #[.tmp s], argTypes := #[t] }) (hs : a.tmps[s]? = some v) {R : Ending → World → Prop} (hc : Calls Try.prog 8 #[v] w R)
    (h : ∀ e w', R e w' → ∃ u, e = .returned u ∧ K (a.put o.dst u) w') : o.wp Try.prog a w K Q := by
  have he : a.eval (.tmp s) = v := by simp [Act.eval, hs]
  unfold Oper.wp execOp
  simp only [ho]
  go_simp
  refine hc.mono fun e w' hr => ?_
  obtain ⟨u, rfl, hk⟩ := h e w' hr
  exact hk
theorem step_copy {w : World} {ops : Array Oper} {o : Oper} {a : Act} {K : Act → World → Prop} {Q : Exit → Act → World → Prop} {E : Prop} {s : Nat} {t : TypeId} {v : Value} (hgd : o.guard = none)
    (ho : o.op = .call { callee := .value (.func 8), args := #[.tmp s], argTypes := #[t] }) (hs : a.tmps[s]? = some v) {R : Ending → World → Prop} (hc : Calls Try.prog 8 #[v] w R)
    (h : ∀ e w', R e w' → ∃ u, e = .returned u ∧ K (a.put o.dst u) w') : if Region.wanted o (yielded ops a.tmps) = true then Oper.wp Try.prog o a w K Q else E := by
  have hw : Region.wanted o (yielded ops a.tmps) = true := by simp [Region.wanted, hgd]
  rw [if_pos hw]
  exact copyb_wp ho hs hc h

/-- what a book has after bytes were put in, and their number -/
def addB (L : List (List Int)) (x : List Int) : List (List Int) := if findB L x = 0 then L ++ [x] else L
def digB (L : List (List Int)) (x : List Int) : Nat := if findB L x = 0 then L.length + 1 else findB L x
theorem drewN_below (w : World) (d : Nat) : Below w.heap.size w (w.drewN d) := below_n (Below.refl _ _) d

set_option maxHeartbeats 1000000 in
theorem rdigest_old {F : Nat → Prop} (g : Nat) (L : List (List Int)) (S : List (Int × Int)) (A : Option Addr) (c n k : Nat) (x : List Int) (w : World) (h : IsRef w g F L S) (hz : x.length = n) (hr : Rd w A (u8s x)) (hn : n ≤ 1048576) (hL : L.length ≤ 1000) (hs : ∀ y ∈ L, y.length ≤ 1073741824) (hf : findB L x = k + 1) :
    Calls Try.prog 21 #[.pointer (some ⟨g, 0, none⟩), .slice A n c] w fun e w' => e = .returned (.int .i64 ((k + 1 : Nat) : Int)) ∧ RefTo g F L S w w' := by
  have HF := Lib.hid hf
  have HZ := Lib.hid hz
  have HS := Lib.hid hs
  have j1 : ((k : Int) + 1 == 0) = false := by simp; omega
  clear hf hz hs
  go_enter Try.func21, Try.ntmps21
  go_wp2_with fail
  refine (rfind_any g L S A c n x w h HZ.out hr (by omega) hL HS.out).mono ?_
  rintro e w1 ⟨rfl, d, rfl⟩
  rw [HF.out]
  go_wp2_with fail
  go_ret
  exact ⟨by simp, RefTo.below h (drewN_below _ _)⟩

set_option maxHeartbeats 4000000 in
theorem rdigest_new {F : Nat → Prop} (g : Nat) (L : List (List Int)) (S : List (Int × Int)) (A : Option Addr) (c n : Nat) (x : List Int) (w : World) (h : IsRef w g F L S) (hz : x.length = n) (hr : Rd w A (u8s x)) (hc : n ≤ c) (hn : n ≤ 1048576) (hL : L.length ≤ 1000) (hs : ∀ y ∈ L, y.length ≤ 1073741824) (hf : findB L x = 0) :
    Calls Try.prog 21 #[.pointer (some ⟨g, 0, none⟩), .slice A n c] w fun e w' => e = .returned (.int .i64 ((L.length + 1 : Nat) : Int)) ∧ RefTo g F (L ++ [x]) S w w' := by
  have HF := Lib.hid hf
  have HZ := Lib.hid hz
  have HS := Lib.hid hs
  have hI := h
  obtain ⟨vL, vW, vD, es, h⟩ := h
  obtain ⟨nL, hnL⟩ : ∃ nL, L.length = nL := ⟨_, rfl⟩
  have rL := h.rL
  rw [hnL] at rL hL
  obtain ⟨AL, cL, rfl, _, _, _, _, _⟩ := own_val rL
  have HNL := Lib.hid hnL
  have j2 : (nL : Int) < 65536 := by omega
  have HREF := Lib.hid h
  have HRL := Lib.hid rL
  have hLL : L.length ≤ 1000 := by omega
  clear hf hz hs h rL hnL
  go_enter Try.func21, Try.ntmps21
  go_wp2_with fail
  refine (rfind_any g L S A c n x w hI HZ.out hr (by omega) hLL HS.out).mono ?_
  rintro e w1 ⟨rfl, d, rfl⟩
  rw [HF.out]
  obtain ⟨wd, hwd⟩ : ∃ wd, wd = w.drewN d := ⟨_, rfl⟩
  have HRD : Hid (RefB wd g F L (S.map Prod.fst) (S.map Prod.snd) (.slice AL nL cL) vW vD es) := by rw [hwd]; exact HREF.out.kept (Nat.le_refl _) (fun _ _ => rfl)
  have hrd : Rd wd A (u8s x) := by rw [hwd]; exact hr.drewN d
  have hbd : Below w.heap.size w wd := by rw [hwd]; exact drewN_below _ _
  have hsd : wd.heap.size = w.heap.size := by rw [hwd]; rfl
  rw [← hwd]
  have c0 := HRD.out.c0
  have f0 := HRD.out.f0
  have hgl := HRD.out.lt g HRD.out.here
  have HRLD : Hid (wd.ownsRow 0 31 1 (.slice AL nL cL) nL es) := by have := HRD.out.rL; rwa [HNL.out] at this
  have HSD := Lib.hid hsd
  clear hwd hI hr hLL hsd
  go_wp2_with fail
  go_region_law (first
    | (refine step_copy (by rfl) (by rfl) (by rfl) (copyBytes_any A c n x _ HZ.out (by first | exact hrd | exact hrd.drew) hc (by omega)) ?_; rintro e w5 ⟨v5, rfl, ho5, hb5⟩; have ho5b := own_cast ho5 ((u8s_length _).trans HZ.out); obtain ⟨A5, c5, rfl, hc5, _, hr5, _, _⟩ := own_val ho5b; refine ⟨_, rfl, ?_⟩; have k0 := (hb5.cell (p := ⟨g, 0, none⟩) hgl).trans c0; have kf := (hb5.frozen (p := ⟨g, 0, none⟩) hgl).trans f0; have hg5 : g < w5.heap.size := World.block_lt_of_cell? w5 _ k0; have ka : ∀ o, (w5.alloc o).cell? ⟨g, 0, none⟩ = some (.slice AL nL cL) := fun o => (((Below.refl w5.heap.size w5).alloc (Nat.le_refl _) o).cell (p := ⟨g, 0, none⟩) hg5).trans k0)
    | (refine step_app_lies _ (by rfl) _ _ _ (by rfl) 0 31 (.slice none 0 0) 24 Try.underlying27 info_u8s rfl (by decide) _ nL es (by rfl) ((ownS_below HRLD.out (by first | exact hb5 | exact ((Below.refl _ _).drew).trans hb5)).alloc _) w5.heap.size _ (by rfl) (cell_new _ _ _) rfl (by omega) (by omega) ?_; intro g' c' w7 ho7 hg7 hat7; have hG7 := grown_alloc hg7; have hgb := hG7.2 g (by have := hb5.size; simp at this; omega) (fun e => (HRD.out.fL g e).2 rfl); have q0 := (World.cell?_of_block (a := ⟨g, 0, none⟩) hgb).trans k0; have qf := (World.frozen?_of_block (a := ⟨g, 0, none⟩) hgb).trans kf))
  all_goals
    have b5 : Below wd.heap.size wd w5 := by first | exact hb5 | exact ((Below.refl _ _).drew).trans hb5
    have hat8 : (Value.slice AL nL cL).ownBlock = some g' ∨ g' = w5.heap.size + 1 := hat7.imp id fun e => by rw [e]; simp
    have ho5c : w5.ownsRow wd.heap.size 5 1 (.slice A5 n c5) n (u8s x) := ho5b
    have hk7 : ∀ k, k < wd.heap.size → (Value.slice AL nL cL).ownBlock ≠ some k → w7.heap[k]? = wd.heap[k]? := fun k hk hn => (hG7.2 k (Nat.lt_of_lt_of_le hk b5.size) hn).trans (b5.block k hk)
    have hA5 : ∀ a, A5 = some a → a.block < w5.heap.size ∧ wd.heap.size ≤ a.block := fun a ha => own_lt ho5c (g := a.block) (by rw [ha]; rfl)
    have hel : Elem w7 (fun k => wd.heap.size ≤ k ∧ k < w7.heap.size ∧ k ≠ g') (.slice A5 n c5) x := by
      refine ⟨A5, c5, by rw [HZ.out], by rw [HZ.out]; exact hc5, hr5.kept hG7.1 fun a ha hl => hG7.2 _ hl fun e => ?_, fun a ha => ⟨(hA5 a ha).2, Nat.lt_of_lt_of_le (hA5 a ha).1 hG7.1, fun e => ?_⟩⟩
      · have h1 := HRD.out.lt _ (HRD.out.fL _ e).1
        have h2 := (hA5 a ha).2
        omega
      · rcases hat8 with e' | e'
        · have h1 := HRD.out.lt _ (HRD.out.fL _ e').1
          have h2 := (hA5 a ha).2
          omega
        · have h2 := (hA5 a ha).1
          omega
    have R8 := HRD.out.putL (w2 := w7) (Nat.le_trans b5.size hG7.1) hk7 (by rw [HNL.out]) ho7 ((at_or hat8).imp id fun e => Nat.le_trans b5.size e) hel
    have t5 : Touch F w w5 := Touch.of (hbd.trans (b5.mono (by rw [HSD.out]; exact Nat.le_refl _)))
    have t7 := ((t5.alloc _).trans (Touch.grown (F := F) hg7 (fun k e => (HRD.out.fL k e).1)) (fun k hf => .inl hf)).set (b := g) (o := 0) (.inl HRD.out.here) (.slice (some ⟨g', 0, none⟩) (nL + 1) c')
    have HR8 := Lib.hid R8
    have HT7 := Lib.hid t7
    clear R8 t7 t5 hel hA5 hk7 ho5c b5 hG7 hgb hg7 ho7 ka ho5 ho5b hb5
    go_wp2_with fail
    go_ret
    exact ⟨by rw [HNL.out]; simp, _, ⟨_, _, _, _, HR8.out⟩, HT7.out, fun k hf => hf.imp id (fun h => by rw [HSD.out] at h; exact h.1)⟩

end Go.Proofs.Ytnooippbdfobdaa
