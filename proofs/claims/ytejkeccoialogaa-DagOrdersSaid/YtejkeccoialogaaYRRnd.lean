/-
  The page's Top and Round; the laws' spoil of a row of certificates.
-/
import Derived.Test.YtejkeccoialogaaYCpD
import Derived.Test.YtejkeccoialogaaYApiA
import Derived.Test.YtejkeccoialogaaHSpC
namespace Go.Proofs.Ytejkeccoialogaa
open Go.RowKit

set_option maxRecDepth 100000 in
set_option maxHeartbeats 2000000 in
theorem rTop_is (N L : Int) (o : Ad) (l : List CrtD) (w : World) (h : GIn w o l) :
    Calls Try.prog 39 #[dagV N L o] w fun e w' => e = .returned (.int .i64 (topC l)) ∧ Below w.heap.size w w' := by
  obtain ⟨w1, hw1⟩ : ∃ w1, w1 = (w.alloc (.cells (dagC N L o).toArray 24)) := ⟨_, rfl⟩
  obtain ⟨hb1, hsz, hx0⟩ := boxes1 w _ _ hw1
  have HW : Hid ((w.alloc (.cells #[.int .i64 N, .int .i64 L, .slice o.A o.n o.c] 24)) = w1) := hw1.symm
  have HB := Lib.hid hb1
  have hlen := h.len
  have hfew := h.few
  have hget : ∀ (i : Nat) (x : CrtD), l[i]? = some x → ∃ (b off : Nat) (a : CrtA), o.A = some ⟨b, off, none⟩ ∧ b < w.heap.size ∧ CrtFit x ∧ ∀ wX, Below w.heap.size w wX → CrtAt wX b off i x a := fun i x hx => h.get hx
  obtain ⟨d0, d1, d2⟩ := dag_cells hx0
  clear hw1 hsz hx0 h
  unfold dagV
  by_cases hn : o.n = 0
  · have HT : Hid (topC l = 0) := by show _ = _; rw [topC, List.getElem?_eq_none (by omega)]
    have j1 : ((o.n : Int) == 0) = true := by simp [hn]
    clear hn hlen hfew hget hb1
    go_enter Try.func39, Try.ntmps39
    go_upto_region 1 with fail
    rw [HW.out]
    go_wp2_with fail
    go_ret
    exact ⟨by rw [HT.out]; rfl, HB.out⟩
  · obtain ⟨x, hx⟩ : ∃ x, l[l.length - 1]? = some x := ⟨_, List.getElem?_eq_getElem (by omega)⟩
    have HT : Hid (topC l = x.r) := by show _ = _; rw [topC, hx]
    obtain ⟨b, off, a, hA, hbl, -, hce⟩ := hget _ _ hx
    have hl1 : l.length - 1 = o.n - 1 := by omega
    rw [hl1] at hce
    have c1 := (hce w1 hb1).c1
    have j1 : ((o.n : Int) == 0) = false := by simp; omega
    obtain ⟨A, n, c⟩ := o
    simp only at hA hn j1 hfew d2 c1
    subst hA
    have i0 : (0 : Int) ≤ (n : Int) - 1 := by omega
    have i1 : (n : Int) - 1 < (n : Int) := by omega
    have i2 : ((n : Int) - 1).toNat = n - 1 := by omega
    clear hn hlen hx hce hl1 hget hb1
    go_enter Try.func39, Try.ntmps39
    go_upto_region 1 with fail
    rw [HW.out]
    go_wp2_with fail
    go_ret
    exact ⟨by rw [HT.out]; rfl, HB.out⟩

theorem take_filterY {f : CrtD → Bool} {l : List CrtD} {k : Nat} {y : CrtD} (h : l[k]? = some y) : (l.take (k + 1)).filter f = (l.take k).filter f ++ (if f y then [y] else []) := by
  rw [List.take_add_one, h]
  cases hf : f y <;> simp [hf]

/-! ### the spoil -/
abbrev ZCY : List Value := [.int .i64 0, .int .i64 0, .slice none 0 0, .slice none 0 0, .int .i64 (-9), .slice none 0 0]
/-- the blocks that a row of certificates owns -/
def rowYHas (o : Ad) (ms : List (CrtD × CrtA)) (j : Nat) : Prop := o.v.ownBlock = some j ∨ ∃ y ∈ ms, y.2.has j
set_option maxRecDepth 100000 in
set_option maxHeartbeats 8000000 in
theorem spoilCerts_far (B : Nat) (o : Ad) (ms : List (CrtD × CrtA)) (w : World) (h : OwnY B w o ms) (hf : ∀ x ∈ ms, CrtFit x.1) (hn : ms.length ≤ 1000000) (hB : B ≤ w.heap.size) :
    Calls Try.prog 19 #[.slice o.A o.n o.c] w fun e w' => e = .returned (.tuple #[]) ∧ Touch (rowYHas o ms) w w' := by
  obtain ⟨A, n, c⟩ := o
  have hz : ms.length = n := h.len
  have hn2 : n ≤ 1000000 := by omega
  have H := Lib.hid h
  have HZ := Lib.hid hz
  have HBB := Lib.hid hB
  have HFT := Lib.hid hf
  have HS0 : Hid (w.ownsRow B 37 6 (.slice A n c) n ([] ++ cellsY (ms.drop 0))) := by show w.ownsRow _ _ _ _ _ _; rw [List.nil_append, List.drop_zero]; exact h.row
  obtain ⟨i0, hi0, hz0, hz1, hz2⟩ := info_parts info_zcert
  have HI0 := Lib.hid hi0
  have HZ0 := Lib.hid hz0
  have HZ1 := Lib.hid hz1
  have HZ2 := Lib.hid hz2
  clear h hz hn hB hf hi0 hz0 hz1 hz2
  dsimp only
  go_enter Try.func19, Try.ntmps19
  go_wp2
  go_loopw [2] (fun i wr => ∃ (k : Nat) (pre : List Value), i = .int .i64 k ∧ k ≤ n ∧ Hid (pre.length = k * 6) ∧ Hid (wr.ownsRow B 37 6 (.slice A n c) n (pre ++ cellsY (ms.drop k))) ∧ Hid (Touch (fun j => (Value.slice A n c).ownBlock = some j ∨ ∃ y ∈ ms.take k, y.2.has j) w wr)) (fun i _ => n - (intOf i).toNat)
  case atStart => exact ⟨0, [], rfl, by omega, rfl, HS0, Lib.hid (Touch.refl _ _)⟩
  case round =>
    clear HS0
    obtain ⟨k, pre, rfl, hk, HP, HO, HT⟩ := hrel
    have i0' : (0 : Int) ≤ (k : Int) := by omega
    by_cases hlt : k < n
    · obtain ⟨x, hx⟩ : ∃ x, ms[k]? = some x := ⟨ms[k]'(by rw [HZ.out]; exact hlt), by simp⟩
      have hxm := List.mem_of_getElem? hx
      have hcell : cellsY (ms.drop k) = crtC x.1 x.2 ++ cellsY (ms.drop (k + 1)) := by
        obtain ⟨hl, he⟩ := List.getElem?_eq_some_iff.1 hx
        rw [List.drop_eq_getElem_cons hl, he]
        rfl
      have ho := HO.out
      rw [hcell] at ho
      obtain ⟨g, cap, hv, hBg, hglt⟩ := ho.form (by omega)
      simp only [Value.slice.injEq, true_and] at hv
      obtain ⟨rfl, rfl⟩ := hv
      have HR0 := Lib.hid ho
      have HAT : Hid (∀ wX : World, wX.ownsRow B 37 6 (.slice (some ⟨g, 0, none⟩) n c) n (pre ++ (crtC x.1 x.2 ++ cellsY (ms.drop (k + 1)))) → ∀ i u, (crtC x.1 x.2)[i]? = some u → wX.cell? ⟨g, k * 6 + i, none⟩ = some u) := by
        show ∀ wX, _
        intro wX hX i u hu
        have hi : i < 6 := (List.getElem?_eq_some_iff.1 hu).1
        rw [hX.cellAt (k * 6 + i) (by omega), List.getElem?_append_right (by rw [HP.out]; omega), HP.out, show k * 6 + i - k * 6 = i by omega, List.getElem?_append_left (show i < 6 from hi)]
        exact hu
      have hsub := H.out.sub x hxm
      have hno : ∀ j, x.2.has j → ¬ ((Value.slice (some ⟨g, 0, none⟩) n c).ownBlock = some j ∨ ∃ y ∈ ms.take k, y.2.has j) := by
        rintro j hj (e | ⟨y, hy, e⟩)
        · exact H.out.apart hxm e hj
        · obtain ⟨i, hi⟩ := List.mem_iff_getElem?.1 hy
          rw [List.getElem?_take] at hi
          split at hi
          · rename_i hik
            have hp := List.pairwise_iff_getElem.1 H.out.nod i k (List.getElem?_eq_some_iff.1 hi).1 (List.getElem?_eq_some_iff.1 hx).1 hik j
            rw [(List.getElem?_eq_some_iff.1 hi).2, (List.getElem?_eq_some_iff.1 hx).2] at hp
            exact hp e hj
          · cases hi
      have HM : Hid (CNew B wr x.1 x.2) := hsub.kept fun j hj hl => HT.out.block j hl (hno j hj)
      have HFAR : Hid (∀ j, (Value.slice (some ⟨g, 0, none⟩) n c).ownBlock = some j → ¬ x.2.has j) := by show ∀ j, _; exact fun j hj hx => hno j hx (.inl hj)
      have HXM : Hid (x ∈ ms.take (k + 1)) := List.mem_of_getElem? (by rw [List.getElem?_take, if_pos (Nat.lt_succ_self k)]; exact hx)
      have hfx := HFT.out x hxm
      have i1 : (k : Int) < (n : Int) := by omega
      have HSC := Lib.hid (spoilCert_far x.1.a x.1.r x.1.d x.2.B.A x.2.B.n x.2.B.c x.1.B x.2.P.A x.2.P.n x.2.P.c x.1.P x.2.S.A x.2.S.n x.2.S.c x.1.S B wr (by have := hfx.lB; have := hsub.lb; omega) HM.out.b (by have := hfx.lP; have := hsub.lp; omega) HM.out.p (by have := hfx.lS; have := hsub.ls; omega) HM.out.s hsub.bp hsub.bs hsub.ps x.2.has (fun j hj => hj))
      clear hx hxm hcell ho hsub hno hBg hfx
      have c0 : wr.cell? ⟨g, k * 6, none⟩ = some (.int .i64 x.1.a) := HAT.out wr HR0.out 0 _ rfl
      have c1 : wr.cell? ⟨g, k * 6 + 1, none⟩ = some (.int .i64 x.1.r) := HAT.out wr HR0.out 1 _ rfl
      have c2 : wr.cell? ⟨g, k * 6 + 2, none⟩ = some (.slice x.2.B.A x.2.B.n x.2.B.c) := HAT.out wr HR0.out 2 _ rfl
      have c3 : wr.cell? ⟨g, k * 6 + 3, none⟩ = some (.slice x.2.P.A x.2.P.n x.2.P.c) := HAT.out wr HR0.out 3 _ rfl
      have c4 : wr.cell? ⟨g, k * 6 + 4, none⟩ = some (.int .i64 x.1.d) := HAT.out wr HR0.out 4 _ rfl
      have c5 : wr.cell? ⟨g, k * 6 + 5, none⟩ = some (.slice x.2.S.A x.2.S.n x.2.S.c) := HAT.out wr HR0.out 5 _ rfl
      go_upto_region 4 with (go_at_call 60; refine HSC.out.mono ?_; rintro e w4 ⟨rfl, ht4⟩)
      have HR5 : Hid (w4.ownsRow B 37 6 (.slice (some ⟨g, 0, none⟩) n c) n (pre ++ (crtC x.1 x.2 ++ cellsY (ms.drop (k + 1))))) := own_kept HR0.out fun j hj hl => ht4.block j hl (HFAR.out j hj)
      have hT5 : Touch (fun j => (Value.slice (some ⟨g, 0, none⟩) n c).ownBlock = some j ∨ ∃ y ∈ ms.take (k + 1), y.2.has j) w w4 := (HT.out.mono fun j hj => hj.imp id (fun ⟨y, hy, e⟩ => ⟨y, List.take_subset_take_left ms (Nat.le_succ k) hy, e⟩)).on (ht4.mono fun j hj => .inr ⟨x, HXM.out, hj⟩)
      have HT5 := Lib.hid hT5
      have hlen5 : k * 6 + 6 ≤ (pre ++ (crtC x.1 x.2 ++ cellsY (ms.drop (k + 1)))).length := by rw [HR5.out.1]; omega
      clear c0 c1 c2 c3 c4 c5 ht4 hT5
      go_wp2_with (refine wpList_store_row rfl 37 _ _ rfl B n c g 6 (k * 6) 37 ZCY (pre ++ (crtC x.1 x.2 ++ cellsY (ms.drop (k + 1)))) rfl rfl HR5.out hlen5 size_crt rfl ?_; intro w6 hr6 T6)
      have hr6' : w6.ownsRow B 37 6 (.slice (some ⟨g, 0, none⟩) n c) n ((pre ++ ZCY) ++ cellsY (ms.drop (k + 1))) := by
        have e : List.take (k * 6) (pre ++ (crtC x.1 x.2 ++ cellsY (ms.drop (k + 1)))) ++ ZCY ++ List.drop (k * 6 + ZCY.length) (pre ++ (crtC x.1 x.2 ++ cellsY (ms.drop (k + 1)))) = (pre ++ ZCY) ++ cellsY (ms.drop (k + 1)) := by
          rw [← HP.out, List.take_left', ← List.append_assoc pre, List.drop_left']
          · rw [List.length_append]; rfl
          · rfl
        rw [e] at hr6
        exact hr6
      have HR6 := Lib.hid hr6'
      have hT6 := HT5.out.on (T6 (fun j => (Value.slice (some ⟨g, 0, none⟩) n c).ownBlock = some j ∨ ∃ y ∈ ms.take (k + 1), y.2.has j) (.inl rfl))
      have HT6 := Lib.hid hT6
      clear hr6 hr6' T6 hT6
      go_roundw
      case rel =>
        refine ⟨k + 1, pre ++ ZCY, by go_num, by omega, ?_, HR6, HT6⟩
        show _ = _
        rw [List.length_append, HP.out]
        show k * 6 + 6 = (k + 1) * 6
        omega
      case measure => simp [intOf]; omega
    · have i1 : ¬ ((k : Int) < (n : Int)) := by omega
      obtain rfl : k = n := by omega
      have hall : Touch (fun j => (Value.slice A k c).ownBlock = some j ∨ ∃ y ∈ ms, y.2.has j) w wr := HT.out.mono fun j hj => hj.imp id (fun ⟨y, hy, e⟩ => ⟨y, List.mem_of_mem_take hy, e⟩)
      have hsw := hall.size
      have HALL := Lib.hid hall
      have HBW : Hid (B ≤ wr.heap.size) := by have := HBB.out; show _ ≤ _; omega
      clear hall hsw
      go_wp2_with (at_builtin; refine wpList_append_lies _ rfl _ _ 22 rfl B 37 i0 zcert 6 96 Try.underlying22 HI0.out HZ0.out HZ1.out HZ2.out rfl (by decide) (.slice A k c) k _ rfl (HO.out.alloc _) ⟨wr.heap.size, 0, none⟩ 1 1 (crtC zeroC6 zeroCA) rfl rfl (fun j y hj => by rw [Addr.add_lit, Nat.zero_add]; exact ((box_new wr (crtC zeroC6 zeroCA) 37).2 j y hj).1) (fun u hu => List.all_eq_true.1 (show (crtC zeroC6 zeroCA).all (·.oneCell') = true from rfl) u hu) (by decide) (by unfold maxLen; omega) (by omega) (by have := HBW.out; simp; omega) _ rfl ?_; intro g' c' w6 q1 q2 q3 q4)
      have hb6 : Touch (fun j => (Value.slice A k c).ownBlock = some j ∨ ∃ y ∈ ms, y.2.has j) w w6 := (HALL.out.alloc (.cells (crtC zeroC6 zeroCA).toArray 37)).on (Touch.grown q2 fun j hj => .inl hj)
      have HB6 := Lib.hid hb6
      clear q1 q2 q3 q4 hb6
      go_wp2_with fail
      go_end0
      exact ⟨rfl, HB6.out⟩
theorem spoilCerts_any (B : Nat) (o : Ad) (ms : List (CrtD × CrtA)) (w : World) (h : OwnY B w o ms) (hf : ∀ x ∈ ms, CrtFit x.1) (hn : ms.length ≤ 1000000) (hB : B ≤ w.heap.size) :
    Calls Try.prog 19 #[.slice o.A o.n o.c] w fun e w' => e = .returned (.tuple #[]) ∧ Below B w w' :=
  (spoilCerts_far B o ms w h hf hn hB).mono fun e w' ⟨he, ht⟩ => ⟨he, ht.below (fun k hk => by
    rcases hk with hk | ⟨y, hy, hk⟩
    · exact (own_lt h.row hk).2
    · exact ((h.sub y hy).lt hk).2) hB⟩

end Go.Proofs.Ytejkeccoialogaa
