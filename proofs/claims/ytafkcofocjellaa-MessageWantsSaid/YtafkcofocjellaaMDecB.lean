/-
  Package message's Decode as landed.
-/
import Derived.Test.YtafkcofocjellaaMDecA
namespace Go.Proofs.Ytafkcofocjellaa
open Go.RowKit

set_option maxRecDepth 100000 in
set_option maxHeartbeats 16000000 in
theorem mdec_long (A : Option Addr) (c l : Nat) (x : List Int) (n : Int) (w : World) (hz : x.length = l) (hr : Rd w A (u8s x)) (hy : Byts x) (hc : l ≤ c) (hcm : c ≤ maxLen) (hl : l ≤ 1000000) (h3 : ¬ l < 3) :
    Calls Try.prog 23 #[.slice A l c, .int .i64 n] w fun e w' => Below w.heap.size w w' ∧ DecGot w' e (decM x n) := by
  have HCM := Lib.hid hcm
  clear hcm
  obtain ⟨w1, hw1⟩ : ∃ w1, w1 = w.alloc (.cells (msgC zeroM zeroA).toArray 32) := ⟨_, rfl⟩
  have hb1 : Below w.heap.size w w1 := by rw [hw1]; exact (Below.refl _ _).alloc (Nat.le_refl _) _
  have hs1 : w1.heap.size = w.heap.size + 1 := by rw [hw1]; simp
  have bx1 : Box w1 w.heap.size (msgC zeroM zeroA) := by rw [hw1]; exact box_new w (msgC zeroM zeroA) 32
  have HW := Lib.hid hw1
  have HS1 := Lib.hid hs1
  have HBX1 := Lib.hid bx1
  clear hw1 bx1 hs1
  obtain ⟨k, f, t, b, rfl⟩ : ∃ k f t b, x = k :: f :: t :: b := by
    match x, hz with
    | k :: f :: t :: b, _ => exact ⟨k, f, t, b, rfl⟩
    | [], hz => simp at hz; omega
    | [_], hz => simp at hz; omega
    | [_, _], hz => simp at hz; omega
  obtain ⟨g, off, rfl, hgl, hcell⟩ := hr.open_ (by simp [u8s])
  have hb3 : b.length = l - 3 := by simp only [List.length_cons] at hz; omega
  have hyk := hy k (by simp)
  have hyf := hy f (by simp)
  have hyt := hy t (by simp)
  have hyb : Byts b := fun y h => hy y (by simp [h])
  have wk := wrap_byt hyk
  have wf := wrap_byt hyf
  have wt := wrap_byt hyt
  have ca0 := hcell 0 _ rfl
  have ca1 := hcell 1 _ rfl
  have ca2 := hcell 2 _ rfl
  simp only [Nat.add_zero] at ca0
  have HCA : Hid (∀ wX, Below w.heap.size w wX → wX.cell? ⟨g, off, none⟩ = some (.int .u8 k) ∧ wX.cell? ⟨g, off + 1, none⟩ = some (.int .u8 f) ∧ wX.cell? ⟨g, off + 2, none⟩ = some (.int .u8 t)) := fun wX h =>
    ⟨(h.cell (p := ⟨g, off, none⟩) hgl).trans ca0, (h.cell (p := ⟨g, off + 1, none⟩) hgl).trans ca1, (h.cell (p := ⟨g, off + 2, none⟩) hgl).trans ca2⟩
  have HRB : Hid (Rd w (if c = 3 then some (⟨g, off, none⟩ : Addr) else (some (⟨g, off, none⟩ : Addr)).map (·.add 3)) (u8s b)) := by
    have h := hr.cut (k := 3) (c := c) (by rw [u8s_length, hz]; exact hc)
    have e : (u8s (k :: f :: t :: b)).drop 3 = u8s b := rfl
    rw [e] at h
    exact h
  have i3 : ¬ ((l : Int) < 3) := by omega
  have HB3 := Lib.hid hb3
  have HYK := Lib.hid hyk
  have HYF := Lib.hid hyf
  have HYT := Lib.hid hyt
  have HYB := Lib.hid hyb
  clear hcell hb3 hyk hyf hyt hyb hr hy hz ca0 ca1 ca2
  go_enter Try.func23, Try.ntmps23
  go_upto_region 1 with (refine wpList_run_to rfl 32 rfl (.pointer (some ⟨w.heap.size, 0, none⟩)) (w.alloc (.cells (msgC zeroM zeroA).toArray 32)) (by unfold execOp msgC zeroM zeroA; go_simp; done) ?_)
  rw [← HW.out]
  obtain ⟨ca0, ca1, ca2⟩ := HCA.out _ hb1
  obtain ⟨w2, hw2⟩ : ∃ w2, w2 = w1.alloc (.cells #[.int .i64 0, .int .i64 0, .int .i64 0, .int .i64 0, .int .i64 0, .int .i64 0, .slice none 0 0, .int .i64 0, .int .i64 0, .slice none 0 0, .slice none 0 0, .int .i64 0, .int .i64 0, .slice none 0 0, .slice none 0 0, .int .i64 0, .slice none 0 0, .slice none 0 0] 32) := ⟨_, rfl⟩
  have hb2 : Below w.heap.size w w2 := by rw [hw2]; exact hb1.alloc hb1.size _
  obtain ⟨da0, da1, da2⟩ := HCA.out _ hb2
  rw [hw2] at da0 da1 da2
  have j0 : 0 < l := by omega
  have j1 : 1 < l := by omega
  have j2 : 2 < l := by omega
  go_upto_region 3 with fail
  go_region
  clear ca0 ca1 ca2 da0 da1 da2 hw2 hb2
  obtain ⟨w3, hw3⟩ : ∃ w3, w3 = (w1.alloc (.cells #[.int .i64 k, .int .i64 f, .int .i64 t, .int .i64 0, .int .i64 0, .int .i64 0, .slice none 0 0, .int .i64 0, .int .i64 0, .slice none 0 0, .slice none 0 0, .int .i64 0, .int .i64 0, .slice none 0 0, .slice none 0 0, .int .i64 0, .slice none 0 0, .slice none 0 0] 32)).drew := ⟨_, rfl⟩
  have bx3 : Box w3 w1.heap.size (msgC { zeroM with k := k, f := f, t := t } zeroA) := by rw [hw3]; exact box_new w1 (msgC { zeroM with k := k, f := f, t := t } zeroA) 32
  have hx3 : Below w1.heap.size w1 w3 := by rw [hw3]; exact ((Below.refl _ _).alloc (Nat.le_refl _) _).drew
  have HW3 := Lib.hid hw3
  have HBX3 := Lib.hid bx3
  have HBZ : Hid (∀ wX, Below w1.heap.size w1 wX → Box wX w.heap.size (msgC zeroM zeroA)) := fun wX h => HBX1.out.below h (by have := HS1.out; omega)
  clear hw3 bx3 w2
  by_cases hcap : c = 3

  · have hr3 : Rd w3 (some ⟨g, off, none⟩) (u8s b) := by have h := HRB.out; rw [if_pos hcap] at h; exact (h.below hb1).below hx3
    have hg3 : ∀ a, (some (⟨g, off, none⟩ : Addr)) = some a → a.block ≠ w1.heap.size := fun a ha => by cases ha; show g ≠ _; have := HS1.out; omega
    have hc3 : 0 ≤ maxLen := Nat.zero_le _
    go_upto_region 4 with fail
    rw [← HW3.out]
    go_wp2_with fail
    refine (readRest_any w1.heap.size k f t (some ⟨g, off, none⟩) 0 (l - 3) b w3 HBX3.out HB3.out hr3 HYB.out (by omega) hc3 (by omega) hg3).mono ?_
    rintro e w4 ⟨T4, hgot⟩
    have hx4 : Below w1.heap.size w1 w4 := hx3.trans (T4.below (fun k hk => by rw [hk]; exact Nat.le_refl _) hx3.size)
    cases hd : restD k f t b with
    | none =>
      rw [hd] at hgot
      simp only [ReadGot] at hgot
      subst hgot
      have HNO : Hid (decM (k :: f :: t :: b) n = none) := dec_out hd rfl
      clear hd T4
      go_wp2_with (refine wpList_store_box rfl 32 _ _ rfl w.heap.size 0 (msgC zeroM zeroA) (msgC zeroM zeroA) (msgC zeroM zeroA) rfl rfl (HBZ.out _ hx4) (by simp [msgC]) rfl size_mes rfl ?_)
      intro w7 bx7 T7
      have hb7 : Below w.heap.size w w7 := (hb1.trans (hx4.mono hb1.size)).trans ((T7 (fun k => k = w.heap.size) rfl).below (fun k hk => by rw [hk]; exact Nat.le_refl _) (by have := hx4.size; have := hb1.size; omega))
      clear T7
      have HBX7 := Lib.hid bx7
      clear bx7
      go_wp2_with fail
      refine bodyPost_ret (v := .tuple #[msgV zeroM zeroA, .int .i64 1]) (mres _ _ w.heap.size zeroM zeroA 1 rfl rfl HBX7.out) rfl ⟨hb7, dec_none HNO.out rfl⟩
    | some m =>
      rw [hd] at hgot
      obtain ⟨rfl, a4, bx4, hi4, hp4⟩ := hgot
      have HD := Lib.hid hd
      have HI4 := Lib.hid hi4
      have HP4 := Lib.hid hp4
      have HBX4 := Lib.hid bx4
      have HSM := Lib.hid (rest_fine HYK.out HYF.out HYT.out HYB.out hd)
      clear hd hi4 bx4 T4 hp4
      go_wp2_with (refine wpList_load_boxG 32 _ rfl w1.heap.size rfl rfl (msgC m a4) HBX4.out _ Try.underlying32 rfl size_mes ?_)
      refine (mcheck_is (messB m n) m a4 n _ rfl HI4.out HSM.out.ok (HSM.out.few HI4.out)).mono ?_
      rintro e w5 ⟨rfl, hb5⟩
      have hx5 : Below w1.heap.size w1 w5 := hx4.trans (hb5.mono hx4.size)
      cases hm : messB m n with
      | false =>
        have ev : okV false = 1 := rfl
        have HNO : Hid (decM (k :: f :: t :: b) n = none) := by show decM _ n = none; rw [dec_in HD.out rfl, hm]; rfl
        clear hm hb5
        go_wp2_with (refine wpList_store_box rfl 32 _ _ rfl w.heap.size 0 (msgC zeroM zeroA) (msgC zeroM zeroA) (msgC zeroM zeroA) rfl rfl (HBZ.out _ hx5) (by simp [msgC]) rfl size_mes rfl ?_)
        intro w7 bx7 T7
        have hb7 : Below w.heap.size w w7 := (hb1.trans (hx5.mono hb1.size)).trans ((T7 (fun k => k = w.heap.size) rfl).below (fun k hk => by rw [hk]; exact Nat.le_refl _) (by have := hx5.size; have := hb1.size; omega))
        clear T7
        have HBX7 := Lib.hid bx7
        clear bx7
        go_wp2_with fail
        refine bodyPost_ret (v := .tuple #[msgV zeroM zeroA, .int .i64 1]) (mres _ _ w.heap.size zeroM zeroA 1 rfl rfl HBX7.out) rfl ⟨hb7, dec_none HNO.out rfl⟩
      | true =>
        have ev : okV true = 0 := rfl
        have HYES : Hid (decM (k :: f :: t :: b) n = some m) := by show decM _ n = some m; rw [dec_in HD.out rfl, if_pos hm]
        have HBX5 := Lib.hid (HBX4.out.below hb5 HBX4.out.1)
        have HI5 := Lib.hid (HI4.out.below hb5)
        clear hm hb5
        go_wp2_with (first
          | (refine wpList_load_box rfl 32 _ rfl w1.heap.size rfl (msgC m a4) HBX5.out _ Try.underlying32 rfl size_mes ?_)
          | (refine wpList_store_box rfl 32 _ _ rfl w.heap.size 0 (msgC m a4) (msgC zeroM zeroA) (msgC m a4) rfl rfl (HBZ.out _ hx5) (by simp [msgC]) rfl size_mes rfl ?_))
        intro w7 bx7 T7
        have T7 := T7 (fun k => k = w.heap.size) rfl
        have hb7 : Below w.heap.size w w7 := (hb1.trans (hx5.mono hb1.size)).trans (T7.below (fun k hk => by rw [hk]; exact Nat.le_refl _) (by have := hx5.size; have := hb1.size; omega))
        have hi7 : MsgIn w7 m a4 := HI5.out.touch T7 (fun k hk => by rw [hk]; have := HS1.out; omega) HP4.out
        have HBX7 := Lib.hid bx7
        have HI7 := Lib.hid hi7
        clear T7 bx7 hi7
        go_wp2_with fail
        refine bodyPost_ret (v := .tuple #[msgV m a4, .int .i64 0]) (mres _ _ w.heap.size m a4 0 rfl rfl HBX7.out) rfl ⟨hb7, dec_some HYES.out rfl HI7.out⟩
  · have hr3 : Rd w3 (some ⟨g, off + 3, none⟩) (u8s b) := by have h := HRB.out; rw [if_neg hcap, Option.map_some, Addr.add_lit] at h; exact (h.below hb1).below hx3
    have hg3 : ∀ a, (some (⟨g, off + 3, none⟩ : Addr)) = some a → a.block ≠ w1.heap.size := fun a ha => by cases ha; show g ≠ _; have := HS1.out; omega
    have hc3 : c - 3 ≤ maxLen := by have := HCM.out; omega
    go_upto_region 4 with fail
    rw [← HW3.out]
    go_wp2_with fail
    refine (readRest_any w1.heap.size k f t (some ⟨g, off + 3, none⟩) (c - 3) (l - 3) b w3 HBX3.out HB3.out hr3 HYB.out (by omega) hc3 (by omega) hg3).mono ?_
    rintro e w4 ⟨T4, hgot⟩
    have hx4 : Below w1.heap.size w1 w4 := hx3.trans (T4.below (fun k hk => by rw [hk]; exact Nat.le_refl _) hx3.size)
    cases hd : restD k f t b with
    | none =>
      rw [hd] at hgot
      simp only [ReadGot] at hgot
      subst hgot
      have HNO : Hid (decM (k :: f :: t :: b) n = none) := dec_out hd rfl
      clear hd T4
      go_wp2_with (refine wpList_store_box rfl 32 _ _ rfl w.heap.size 0 (msgC zeroM zeroA) (msgC zeroM zeroA) (msgC zeroM zeroA) rfl rfl (HBZ.out _ hx4) (by simp [msgC]) rfl size_mes rfl ?_)
      intro w7 bx7 T7
      have hb7 : Below w.heap.size w w7 := (hb1.trans (hx4.mono hb1.size)).trans ((T7 (fun k => k = w.heap.size) rfl).below (fun k hk => by rw [hk]; exact Nat.le_refl _) (by have := hx4.size; have := hb1.size; omega))
      clear T7
      have HBX7 := Lib.hid bx7
      clear bx7
      go_wp2_with fail
      refine bodyPost_ret (v := .tuple #[msgV zeroM zeroA, .int .i64 1]) (mres _ _ w.heap.size zeroM zeroA 1 rfl rfl HBX7.out) rfl ⟨hb7, dec_none HNO.out rfl⟩
    | some m =>
      rw [hd] at hgot
      obtain ⟨rfl, a4, bx4, hi4, hp4⟩ := hgot
      have HD := Lib.hid hd
      have HI4 := Lib.hid hi4
      have HP4 := Lib.hid hp4
      have HBX4 := Lib.hid bx4
      have HSM := Lib.hid (rest_fine HYK.out HYF.out HYT.out HYB.out hd)
      clear hd hi4 bx4 T4 hp4
      go_wp2_with (refine wpList_load_boxG 32 _ rfl w1.heap.size rfl rfl (msgC m a4) HBX4.out _ Try.underlying32 rfl size_mes ?_)
      refine (mcheck_is (messB m n) m a4 n _ rfl HI4.out HSM.out.ok (HSM.out.few HI4.out)).mono ?_
      rintro e w5 ⟨rfl, hb5⟩
      have hx5 : Below w1.heap.size w1 w5 := hx4.trans (hb5.mono hx4.size)
      cases hm : messB m n with
      | false =>
        have ev : okV false = 1 := rfl
        have HNO : Hid (decM (k :: f :: t :: b) n = none) := by show decM _ n = none; rw [dec_in HD.out rfl, hm]; rfl
        clear hm hb5
        go_wp2_with (refine wpList_store_box rfl 32 _ _ rfl w.heap.size 0 (msgC zeroM zeroA) (msgC zeroM zeroA) (msgC zeroM zeroA) rfl rfl (HBZ.out _ hx5) (by simp [msgC]) rfl size_mes rfl ?_)
        intro w7 bx7 T7
        have hb7 : Below w.heap.size w w7 := (hb1.trans (hx5.mono hb1.size)).trans ((T7 (fun k => k = w.heap.size) rfl).below (fun k hk => by rw [hk]; exact Nat.le_refl _) (by have := hx5.size; have := hb1.size; omega))
        clear T7
        have HBX7 := Lib.hid bx7
        clear bx7
        go_wp2_with fail
        refine bodyPost_ret (v := .tuple #[msgV zeroM zeroA, .int .i64 1]) (mres _ _ w.heap.size zeroM zeroA 1 rfl rfl HBX7.out) rfl ⟨hb7, dec_none HNO.out rfl⟩
      | true =>
        have ev : okV true = 0 := rfl
        have HYES : Hid (decM (k :: f :: t :: b) n = some m) := by show decM _ n = some m; rw [dec_in HD.out rfl, if_pos hm]
        have HBX5 := Lib.hid (HBX4.out.below hb5 HBX4.out.1)
        have HI5 := Lib.hid (HI4.out.below hb5)
        clear hm hb5
        go_wp2_with (first
          | (refine wpList_load_box rfl 32 _ rfl w1.heap.size rfl (msgC m a4) HBX5.out _ Try.underlying32 rfl size_mes ?_)
          | (refine wpList_store_box rfl 32 _ _ rfl w.heap.size 0 (msgC m a4) (msgC zeroM zeroA) (msgC m a4) rfl rfl (HBZ.out _ hx5) (by simp [msgC]) rfl size_mes rfl ?_))
        intro w7 bx7 T7
        have T7 := T7 (fun k => k = w.heap.size) rfl
        have hb7 : Below w.heap.size w w7 := (hb1.trans (hx5.mono hb1.size)).trans (T7.below (fun k hk => by rw [hk]; exact Nat.le_refl _) (by have := hx5.size; have := hb1.size; omega))
        have hi7 : MsgIn w7 m a4 := HI5.out.touch T7 (fun k hk => by rw [hk]; have := HS1.out; omega) HP4.out
        have HBX7 := Lib.hid bx7
        have HI7 := Lib.hid hi7
        clear T7 bx7 hi7
        go_wp2_with fail
        refine bodyPost_ret (v := .tuple #[msgV m a4, .int .i64 0]) (mres _ _ w.heap.size m a4 0 rfl rfl HBX7.out) rfl ⟨hb7, dec_some HYES.out rfl HI7.out⟩

theorem mdec_any (A : Option Addr) (c l : Nat) (x : List Int) (n : Int) (w : World) (hz : x.length = l) (hr : Rd w A (u8s x)) (hy : Byts x) (hc : l ≤ c) (hcm : c ≤ maxLen) (hl : l ≤ 1000000) :
    Calls Try.prog 23 #[.slice A l c, .int .i64 n] w fun e w' => Below w.heap.size w w' ∧ DecGot w' e (decM x n) := by
  by_cases h3 : l < 3
  · exact mdec_short A c l x n w hz h3
  · exact mdec_long A c l x n w hz hr hy hc hcm hl h3

end Go.Proofs.Ytafkcofocjellaa
