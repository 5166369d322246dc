/-
  Package message's Encode as landed.
-/
import Derived.Test.YtafkcofocjellaaMNums
import Derived.Test.YtafkcofocjellaaBBytes
namespace Go.Proofs.Ytafkcofocjellaa
open Go.RowKit

theorem Rd.touch {F : Nat → Prop} {w w' : World} {A : Option Addr} {xs : List Value} (h : Rd w A xs) (T : Touch F w w') (hn : ∀ a, A = some a → ¬ F a.block) : Rd w' A xs := h.kept T.size fun a ha hlt => T.block _ hlt (hn a ha)
theorem Rd.lies {w : World} {b off : Nat} {xs : List Value} (h : Rd w (some ⟨b, off, none⟩) xs) (hx : 0 < xs.length) : Lies w b off xs := by
  obtain ⟨b', off', e, hb, hc⟩ := h.open_ hx
  cases e
  exact ⟨hb, hc⟩
theorem own_list {w : World} {B : Nat} {e : TypeId} {v : Value} {n : Nat} {xs ys : List Value} (h : w.ownsRow B e 1 v n xs) (hx : xs = ys) : w.ownsRow B e 1 v ys.length ys := by
  subst hx
  exact own_cast h (by have := h.1; omega)
theorem own_plus {w : World} {B : Nat} {e : TypeId} {v : Value} {n j : Nat} {xs : List Value} {ys : List Int} (h : w.ownsRow B e 1 v (xs ++ u8s ys).length (xs ++ u8s ys)) (hx : xs.length = n) (hy : ys.length = j) : w.ownsRow B e 1 v (n + j) (xs ++ u8s ys) :=
  own_cast h (by rw [List.length_append, u8s_length, hx, hy])
theorem lies_old {wX : World} {A : Option Addr} {l : List Int} {n b off : Nat} (h : Rd wX A (i64s l)) (hA : A = some ⟨b, off, none⟩) (hz : l.length = n) (h0 : 0 < n) : Lies wX b off (i64s l) := by
  subst hA
  exact h.lies (by rw [i64s_length]; omega)

set_option maxRecDepth 100000 in
set_option maxHeartbeats 4000000 in
theorem menc_no (m : MsgD) (a : MsgA) (n : Int) (w : World) (h : messB m n = false) (hi : MsgIn w m a) (ho : MsgOk m) (hf : MsgFew 1000000 a) :
    Calls Try.prog 25 #[msgV m a, .int .i64 n] w (Tells w.heap.size w (.tuple #[.slice none 0 0, .int .i64 1])) := by
  obtain ⟨w1, hw1⟩ : ∃ w1, w1 = w.alloc (.cells #[.int .i64 m.k, .int .i64 m.f, .int .i64 m.t, .int .i64 m.d, .int .i64 m.ba, .int .i64 m.bn, .slice a.AL a.nL a.cL, .int .i64 m.ha, .int .i64 m.hr, .slice a.AhB a.nhB a.chB, .slice a.AhP a.nhP a.chP, .int .i64 m.ca, .int .i64 m.cr, .slice a.AcB a.ncB a.ccB, .slice a.AcP a.ncP a.ccP, .int .i64 m.cd, .slice a.AcS a.ncS a.ccS, .slice a.AD a.nD a.cD] 32) := ⟨_, rfl⟩
  have hb1 : Below w.heap.size w w1 := by rw [hw1]; exact (Below.refl _ _).alloc (Nat.le_refl _) _
  have bx1 : Box w1 w.heap.size (msgC m a) := by
    rw [hw1]
    exact box_new w (msgC m a) 32
  have HW := Lib.hid hw1
  have HX := Lib.hid bx1
  have HI : Hid (∀ wX, Below w.heap.size w wX → MsgIn wX m a) := fun wX h => hi.below h
  have HO := Lib.hid ho
  have HF := Lib.hid hf
  have HE := Lib.hid h
  clear hw1 bx1 hi ho hf h
  unfold msgV
  go_enter Try.func25, Try.ntmps25
  go_upto_region 1 with fail
  rw [← HW.out]
  go_wp2_with (refine wpList_load_box rfl 32 _ rfl w.heap.size rfl (msgC m a) HX.out _ Try.underlying32 rfl size_mes ?_)
  refine (mcheck_is false m a n _ HE.out (HI.out _ hb1) HO.out HF.out).mono ?_
  rintro e w2 ⟨rfl, hb2⟩
  have ev : okV false = 1 := rfl
  go_wp2_with fail
  go_ret2
  exact ⟨rfl, hb1.trans (hb2.mono hb1.size)⟩

set_option maxRecDepth 100000 in
set_option maxHeartbeats 16000000 in
theorem menc_yes (m : MsgD) (a : MsgA) (n : Int) (w : World) (h : messB m n = true) (hi : MsgIn w m a) (ho : MsgOk m) (hf : MsgFew 1000000 a) :
    Calls Try.prog 25 #[msgV m a, .int .i64 n] w (Made2 w.heap.size 5 w (u8s (encM m n)) (.int .i64 0)) := by
  obtain ⟨⟨hmay, hff, htt, _⟩, hform, _⟩ := mess_parts h
  have hn16 := may_le hmay
  have hkk := mess_kind hform
  have h3 : ∀ x ∈ [m.k, m.f, m.t], 0 ≤ x ∧ x < 1099511627777 := fun x hx => by
    simp only [List.mem_cons, List.not_mem_nil, or_false] at hx
    rcases hx with rfl | rfl | rfl <;> omega
  have HK3 := Lib.hid h3
  obtain ⟨w1, hw1⟩ : ∃ w1, w1 = w.alloc (.cells #[.int .i64 m.k, .int .i64 m.f, .int .i64 m.t, .int .i64 m.d, .int .i64 m.ba, .int .i64 m.bn, .slice a.AL a.nL a.cL, .int .i64 m.ha, .int .i64 m.hr, .slice a.AhB a.nhB a.chB, .slice a.AhP a.nhP a.chP, .int .i64 m.ca, .int .i64 m.cr, .slice a.AcB a.ncB a.ccB, .slice a.AcP a.ncP a.ccP, .int .i64 m.cd, .slice a.AcS a.ncS a.ccS, .slice a.AD a.nD a.cD] 32) := ⟨_, rfl⟩
  have hb1 : Below w.heap.size w w1 := by rw [hw1]; exact (Below.refl _ _).alloc (Nat.le_refl _) _
  have hs1 : w.heap.size < w1.heap.size := by rw [hw1]; simp
  have bx1 : Box w1 w.heap.size (msgC m a) := by
    rw [hw1]
    exact box_new w (msgC m a) 32
  have HW := Lib.hid hw1
  have HX : Hid (∀ wX, Below w1.heap.size w1 wX → Box wX w.heap.size (msgC m a)) := fun wX h => bx1.below h bx1.1
  have HI : Hid (∀ wX, Below w.heap.size w wX → MsgIn wX m a) := fun wX h => hi.below h
  have HI1 : Hid (∀ wX, Below w1.heap.size w1 wX → MsgIn wX m a) := fun wX h => hi.below (hb1.trans (h.mono hb1.size))
  have HO := Lib.hid ho
  have HF := Lib.hid hf
  have HE := Lib.hid h
  have HFM := Lib.hid hform
  have HKK := Lib.hid hkk
  clear hw1 bx1 hi ho hf h hform hmay hff htt hn16 hkk h3
  unfold msgV
  go_enter Try.func25, Try.ntmps25
  go_upto_region 1 with fail
  rw [← HW.out]
  go_wp2_with (refine wpList_load_box rfl 32 _ rfl w.heap.size rfl (msgC m a) (HX.out _ (Below.refl _ _)) _ Try.underlying32 rfl size_mes ?_)
  refine (mcheck_is true m a n _ HE.out (HI.out _ hb1) HO.out HF.out).mono ?_
  rintro e w2 ⟨rfl, hb2⟩
  have ev : okV true = 0 := rfl
  have x0 := ((HX.out _ hb2).2 0 _ rfl).1
  have x1 := ((HX.out _ hb2).2 1 _ rfl).1
  have x2 := ((HX.out _ hb2).2 2 _ rfl).1
  go_wp2_with fail
  refine (appendNums_any w1.heap.size (.slice none 0 0) 0 [] 1 sz_one 1 rfl w2.heap.size 0 3 3 [m.k, m.f, m.t] _ (World.ownsRow_nil _ _ _ _) (by omega) rfl (by omega) (lies_new w2 (i64s [m.k, m.f, m.t]) 3) (own_not_at (World.ownsRow_nil w2 w1.heap.size 5 1)) HK3.out (by have := hb2.size; simp; omega)).mono ?_
  rintro e w3 ⟨v3, rfl, ho3, hb3, _, _⟩
  have hx3 : Below w1.heap.size w1 w3 := (hb2.alloc hb2.size _).trans hb3
  have ho3 := own_plus (xs := []) (n := 0) (j := 3) ho3 rfl (by rw [bes_length]; rfl)
  have HO3 := Lib.hid ho3
  clear x0 x1 x2 ev ho3 hb3 hb2
  have x0 := ((HX.out _ hx3).2 0 _ rfl).1
  go_upto_region 6 with fail
  clear x0
  by_cases hk : m.k = 1
  · have e1 : (m.k == 1) = true := by simp [hk]
    have e3 : (m.k == 3) = false := by simp [hk]
    have e2 : (m.k == 2) = false := by simp [hk]
    have e5 : (m.k == 5) = false := by simp [hk]
    have e4 : (m.k == 4) = false := by simp [hk]
    have e6 : (m.k == 6) = false := by simp [hk]
    have e7 : (m.k == 7) = false := by simp [hk]
    have e8 : (m.k == 8) = false := by simp [hk]
    have HFO : Hid ((digB m.d && (batB m.ba m.bn m.L && decide (m.ba ≤ n))) = true) := by show _ = true; rw [← HFM.out]; unfold formB; simp [hk]
    have HR : Hid (encM m n = bes 1 [m.k, m.f, m.t] ++ (be 3 m.d ++ batBytes m.ba m.bn m.L)) := by show encM m n = _; unfold encM restE; simp [hk]
    clear hk
    have hd : digB m.d = true := by have := HFO.out; simp only [Bool.and_eq_true] at this; exact this.1
    have hd2 := digB_top hd
    rw [top_three] at hd2
    clear hd
    have hbt : batB m.ba m.bn m.L = true := by have := HFO.out; simp only [Bool.and_eq_true] at this; exact this.2.1
    have HBT := Lib.hid hbt
    have hsm := bytes_small hbt
    obtain ⟨nb, hnb⟩ : ∃ nb, (batBytes m.ba m.bn m.L).length = nb := ⟨_, rfl⟩
    rw [hnb] at hsm
    have HNB := Lib.hid hnb
    clear hnb hbt
    have x4 := ((HX.out _ hx3).2 4 _ rfl).1
    have x5 := ((HX.out _ hx3).2 5 _ rfl).1
    have x6 := ((HX.out _ hx3).2 6 _ rfl).1
    go_wp2_with fail
    have qi := HI1.out _ hx3
    refine (bbytes_yes m.ba m.bn a.AL a.cL a.nL m.L _ HBT.out qi.zL qi.rL qi.kL).mono ?_
    rintro e w4 ⟨v4, rfl, ho4, hb4⟩
    have ho4b := own_cast ho4 ((u8s_length _).trans HNB.out)
    obtain ⟨A4, c4, rfl, _, _, hr4, hA4, _⟩ := own_val ho4b
    have hx4 : Below w1.heap.size w1 w4 := hx3.trans (hb4.mono hx3.size)
    have HO4 : Hid (w4.ownsRow w1.heap.size 5 1 v3 (0 + 3) ([] ++ u8s (bes 1 [m.k, m.f, m.t]))) := own_below HO3.out hb4
    have HR4 : Hid (Rd w4 A4 (u8s (batBytes m.ba m.bn m.L))) := hr4
    have HF4 : Hid (∀ a, A4 = some a → ¬ Own v3 a.block) := fun a ha hf => by have := hA4 a ha; have := (HO3.out.lt _ hf).2; omega
    clear ho4 ho4b hr4 qi hb4 x4 x5 x6
    clear hA4
    have x3 := ((HX.out _ hx4).2 3 _ rfl).1
    go_wp2_with fail
    refine (appendNums_any w1.heap.size v3 (0 + 3) _ 3 sz_three 3 rfl w4.heap.size 0 1 1 [m.d] _ (HO4.out.alloc _) (by omega) rfl (by omega) (lies_new w4 (i64s [m.d]) 3) (own_not_at HO4.out) (fun x hx => by rw [List.mem_singleton.1 hx]; omega) (by have := hx4.size; simp; omega)).mono ?_
    rintro e w5 ⟨v5, rfl, ho5, hb5, ht5, hv5⟩
    have HR5 : Hid (Rd w5 A4 (u8s (batBytes m.ba m.bn m.L))) := (HR4.out.alloc _).touch ht5 HF4.out
    have ho5 := own_plus (n := 0 + 3) (j := 3) ho5 (by rw [List.nil_append, u8s_length, bes_length]; rfl) (by rw [bes_length]; rfl)
    have HO5 := Lib.hid ho5
    have hx5 : Below w1.heap.size w1 w5 := (hx4.alloc hx4.size _).trans hb5
    clear ho5 hb5 ht5 hv5 x3
    go_wp2_with (at_builtin; refine wpList_app_list _ rfl _ _ 33 rfl w1.heap.size 5 (.int .u8 0) 1 Try.underlying33 info_u8 rfl (by decide) v5 (0 + 3 + 3) _ rfl HO5.out A4 nb c4 (u8s (batBytes m.ba m.bn m.L)) rfl ((u8s_length _).trans HNB.out).symm HR5.out (u8s_one _) (by omega) hx5.size ?_)
    intro v7 w7 ho7 hb7
    have hx7 : Below w1.heap.size w1 w7 := hx5.trans hb7
    have hfin := own_more (own_list (ys := u8s (encM m n)) ho7 (by rw [HR.out]; simp [u8s_append, bes])) hb1.size
    have HFIN := Lib.hid hfin
    clear hfin ho7
    go_wp2_with fail
    go_ret2
    exact ⟨_, rfl, HFIN.out, hb1.trans (hx7.mono hb1.size)⟩
  have n1 := Lib.hid hk
  clear hk
  by_cases hk : m.k = 3
  · have e1 : (m.k == 1) = false := by simp [hk]
    have e3 : (m.k == 3) = true := by simp [hk]
    have e2 : (m.k == 2) = false := by simp [hk]
    have e5 : (m.k == 5) = false := by simp [hk]
    have e4 : (m.k == 4) = false := by simp [hk]
    have e6 : (m.k == 6) = false := by simp [hk]
    have e7 : (m.k == 7) = false := by simp [hk]
    have e8 : (m.k == 8) = false := by simp [hk]
    have HFO : Hid ((digB m.d && (batB m.ba m.bn m.L && decide (m.ba ≤ n))) = true) := by show _ = true; rw [← HFM.out]; unfold formB; simp [hk]
    have HR : Hid (encM m n = bes 1 [m.k, m.f, m.t] ++ (be 3 m.d ++ batBytes m.ba m.bn m.L)) := by show encM m n = _; unfold encM restE; simp [hk]
    clear hk
    have hd : digB m.d = true := by have := HFO.out; simp only [Bool.and_eq_true] at this; exact this.1
    have hd2 := digB_top hd
    rw [top_three] at hd2
    clear hd
    have hbt : batB m.ba m.bn m.L = true := by have := HFO.out; simp only [Bool.and_eq_true] at this; exact this.2.1
    have HBT := Lib.hid hbt
    have hsm := bytes_small hbt
    obtain ⟨nb, hnb⟩ : ∃ nb, (batBytes m.ba m.bn m.L).length = nb := ⟨_, rfl⟩
    rw [hnb] at hsm
    have HNB := Lib.hid hnb
    clear hnb hbt
    have x4 := ((HX.out _ hx3).2 4 _ rfl).1
    have x5 := ((HX.out _ hx3).2 5 _ rfl).1
    have x6 := ((HX.out _ hx3).2 6 _ rfl).1
    go_wp2_with fail
    have qi := HI1.out _ hx3
    refine (bbytes_yes m.ba m.bn a.AL a.cL a.nL m.L _ HBT.out qi.zL qi.rL qi.kL).mono ?_
    rintro e w4 ⟨v4, rfl, ho4, hb4⟩
    have ho4b := own_cast ho4 ((u8s_length _).trans HNB.out)
    obtain ⟨A4, c4, rfl, _, _, hr4, hA4, _⟩ := own_val ho4b
    have hx4 : Below w1.heap.size w1 w4 := hx3.trans (hb4.mono hx3.size)
    have HO4 : Hid (w4.ownsRow w1.heap.size 5 1 v3 (0 + 3) ([] ++ u8s (bes 1 [m.k, m.f, m.t]))) := own_below HO3.out hb4
    have HR4 : Hid (Rd w4 A4 (u8s (batBytes m.ba m.bn m.L))) := hr4
    have HF4 : Hid (∀ a, A4 = some a → ¬ Own v3 a.block) := fun a ha hf => by have := hA4 a ha; have := (HO3.out.lt _ hf).2; omega
    clear ho4 ho4b hr4 qi hb4 x4 x5 x6
    clear hA4
    have x3 := ((HX.out _ hx4).2 3 _ rfl).1
    go_wp2_with fail
    refine (appendNums_any w1.heap.size v3 (0 + 3) _ 3 sz_three 3 rfl w4.heap.size 0 1 1 [m.d] _ (HO4.out.alloc _) (by omega) rfl (by omega) (lies_new w4 (i64s [m.d]) 3) (own_not_at HO4.out) (fun x hx => by rw [List.mem_singleton.1 hx]; omega) (by have := hx4.size; simp; omega)).mono ?_
    rintro e w5 ⟨v5, rfl, ho5, hb5, ht5, hv5⟩
    have HR5 : Hid (Rd w5 A4 (u8s (batBytes m.ba m.bn m.L))) := (HR4.out.alloc _).touch ht5 HF4.out
    have ho5 := own_plus (n := 0 + 3) (j := 3) ho5 (by rw [List.nil_append, u8s_length, bes_length]; rfl) (by rw [bes_length]; rfl)
    have HO5 := Lib.hid ho5
    have hx5 : Below w1.heap.size w1 w5 := (hx4.alloc hx4.size _).trans hb5
    clear ho5 hb5 ht5 hv5 x3
    go_wp2_with (at_builtin; refine wpList_app_list _ rfl _ _ 33 rfl w1.heap.size 5 (.int .u8 0) 1 Try.underlying33 info_u8 rfl (by decide) v5 (0 + 3 + 3) _ rfl HO5.out A4 nb c4 (u8s (batBytes m.ba m.bn m.L)) rfl ((u8s_length _).trans HNB.out).symm HR5.out (u8s_one _) (by omega) hx5.size ?_)
    intro v7 w7 ho7 hb7
    have hx7 : Below w1.heap.size w1 w7 := hx5.trans hb7
    have hfin := own_more (own_list (ys := u8s (encM m n)) ho7 (by rw [HR.out]; simp [u8s_append, bes])) hb1.size
    have HFIN := Lib.hid hfin
    clear hfin ho7
    go_wp2_with fail
    go_ret2
    exact ⟨_, rfl, HFIN.out, hb1.trans (hx7.mono hb1.size)⟩
  have n3 := Lib.hid hk
  clear hk
  by_cases hk : m.k = 2
  · have e1 : (m.k == 1) = false := by simp [hk]
    have e3 : (m.k == 3) = false := by simp [hk]
    have e2 : (m.k == 2) = true := by simp [hk]
    have e5 : (m.k == 5) = false := by simp [hk]
    have e4 : (m.k == 4) = false := by simp [hk]
    have e6 : (m.k == 6) = false := by simp [hk]
    have e7 : (m.k == 7) = false := by simp [hk]
    have e8 : (m.k == 8) = false := by simp [hk]
    have HFO : Hid ((digB m.d) = true) := by show _ = true; rw [← HFM.out]; unfold formB; simp [hk]
    have HR : Hid (encM m n = bes 1 [m.k, m.f, m.t] ++ (be 3 m.d)) := by show encM m n = _; unfold encM restE; simp [hk]
    clear hk
    have hd : digB m.d = true := HFO.out
    have hd2 := digB_top hd
    rw [top_three] at hd2
    clear hd
    have x3 := ((HX.out _ hx3).2 3 _ rfl).1
    go_wp2_with fail
    refine (appendNums_any w1.heap.size v3 (0 + 3) _ 3 sz_three 3 rfl w3.heap.size 0 1 1 [m.d] _ (HO3.out.alloc _) (by omega) rfl (by omega) (lies_new w3 (i64s [m.d]) 3) (own_not_at HO3.out) (fun x hx => by rw [List.mem_singleton.1 hx]; omega) (by have := hx3.size; simp; omega)).mono ?_
    rintro e w5 ⟨v5, rfl, ho5, hb5, _, _⟩
    have hx7 : Below w1.heap.size w1 w5 := (hx3.alloc hx3.size _).trans hb5
    clear x3
    have hfin := own_more (own_list (ys := u8s (encM m n)) ho5 (by rw [HR.out]; simp [u8s_append, bes])) hb1.size
    have HFIN := Lib.hid hfin
    clear hfin ho5
    go_wp2_with fail
    go_ret2
    exact ⟨_, rfl, HFIN.out, hb1.trans (hx7.mono hb1.size)⟩
  have n2 := Lib.hid hk
  clear hk
  by_cases hk : m.k = 5
  · have e1 : (m.k == 1) = false := by simp [hk]
    have e3 : (m.k == 3) = false := by simp [hk]
    have e2 : (m.k == 2) = false := by simp [hk]
    have e5 : (m.k == 5) = true := by simp [hk]
    have e4 : (m.k == 4) = false := by simp [hk]
    have e6 : (m.k == 6) = false := by simp [hk]
    have e7 : (m.k == 7) = false := by simp [hk]
    have e8 : (m.k == 8) = false := by simp [hk]
    have HFO : Hid ((digB m.d) = true) := by show _ = true; rw [← HFM.out]; unfold formB; simp [hk]
    have HR : Hid (encM m n = bes 1 [m.k, m.f, m.t] ++ (be 3 m.d)) := by show encM m n = _; unfold encM restE; simp [hk]
    clear hk
    have hd : digB m.d = true := HFO.out
    have hd2 := digB_top hd
    rw [top_three] at hd2
    clear hd
    have x3 := ((HX.out _ hx3).2 3 _ rfl).1
    go_wp2_with fail
    refine (appendNums_any w1.heap.size v3 (0 + 3) _ 3 sz_three 3 rfl w3.heap.size 0 1 1 [m.d] _ (HO3.out.alloc _) (by omega) rfl (by omega) (lies_new w3 (i64s [m.d]) 3) (own_not_at HO3.out) (fun x hx => by rw [List.mem_singleton.1 hx]; omega) (by have := hx3.size; simp; omega)).mono ?_
    rintro e w5 ⟨v5, rfl, ho5, hb5, _, _⟩
    have hx7 : Below w1.heap.size w1 w5 := (hx3.alloc hx3.size _).trans hb5
    clear x3
    have hfin := own_more (own_list (ys := u8s (encM m n)) ho5 (by rw [HR.out]; simp [u8s_append, bes])) hb1.size
    have HFIN := Lib.hid hfin
    clear hfin ho5
    go_wp2_with fail
    go_ret2
    exact ⟨_, rfl, HFIN.out, hb1.trans (hx7.mono hb1.size)⟩
  have n5 := Lib.hid hk
  clear hk
  by_cases hk : m.k = 4
  · have e1 : (m.k == 1) = false := by simp [hk]
    have e3 : (m.k == 3) = false := by simp [hk]
    have e2 : (m.k == 2) = false := by simp [hk]
    have e5 : (m.k == 5) = false := by simp [hk]
    have e4 : (m.k == 4) = true := by simp [hk]
    have e6 : (m.k == 6) = false := by simp [hk]
    have e7 : (m.k == 7) = false := by simp [hk]
    have e8 : (m.k == 8) = false := by simp [hk]
    have HFO : Hid ((digB m.d && (hdrB m.ha m.hr m.hB m.hP n && decide (m.ha = m.f))) = true) := by show _ = true; rw [← HFM.out]; unfold formB; simp [hk]
    have HR : Hid (encM m n = bes 1 [m.k, m.f, m.t] ++ (be 3 m.d ++ headBytes m.ha m.hr m.hB m.hP)) := by show encM m n = _; unfold encM restE; simp [hk]
    clear hk
    have hd : digB m.d = true := by have := HFO.out; simp only [Bool.and_eq_true] at this; exact this.1
    have hd2 := digB_top hd
    rw [top_three] at hd2
    clear hd
    have hbt : wideB m.ha m.hr m.hB m.hP = true := by have := HFO.out; simp only [Bool.and_eq_true] at this; exact hdr_wide this.2.1
    have HBT := Lib.hid hbt
    have hsm := head_small hbt
    obtain ⟨nb, hnb⟩ : ∃ nb, (headBytes m.ha m.hr m.hB m.hP).length = nb := ⟨_, rfl⟩
    rw [hnb] at hsm
    have HNB := Lib.hid hnb
    clear hnb hbt
    have x7 := ((HX.out _ hx3).2 7 _ rfl).1
    have x8 := ((HX.out _ hx3).2 8 _ rfl).1
    have x9 := ((HX.out _ hx3).2 9 _ rfl).1
    have x10 := ((HX.out _ hx3).2 10 _ rfl).1
    go_wp2_with fail
    have qi := (HI1.out _ hx3).hdr HO.out HF.out
    refine (hbytes_yes m.ha m.hr a.AhB a.chB a.nhB m.hB a.AhP a.chP a.nhP m.hP _ HBT.out qi).mono ?_
    rintro e w4 ⟨v4, rfl, ho4, hb4⟩
    have ho4b := own_cast ho4 ((u8s_length _).trans HNB.out)
    obtain ⟨A4, c4, rfl, _, _, hr4, hA4, _⟩ := own_val ho4b
    have hx4 : Below w1.heap.size w1 w4 := hx3.trans (hb4.mono hx3.size)
    have HO4 : Hid (w4.ownsRow w1.heap.size 5 1 v3 (0 + 3) ([] ++ u8s (bes 1 [m.k, m.f, m.t]))) := own_below HO3.out hb4
    have HR4 : Hid (Rd w4 A4 (u8s (headBytes m.ha m.hr m.hB m.hP))) := hr4
    have HF4 : Hid (∀ a, A4 = some a → ¬ Own v3 a.block) := fun a ha hf => by have := hA4 a ha; have := (HO3.out.lt _ hf).2; omega
    clear ho4 ho4b hr4 qi hb4 x7 x8 x9 x10
    clear hA4
    have x3 := ((HX.out _ hx4).2 3 _ rfl).1
    go_wp2_with fail
    refine (appendNums_any w1.heap.size v3 (0 + 3) _ 3 sz_three 3 rfl w4.heap.size 0 1 1 [m.d] _ (HO4.out.alloc _) (by omega) rfl (by omega) (lies_new w4 (i64s [m.d]) 3) (own_not_at HO4.out) (fun x hx => by rw [List.mem_singleton.1 hx]; omega) (by have := hx4.size; simp; omega)).mono ?_
    rintro e w5 ⟨v5, rfl, ho5, hb5, ht5, hv5⟩
    have HR5 : Hid (Rd w5 A4 (u8s (headBytes m.ha m.hr m.hB m.hP))) := (HR4.out.alloc _).touch ht5 HF4.out
    have ho5 := own_plus (n := 0 + 3) (j := 3) ho5 (by rw [List.nil_append, u8s_length, bes_length]; rfl) (by rw [bes_length]; rfl)
    have HO5 := Lib.hid ho5
    have hx5 : Below w1.heap.size w1 w5 := (hx4.alloc hx4.size _).trans hb5
    clear ho5 hb5 ht5 hv5 x3
    go_wp2_with (at_builtin; refine wpList_app_list _ rfl _ _ 33 rfl w1.heap.size 5 (.int .u8 0) 1 Try.underlying33 info_u8 rfl (by decide) v5 (0 + 3 + 3) _ rfl HO5.out A4 nb c4 (u8s (headBytes m.ha m.hr m.hB m.hP)) rfl ((u8s_length _).trans HNB.out).symm HR5.out (u8s_one _) (by omega) hx5.size ?_)
    intro v7 w7 ho7 hb7
    have hx7 : Below w1.heap.size w1 w7 := hx5.trans hb7
    have hfin := own_more (own_list (ys := u8s (encM m n)) ho7 (by rw [HR.out]; simp [u8s_append, bes])) hb1.size
    have HFIN := Lib.hid hfin
    clear hfin ho7
    go_wp2_with fail
    go_ret2
    exact ⟨_, rfl, HFIN.out, hb1.trans (hx7.mono hb1.size)⟩
  have n4 := Lib.hid hk
  clear hk
  by_cases hk : m.k = 6
  · have e1 : (m.k == 1) = false := by simp [hk]
    have e3 : (m.k == 3) = false := by simp [hk]
    have e2 : (m.k == 2) = false := by simp [hk]
    have e5 : (m.k == 5) = false := by simp [hk]
    have e4 : (m.k == 4) = false := by simp [hk]
    have e6 : (m.k == 6) = true := by simp [hk]
    have e7 : (m.k == 7) = false := by simp [hk]
    have e8 : (m.k == 8) = false := by simp [hk]
    have HFO : Hid ((certB m.ca m.cr m.cB m.cP m.cd m.cS n) = true) := by show _ = true; rw [← HFM.out]; unfold formB; simp [hk]
    have HR : Hid (encM m n = bes 1 [m.k, m.f, m.t] ++ (be 3 m.cd ++ (putL 1 m.cS ++ headBytes m.ca m.cr m.cB m.cP))) := by show encM m n = _; unfold encM restE; simp [hk]
    clear hk
    obtain ⟨hc1, hc2, hc3, hc4⟩ := cert_parts HFO.out
    have hd2 := digB_top hc2
    rw [top_three] at hd2
    have hbt := hdr_wide hc1
    have HBT := Lib.hid hbt
    have hsm := head_small hbt
    have hc5 : 0 < m.cS.length := by
      have h5 := HFO.out
      simp only [certB, decide_eq_true_eq] at h5
      have h6 := may_le (hcheck_in h5.1)
      have h7 := h5.2.2.2.2
      unfold quoN at h7
      omega
    have hz5 := (HI1.out _ (Below.refl _ _)).zcS
    obtain ⟨bS, oS, hAS, hbS, _⟩ := (HI.out _ (Below.refl _ _)).rcS.open_ (by rw [i64s_length]; exact hc5)
    have hsig : ∀ x ∈ m.cS, 0 ≤ x ∧ x < 1099511627777 := fun x hx => by have := hc3 x hx; rw [top_one] at this; omega
    have HSG := Lib.hid hsig
    have HAS := Lib.hid hAS
    have HZ5 := Lib.hid hz5
    have hn5 : a.ncS ≤ 16 ∧ 0 < a.ncS := by omega
    clear hc1 hc2 hc3 hc4 hc5 hAS hsig hz5
    obtain ⟨nb, hnb⟩ : ∃ nb, (headBytes m.ca m.cr m.cB m.cP).length = nb := ⟨_, rfl⟩
    rw [hnb] at hsm
    have HNB := Lib.hid hnb
    clear hnb hbt
    have x11 := ((HX.out _ hx3).2 11 _ rfl).1
    have x12 := ((HX.out _ hx3).2 12 _ rfl).1
    have x13 := ((HX.out _ hx3).2 13 _ rfl).1
    have x14 := ((HX.out _ hx3).2 14 _ rfl).1
    go_wp2_with fail
    have qi := (HI1.out _ hx3).chdr HO.out HF.out
    refine (hbytes_yes m.ca m.cr a.AcB a.ccB a.ncB m.cB a.AcP a.ccP a.ncP m.cP _ HBT.out qi).mono ?_
    rintro e w4 ⟨v4, rfl, ho4, hb4⟩
    have ho4b := own_cast ho4 ((u8s_length _).trans HNB.out)
    obtain ⟨A4, c4, rfl, _, _, hr4, hA4, _⟩ := own_val ho4b
    have hx4 : Below w1.heap.size w1 w4 := hx3.trans (hb4.mono hx3.size)
    have HO4 : Hid (w4.ownsRow w1.heap.size 5 1 v3 (0 + 3) ([] ++ u8s (bes 1 [m.k, m.f, m.t]))) := own_below HO3.out hb4
    have HR4 : Hid (Rd w4 A4 (u8s (headBytes m.ca m.cr m.cB m.cP))) := hr4
    have HF4 : Hid (∀ a, A4 = some a → ¬ Own v3 a.block) := fun a ha hf => by have := hA4 a ha; have := (HO3.out.lt _ hf).2; omega
    clear ho4 ho4b hr4 qi hb4 x11 x12 x13 x14
    have HA4 : Hid (∀ a, A4 = some a → w3.heap.size ≤ a.block) := hA4
    clear hA4
    have x15 := ((HX.out _ hx4).2 15 _ rfl).1
    go_wp2_with fail
    refine (appendNums_any w1.heap.size v3 (0 + 3) _ 3 sz_three 3 rfl w4.heap.size 0 1 1 [m.cd] _ (HO4.out.alloc _) (by omega) rfl (by omega) (lies_new w4 (i64s [m.cd]) 3) (own_not_at HO4.out) (fun x hx => by rw [List.mem_singleton.1 hx]; omega) (by have := hx4.size; simp; omega)).mono ?_
    rintro e w5 ⟨v5, rfl, ho5, hb5, ht5, hv5⟩
    have HR5 : Hid (Rd w5 A4 (u8s (headBytes m.ca m.cr m.cB m.cP))) := (HR4.out.alloc _).touch ht5 HF4.out
    have ho5 := own_plus (n := 0 + 3) (j := 3) ho5 (by rw [List.nil_append, u8s_length, bes_length]; rfl) (by rw [bes_length]; rfl)
    have HO5 := Lib.hid ho5
    have hx5 : Below w1.heap.size w1 w5 := (hx4.alloc hx4.size _).trans hb5
    have HF5 : Hid (∀ a, A4 = some a → ¬ Own v5 a.block) := fun a ha hf => by
      rcases hv5 _ hf with h | h
      · exact HF4.out a ha h
      · have h6 : a.block < w4.heap.size := by
          obtain ⟨b, off, e, hl, _⟩ := HR4.out.open_ (by rw [u8s_length, HNB.out]; have := HNB.out; have := headBytes_pos m.ca m.cr m.cB m.cP; omega)
          rw [ha] at e
          cases e
          exact hl
        simp at h
        omega
    clear ho5 hb5 ht5 hv5 x15
    have x16 := ((HX.out _ hx5).2 16 _ rfl).1
    rw [HAS.out] at x16
    go_wp2_with fail
    refine (appendList_any w1.heap.size v5 (0 + 3 + 3) _ 1 sz_one 1 rfl bS oS a.ccS a.ncS m.cS _ HO5.out (by omega) HZ5.out (by omega) (lies_old (HI1.out _ hx5).rcS HAS.out HZ5.out hn5.2) (by omega) HSG.out hx5.size).mono ?_
    rintro e w6 ⟨v6, rfl, ho6, hb6, ht6, hv6⟩
    have HR6 : Hid (Rd w6 A4 (u8s (headBytes m.ca m.cr m.cB m.cP))) := HR5.out.touch ht6 HF5.out
    have ho6 := own_plus (n := 0 + 3 + 3) (j := 1 + 1 * a.ncS) ho6 (by rw [List.length_append, List.nil_append, u8s_length, bes_length, u8s_length, bes_length]; rfl) (by rw [putL_length, HZ5.out])
    have HO6 := Lib.hid ho6
    have hx6 : Below w1.heap.size w1 w6 := hx5.trans hb6
    clear ho6 hb6 ht6 hv6 x16
    go_wp2_with (at_builtin; refine wpList_app_list _ rfl _ _ 33 rfl w1.heap.size 5 (.int .u8 0) 1 Try.underlying33 info_u8 rfl (by decide) v6 (0 + 3 + 3 + (1 + 1 * a.ncS)) _ rfl HO6.out A4 nb c4 (u8s (headBytes m.ca m.cr m.cB m.cP)) rfl ((u8s_length _).trans HNB.out).symm HR6.out (u8s_one _) (by omega) hx6.size ?_)
    intro v7 w7 ho7 hb7
    have hx7 : Below w1.heap.size w1 w7 := hx6.trans hb7
    have hfin := own_more (own_list (ys := u8s (encM m n)) ho7 (by rw [HR.out]; simp [u8s_append, bes])) hb1.size
    have HFIN := Lib.hid hfin
    clear hfin ho7
    go_wp2_with fail
    go_ret2
    exact ⟨_, rfl, HFIN.out, hb1.trans (hx7.mono hb1.size)⟩
  have n6 := Lib.hid hk
  clear hk
  by_cases hk : m.k = 7
  · have e1 : (m.k == 1) = false := by simp [hk]
    have e3 : (m.k == 3) = false := by simp [hk]
    have e2 : (m.k == 2) = false := by simp [hk]
    have e5 : (m.k == 5) = false := by simp [hk]
    have e4 : (m.k == 4) = false := by simp [hk]
    have e6 : (m.k == 6) = false := by simp [hk]
    have e7 : (m.k == 7) = true := by simp [hk]
    have e8 : (m.k == 8) = false := by simp [hk]
    have HFO : Hid ((wantB m.D) = true) := by show _ = true; rw [← HFM.out]; unfold formB; simp [hk, wantB]
    have HR : Hid (encM m n = bes 1 [m.k, m.f, m.t] ++ (putL 3 m.D)) := by show encM m n = _; unfold encM restE; simp [hk]
    clear hk
    have hw1 : 1 ≤ m.D.length ∧ digsB m.D 16 = true := by have := HFO.out; unfold wantB at this; rw [Bool.and_eq_true, decide_eq_true_eq] at this; exact this
    have hl5 := (digsB_iff.1 hw1.2).1
    have hz5 := (HI1.out _ (Below.refl _ _)).zD
    obtain ⟨bS, oS, hAS, hbS, _⟩ := (HI.out _ (Below.refl _ _)).rD.open_ (by rw [i64s_length]; exact hw1.1)
    have hsig : ∀ x ∈ m.D, 0 ≤ x ∧ x < 1099511627777 := fun x hx => by have := digs_top hw1.2 x hx; rw [top_three] at this; omega
    have HSG := Lib.hid hsig
    have HAS := Lib.hid hAS
    have HZ5 := Lib.hid hz5
    have hn5 : a.nD ≤ 16 ∧ 0 < a.nD := by omega
    clear hw1 hl5 hAS hsig hz5
    have x17 := ((HX.out _ hx3).2 17 _ rfl).1
    rw [HAS.out] at x17
    go_wp2_with fail
    refine (appendList_any w1.heap.size v3 (0 + 3) _ 3 sz_three 3 rfl bS oS a.cD a.nD m.D _ HO3.out (by omega) HZ5.out (by omega) (lies_old (HI1.out _ hx3).rD HAS.out HZ5.out hn5.2) (by omega) HSG.out hx3.size).mono ?_
    rintro e w5 ⟨v5, rfl, ho5, hb5, _, _⟩
    have hx7 : Below w1.heap.size w1 w5 := hx3.trans hb5
    clear x17
    have hfin := own_more (own_list (ys := u8s (encM m n)) ho5 (by rw [HR.out]; simp [u8s_append, bes])) hb1.size
    have HFIN := Lib.hid hfin
    clear hfin ho5
    go_wp2_with fail
    go_ret2
    exact ⟨_, rfl, HFIN.out, hb1.trans (hx7.mono hb1.size)⟩
  have n7 := Lib.hid hk
  clear hk
  by_cases hk : m.k = 8
  · have e1 : (m.k == 1) = false := by simp [hk]
    have e3 : (m.k == 3) = false := by simp [hk]
    have e2 : (m.k == 2) = false := by simp [hk]
    have e5 : (m.k == 5) = false := by simp [hk]
    have e4 : (m.k == 4) = false := by simp [hk]
    have e6 : (m.k == 6) = false := by simp [hk]
    have e7 : (m.k == 7) = false := by simp [hk]
    have e8 : (m.k == 8) = true := by simp [hk]
    have HFO : Hid ((wantB m.D) = true) := by show _ = true; rw [← HFM.out]; unfold formB; simp [hk, wantB]
    have HR : Hid (encM m n = bes 1 [m.k, m.f, m.t] ++ (putL 3 m.D)) := by show encM m n = _; unfold encM restE; simp [hk]
    clear hk
    have hw1 : 1 ≤ m.D.length ∧ digsB m.D 16 = true := by have := HFO.out; unfold wantB at this; rw [Bool.and_eq_true, decide_eq_true_eq] at this; exact this
    have hl5 := (digsB_iff.1 hw1.2).1
    have hz5 := (HI1.out _ (Below.refl _ _)).zD
    obtain ⟨bS, oS, hAS, hbS, _⟩ := (HI.out _ (Below.refl _ _)).rD.open_ (by rw [i64s_length]; exact hw1.1)
    have hsig : ∀ x ∈ m.D, 0 ≤ x ∧ x < 1099511627777 := fun x hx => by have := digs_top hw1.2 x hx; rw [top_three] at this; omega
    have HSG := Lib.hid hsig
    have HAS := Lib.hid hAS
    have HZ5 := Lib.hid hz5
    have hn5 : a.nD ≤ 16 ∧ 0 < a.nD := by omega
    clear hw1 hl5 hAS hsig hz5
    have x17 := ((HX.out _ hx3).2 17 _ rfl).1
    rw [HAS.out] at x17
    go_wp2_with fail
    refine (appendList_any w1.heap.size v3 (0 + 3) _ 3 sz_three 3 rfl bS oS a.cD a.nD m.D _ HO3.out (by omega) HZ5.out (by omega) (lies_old (HI1.out _ hx3).rD HAS.out HZ5.out hn5.2) (by omega) HSG.out hx3.size).mono ?_
    rintro e w5 ⟨v5, rfl, ho5, hb5, _, _⟩
    have hx7 : Below w1.heap.size w1 w5 := hx3.trans hb5
    clear x17
    have hfin := own_more (own_list (ys := u8s (encM m n)) ho5 (by rw [HR.out]; simp [u8s_append, bes])) hb1.size
    have HFIN := Lib.hid hfin
    clear hfin ho5
    go_wp2_with fail
    go_ret2
    exact ⟨_, rfl, HFIN.out, hb1.trans (hx7.mono hb1.size)⟩
  have n8 := Lib.hid hk
  clear hk
  exfalso
  have := HKK.out
  have h1 := n1.out
  have h2 := n2.out
  have h3 := n3.out
  have h4 := n4.out
  have h5 := n5.out
  have h6 := n6.out
  have h7 := n7.out
  have h8 := n8.out
  omega

end Go.Proofs.Ytafkcofocjellaa
