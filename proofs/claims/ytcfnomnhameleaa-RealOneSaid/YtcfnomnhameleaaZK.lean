/-
  Package real as landed: isReal, Check.
-/
import Derived.Test.YtcfnomnhameleaaRCode
import Derived.Test.YtcfnomnhameleaaRRealAll
import Derived.Test.YtcfnomnhameleaaMForm
import Derived.Test.YtcfnomnhameleaaBBytes
import Derived.Test.YtcfnomnhameleaaHPut
import Derived.Test.YtcfnomnhameleaaRWakes
import Derived.Test.YtcfnomnhameleaaZH
namespace Go.Proofs.Ytcfnomnhameleaa
open Go.RowKit

theorem IsBook.below {w w' : World} {g : Nat} {F : Nat → Prop} {L : List (List Int)} {S : List (Int × Int)} (h : IsBook w g F L S) (hb : Below w.heap.size w w') : IsBook w' g F L S := h.kept hb.size fun k hk => hb.block k (h.lt k hk)
theorem allBy_one (S : List (Int × Int)) (l : List Int) (d x : Int) : allBy S l d [x] = byB S l x d := by simp [allBy]
theorem betw_one (x hi : Int) (h : 1 ≤ x) : betwB [x] 1 hi = decide (x ≤ hi) := by
  unfold betwB
  rw [List.all_cons, List.all_nil, Bool.and_true, decide_eq_decide]
  omega
theorem form_dig {m : MsgD} {n : Int} (h : formB m n = true) (h6 : m.k ≠ 6) (h7 : m.k ≠ 7) (h8 : m.k ≠ 8) : 1 ≤ m.d := by
  unfold formB at h
  by_cases h1 : m.k = 1 ∨ m.k = 3
  · rw [if_pos h1, Bool.and_eq_true] at h
    have := h.1
    simp only [digB, decide_eq_true_eq] at this
    omega
  rw [if_neg h1] at h
  by_cases h2 : m.k = 2 ∨ m.k = 5
  · rw [if_pos h2] at h
    simp only [digB, decide_eq_true_eq] at h
    omega
  rw [if_neg h2] at h
  by_cases h4 : m.k = 4
  · rw [if_pos h4, Bool.and_eq_true] at h
    have := h.1
    simp only [digB, decide_eq_true_eq] at this
    omega
  rw [if_neg h4, if_neg h6, if_neg (by rintro (h | h); exact h7 h; exact h8 h)] at h
  cases h
theorem form_cert {m : MsgD} {n : Int} (h : formB m n = true) (h6 : m.k = 6) : certB m.ca m.cr m.cB m.cP m.cd m.cS n = true := by
  unfold formB at h
  rw [if_neg (by omega), if_neg (by omega), if_neg (by omega), if_pos h6] at h
  exact h
theorem book_given {F : Nat → Prop} {w w' : World} {g B n : Nat} {L : List (List Int)} {S : List (Int × Int)} {v : Value} {x : List Int} (h : IsBook w g F L S) (hB : w.heap.size ≤ B) (ho : w'.ownsRow B 5 1 v n (u8s x)) (hy : Byts x) (hn : n ≤ 1000000) : ∃ A c, v = .slice A n c ∧ Given w' F A c n x := by
  obtain ⟨A, c, rfl, h1, h2, h3, h4, h5⟩ := own_val ho
  exact ⟨A, c, rfl, by rw [← h5, u8s_length], h3, hy, h1, h2, hn, fun a ha _ hf => by have := h.lt _ hf; have := h4 a ha; omega⟩

set_option maxRecDepth 100000 in
set_option maxHeartbeats 16000000 in
theorem isReal_is (b : Bool) {F : Nat → Prop} (g : Nat) (L : List (List Int)) (S : List (Int × Int)) (A : Option Addr) (c nl : Nat) (l : List Int) (m : MsgD) (a : MsgA) (n : Int) (w : World) (h : IsBook w g F L S) (hb : okR L S l m = b) (hm : messB m n = true) (hi : MsgIn w m a) (ho : MsgOk m) (hf : MsgFew 1000000 a)
    (hz : l.length = nl) (hr : Rd w A (i64s l)) (hnl : nl ≤ 1000000) (hS : S.length ≤ 1000) (hL : L.length ≤ 1000) :
    Calls Try.prog 44 #[.pointer (some ⟨g, 0, none⟩), .slice A nl c, msgV m a] w (Tells w.heap.size w (.bool b)) := by
  obtain ⟨w1, hw1⟩ : ∃ w1, w1 = w.alloc (.cells #[.int .i64 m.k, .int .i64 m.f, .int .i64 m.t, .int .i64 m.d, .int .i64 m.ba, .int .i64 m.bn, .slice a.AL a.nL a.cL, .int .i64 m.ha, .int .i64 m.hr, .slice a.AhB a.nhB a.chB, .slice a.AhP a.nhP a.chP, .int .i64 m.ca, .int .i64 m.cr, .slice a.AcB a.ncB a.ccB, .slice a.AcP a.ncP a.ccP, .int .i64 m.cd, .slice a.AcS a.ncS a.ccS, .slice a.AD a.nD a.cD] 42) := ⟨_, rfl⟩
  have hb1 : Below w.heap.size w w1 := by rw [hw1]; exact (Below.refl _ _).alloc (Nat.le_refl _) _
  have bx1 : Box w1 w.heap.size (msgC m a) := by
    rw [hw1]
    exact box_new w (msgC m a) 42
  have HW := Lib.hid hw1
  have HX : Hid (∀ wX, Below w1.heap.size w1 wX → Box wX w.heap.size (msgC m a)) := fun wX h => bx1.below h bx1.1
  have HI : Hid (∀ wX, Below w1.heap.size w1 wX → MsgIn wX m a) := fun wX h => hi.below (hb1.trans (h.mono hb1.size))
  have HR : Hid (∀ wX, Below w1.heap.size w1 wX → IsBook wX g F L S) := fun wX hX => h.below (hb1.trans (hX.mono hb1.size))
  have HLI : Hid (∀ wX, Below w1.heap.size w1 wX → Rd wX A (i64s l)) := fun wX hX => hr.below (hb1.trans (hX.mono hb1.size))
  have HF := Lib.hid hf
  have HZ := Lib.hid hz
  have HO := Lib.hid ho
  have HV := Lib.hid hb
  have HFO := Lib.hid (mess_formR hm)
  clear hw1 bx1 hi hf h hr hz hb hm ho
  unfold msgV
  go_enter Try.func44, Try.ntmps44
  go_upto_region 1 with fail
  rw [← HW.out]
  have x0 := ((HX.out _ (Below.refl _ _)).2 0 _ rfl).1
  go_upto_region 2 with fail
  clear x0
  by_cases hk : m.k = 1
  · have e1 : (m.k == 1) = true := by simp [hk]
    have e3 : (m.k == 3) = false := by simp [hk]
    have e4 : (m.k == 4) = false := by simp [hk]
    have e6 : (m.k == 6) = false := by simp [hk]
    have e2 : (m.k == 2) = false := by simp [hk]
    have e5 : (m.k == 5) = false := by simp [hk]
    have e7 : (m.k == 7) = false := by simp [hk]
    have e8 : (m.k == 8) = false := by simp [hk]
    have HOK : Hid (b = (decide (((findB L (batBytes m.ba m.bn m.L) : Nat) : Int) = m.d) && byB S l m.ba m.d)) := by show b = _; rw [← HV.out]; unfold okR; simp [hk]
    have hbt : batB m.ba m.bn m.L = true := by have h := HFO.out; unfold formB at h; rw [if_pos (.inl hk)] at h; simp only [Bool.and_eq_true] at h; exact h.2.1
    have h1d : 1 ≤ m.d := form_dig HFO.out (by omega) (by omega) (by omega)
    have HBT := Lib.hid hbt
    have H1D := Lib.hid h1d
    have hsm := bytes_small hbt
    obtain ⟨bs, hbs⟩ : ∃ bs, bs = batBytes m.ba m.bn m.L := ⟨_, rfl⟩
    rw [← hbs] at hsm HOK
    obtain ⟨nb, hnb⟩ : ∃ nb, bs.length = nb := ⟨_, rfl⟩
    rw [hnb] at hsm
    have HNB := Lib.hid hnb
    have HBS := Lib.hid hbs
    clear hk hbt hnb hbs h1d
    have x4 := ((HX.out _ (Below.refl _ _)).2 4 _ rfl).1
    have x5 := ((HX.out _ (Below.refl _ _)).2 5 _ rfl).1
    have x6 := ((HX.out _ (Below.refl _ _)).2 6 _ rfl).1
    have qi := HI.out _ (Below.refl _ _)
    go_wp2_with fail
    refine (bbytes_yes m.ba m.bn a.AL a.cL a.nL m.L _ HBT.out qi.zL qi.rL qi.kL).mono ?_
    rintro e w2 ⟨v2, rfl, ho2, hq2⟩
    rw [← HBS.out] at ho2
    have ho2b := own_cast ho2 ((u8s_length _).trans HNB.out)
    have hby : Byts bs := by rw [HBS.out]; exact batBytes_byts _ _ _
    obtain ⟨A2, c2, rfl, hG⟩ := book_given (HR.out _ (Below.refl _ _)) (Nat.le_refl _) ho2b hby (by omega)
    have HG := Lib.hid hG
    clear qi ho2 ho2b hby hG x4 x5 x6
    have x3 := ((HX.out _ (hq2)).2 3 _ rfl).1
    have x4 := ((HX.out _ (hq2)).2 4 _ rfl).1
    go_wp2_with fail
    refine (isOf_is (decide (((findB L bs : Nat) : Int) = m.d)) g L S m.d A2 c2 nb bs _ (HR.out _ hq2) HG.out H1D.out rfl).mono ?_
    rintro e w3 ⟨rfl, k3, hw3⟩
    have hq3 : Below w1.heap.size w1 w3 := by rw [hw3]; exact below_n hq2 k3
    clear hw3 x3 x4
    cases hfd : decide (((findB L bs : Nat) : Int) = m.d) with
    | false =>
      have HN : Hid (b = false) := by show b = false; rw [HOK.out, hfd, Bool.false_and]
      clear hfd
      go_wp2_with fail
      go_ret
      exact ⟨ret_bool (HN.out.symm), hb1.trans (hq3.mono hb1.size)⟩
    | true =>
      have HOK2 : Hid (b = byB S l m.ba m.d) := by show b = _; rw [HOK.out, hfd, Bool.true_and]
      clear hfd
      have x3 := ((HX.out _ (hq3)).2 3 _ rfl).1
      have x4 := ((HX.out _ (hq3)).2 4 _ rfl).1
      have HA := Lib.hid (hq3.alloc (show w1.heap.size ≤ w3.heap.size from hq3.size) (.cells #[.int .i64 m.ba] 3))
      have HRD := Lib.hid (rd_new w3 [.int .i64 m.ba] 3)
      go_wp2_with fail
      refine (haveSigned_is (byB S l m.ba m.d) g L S A c nl l m.d _ _ 1 [m.ba] _ (HR.out _ HA.out) (allBy_one _ _ _ _) HZ.out (HLI.out _ HA.out) hnl rfl HRD.out (by omega) hL hS).mono ?_
      rintro e w9 ⟨rfl, hw9⟩
      have hq9 : Below w1.heap.size w1 w9 := by rw [← hw9]; exact HA.out
      clear hw9
      go_wp2_with fail
      go_ret
      exact ⟨ret_bool (HOK2.out.symm), hb1.trans (hq9.mono hb1.size)⟩
  have n1 := Lib.hid hk
  clear hk
  by_cases hk : m.k = 3
  · have e1 : (m.k == 1) = false := by simp [hk]
    have e3 : (m.k == 3) = true := by simp [hk]
    have e4 : (m.k == 4) = false := by simp [hk]
    have e6 : (m.k == 6) = false := by simp [hk]
    have e2 : (m.k == 2) = false := by simp [hk]
    have e5 : (m.k == 5) = false := by simp [hk]
    have e7 : (m.k == 7) = false := by simp [hk]
    have e8 : (m.k == 8) = false := by simp [hk]
    have HOK : Hid (b = (decide (((findB L (batBytes m.ba m.bn m.L) : Nat) : Int) = m.d) && byB S l m.ba m.d)) := by show b = _; rw [← HV.out]; unfold okR; simp [hk]
    have hbt : batB m.ba m.bn m.L = true := by have h := HFO.out; unfold formB at h; rw [if_pos (.inr hk)] at h; simp only [Bool.and_eq_true] at h; exact h.2.1
    have h1d : 1 ≤ m.d := form_dig HFO.out (by omega) (by omega) (by omega)
    have HBT := Lib.hid hbt
    have H1D := Lib.hid h1d
    have hsm := bytes_small hbt
    obtain ⟨bs, hbs⟩ : ∃ bs, bs = batBytes m.ba m.bn m.L := ⟨_, rfl⟩
    rw [← hbs] at hsm HOK
    obtain ⟨nb, hnb⟩ : ∃ nb, bs.length = nb := ⟨_, rfl⟩
    rw [hnb] at hsm
    have HNB := Lib.hid hnb
    have HBS := Lib.hid hbs
    clear hk hbt hnb hbs h1d
    have x4 := ((HX.out _ (Below.refl _ _)).2 4 _ rfl).1
    have x5 := ((HX.out _ (Below.refl _ _)).2 5 _ rfl).1
    have x6 := ((HX.out _ (Below.refl _ _)).2 6 _ rfl).1
    have qi := HI.out _ (Below.refl _ _)
    go_wp2_with fail
    refine (bbytes_yes m.ba m.bn a.AL a.cL a.nL m.L _ HBT.out qi.zL qi.rL qi.kL).mono ?_
    rintro e w2 ⟨v2, rfl, ho2, hq2⟩
    rw [← HBS.out] at ho2
    have ho2b := own_cast ho2 ((u8s_length _).trans HNB.out)
    have hby : Byts bs := by rw [HBS.out]; exact batBytes_byts _ _ _
    obtain ⟨A2, c2, rfl, hG⟩ := book_given (HR.out _ (Below.refl _ _)) (Nat.le_refl _) ho2b hby (by omega)
    have HG := Lib.hid hG
    clear qi ho2 ho2b hby hG x4 x5 x6
    have x3 := ((HX.out _ (hq2)).2 3 _ rfl).1
    have x4 := ((HX.out _ (hq2)).2 4 _ rfl).1
    go_wp2_with fail
    refine (isOf_is (decide (((findB L bs : Nat) : Int) = m.d)) g L S m.d A2 c2 nb bs _ (HR.out _ hq2) HG.out H1D.out rfl).mono ?_
    rintro e w3 ⟨rfl, k3, hw3⟩
    have hq3 : Below w1.heap.size w1 w3 := by rw [hw3]; exact below_n hq2 k3
    clear hw3 x3 x4
    cases hfd : decide (((findB L bs : Nat) : Int) = m.d) with
    | false =>
      have HN : Hid (b = false) := by show b = false; rw [HOK.out, hfd, Bool.false_and]
      clear hfd
      go_wp2_with fail
      go_ret
      exact ⟨ret_bool (HN.out.symm), hb1.trans (hq3.mono hb1.size)⟩
    | true =>
      have HOK2 : Hid (b = byB S l m.ba m.d) := by show b = _; rw [HOK.out, hfd, Bool.true_and]
      clear hfd
      have x3 := ((HX.out _ (hq3)).2 3 _ rfl).1
      have x4 := ((HX.out _ (hq3)).2 4 _ rfl).1
      have HA := Lib.hid (hq3.alloc (show w1.heap.size ≤ w3.heap.size from hq3.size) (.cells #[.int .i64 m.ba] 3))
      have HRD := Lib.hid (rd_new w3 [.int .i64 m.ba] 3)
      go_wp2_with fail
      refine (haveSigned_is (byB S l m.ba m.d) g L S A c nl l m.d _ _ 1 [m.ba] _ (HR.out _ HA.out) (allBy_one _ _ _ _) HZ.out (HLI.out _ HA.out) hnl rfl HRD.out (by omega) hL hS).mono ?_
      rintro e w9 ⟨rfl, hw9⟩
      have hq9 : Below w1.heap.size w1 w9 := by rw [← hw9]; exact HA.out
      clear hw9
      go_wp2_with fail
      go_ret
      exact ⟨ret_bool (HOK2.out.symm), hb1.trans (hq9.mono hb1.size)⟩
  have n3 := Lib.hid hk
  clear hk
  by_cases hk : m.k = 2
  · have e1 : (m.k == 1) = false := by simp [hk]
    have e3 : (m.k == 3) = false := by simp [hk]
    have e4 : (m.k == 4) = false := by simp [hk]
    have e6 : (m.k == 6) = false := by simp [hk]
    have e2 : (m.k == 2) = true := by simp [hk]
    have e5 : (m.k == 5) = false := by simp [hk]
    have e7 : (m.k == 7) = false := by simp [hk]
    have e8 : (m.k == 8) = false := by simp [hk]
    have HOK : Hid (b = (decide (m.d ≤ (L.length : Int)))) := by show b = _; rw [← HV.out]; unfold okR; simp [hk]
    have h1d : 1 ≤ m.d := form_dig HFO.out (by omega) (by omega) (by omega)
    have H1D := Lib.hid h1d
    clear hk h1d
    have x3 := ((HX.out _ (Below.refl _ _)).2 3 _ rfl).1
    have HA := Lib.hid ((Below.refl w1.heap.size w1).alloc (Nat.le_refl _) (.cells #[.int .i64 m.d] 3))
    have HRD := Lib.hid (rd_new w1 [.int .i64 m.d] 3)
    go_wp2_with fail
    refine (areThere_is (betwB [m.d] 1 (L.length : Int)) g L S _ _ 1 [m.d] _ (HR.out _ HA.out) rfl rfl HRD.out (by omega)).mono ?_
    rintro e w2 ⟨rfl, hw2⟩
    have hq2 : Below w1.heap.size w1 w2 := by rw [← hw2]; exact HA.out
    clear hw2 x3
    rw [betw_one _ _ H1D.out]
    go_wp2_with fail
    go_ret
    exact ⟨ret_bool (HOK.out.symm), hb1.trans (hq2.mono hb1.size)⟩
  have n2 := Lib.hid hk
  clear hk
  by_cases hk : m.k = 5
  · have e1 : (m.k == 1) = false := by simp [hk]
    have e3 : (m.k == 3) = false := by simp [hk]
    have e4 : (m.k == 4) = false := by simp [hk]
    have e6 : (m.k == 6) = false := by simp [hk]
    have e2 : (m.k == 2) = false := by simp [hk]
    have e5 : (m.k == 5) = true := by simp [hk]
    have e7 : (m.k == 7) = false := by simp [hk]
    have e8 : (m.k == 8) = false := by simp [hk]
    have HOK : Hid (b = (decide (m.d ≤ (L.length : Int)) && byB S l m.f m.d)) := by show b = _; rw [← HV.out]; unfold okR; simp [hk]
    have h1d : 1 ≤ m.d := form_dig HFO.out (by omega) (by omega) (by omega)
    have H1D := Lib.hid h1d
    clear hk h1d
    have x3 := ((HX.out _ (Below.refl _ _)).2 3 _ rfl).1
    have HA := Lib.hid ((Below.refl w1.heap.size w1).alloc (Nat.le_refl _) (.cells #[.int .i64 m.d] 3))
    have HRD := Lib.hid (rd_new w1 [.int .i64 m.d] 3)
    go_wp2_with fail
    refine (areThere_is (betwB [m.d] 1 (L.length : Int)) g L S _ _ 1 [m.d] _ (HR.out _ HA.out) rfl rfl HRD.out (by omega)).mono ?_
    rintro e w2 ⟨rfl, hw2⟩
    have hq2 : Below w1.heap.size w1 w2 := by rw [← hw2]; exact HA.out
    clear hw2 x3
    rw [betw_one _ _ H1D.out]
    cases hfd : decide (m.d ≤ (L.length : Int)) with
    | false =>
      have HN : Hid (b = false) := by show b = false; rw [HOK.out, hfd, Bool.false_and]
      clear hfd
      go_wp2_with fail
      go_ret
      exact ⟨ret_bool (HN.out.symm), hb1.trans (hq2.mono hb1.size)⟩
    | true =>
      have HOK2 : Hid (b = byB S l m.f m.d) := by show b = _; rw [HOK.out, hfd, Bool.true_and]
      clear hfd
      have x3 := ((HX.out _ (hq2)).2 3 _ rfl).1
      have x1 := ((HX.out _ (hq2)).2 1 _ rfl).1
      have HA := Lib.hid (hq2.alloc (show w1.heap.size ≤ w2.heap.size from hq2.size) (.cells #[.int .i64 m.f] 3))
      have HRD := Lib.hid (rd_new w2 [.int .i64 m.f] 3)
      go_wp2_with fail
      refine (haveSigned_is (byB S l m.f m.d) g L S A c nl l m.d _ _ 1 [m.f] _ (HR.out _ HA.out) (allBy_one _ _ _ _) HZ.out (HLI.out _ HA.out) hnl rfl HRD.out (by omega) hL hS).mono ?_
      rintro e w9 ⟨rfl, hw9⟩
      have hq9 : Below w1.heap.size w1 w9 := by rw [← hw9]; exact HA.out
      clear hw9
      go_wp2_with fail
      go_ret
      exact ⟨ret_bool (HOK2.out.symm), hb1.trans (hq9.mono hb1.size)⟩
  have n5 := Lib.hid hk
  clear hk
  by_cases hk : m.k = 4
  · have e1 : (m.k == 1) = false := by simp [hk]
    have e3 : (m.k == 3) = false := by simp [hk]
    have e4 : (m.k == 4) = true := by simp [hk]
    have e6 : (m.k == 6) = false := by simp [hk]
    have e2 : (m.k == 2) = false := by simp [hk]
    have e5 : (m.k == 5) = false := by simp [hk]
    have e7 : (m.k == 7) = false := by simp [hk]
    have e8 : (m.k == 8) = false := by simp [hk]
    have HOK : Hid (b = (decide (((findB L (headBytes m.ha m.hr m.hB m.hP) : Nat) : Int) = m.d) && byB S l m.f m.d)) := by show b = _; rw [← HV.out]; unfold okR; simp [hk]
    have hbt : wideB m.ha m.hr m.hB m.hP = true := by have h := HFO.out; unfold formB at h; rw [if_neg (by omega), if_neg (by omega), if_pos hk] at h; simp only [Bool.and_eq_true] at h; exact hdr_wideR h.2.1
    have h1d : 1 ≤ m.d := form_dig HFO.out (by omega) (by omega) (by omega)
    have HBT := Lib.hid hbt
    have H1D := Lib.hid h1d
    have hsm := head_small hbt
    obtain ⟨bs, hbs⟩ : ∃ bs, bs = headBytes m.ha m.hr m.hB m.hP := ⟨_, rfl⟩
    rw [← hbs] at hsm HOK
    obtain ⟨nb, hnb⟩ : ∃ nb, bs.length = nb := ⟨_, rfl⟩
    rw [hnb] at hsm
    have HNB := Lib.hid hnb
    have HBS := Lib.hid hbs
    clear hk hbt hnb hbs h1d
    have x7 := ((HX.out _ (Below.refl _ _)).2 7 _ rfl).1
    have x8 := ((HX.out _ (Below.refl _ _)).2 8 _ rfl).1
    have x9 := ((HX.out _ (Below.refl _ _)).2 9 _ rfl).1
    have x10 := ((HX.out _ (Below.refl _ _)).2 10 _ rfl).1
    have qi := HI.out _ (Below.refl _ _)
    go_wp2_with fail
    refine (hbytes_yes m.ha m.hr a.AhB a.chB a.nhB m.hB a.AhP a.chP a.nhP m.hP _ HBT.out ⟨⟨qi.zhB, qi.rhB, qi.khB, qi.xhB, HO.out.whB⟩, ⟨qi.zhP, qi.rhP, qi.khP, qi.xhP, HO.out.whP⟩, HF.out.shB, HF.out.shP⟩).mono ?_
    rintro e w2 ⟨v2, rfl, ho2, hq2⟩
    rw [← HBS.out] at ho2
    have ho2b := own_cast ho2 ((u8s_length _).trans HNB.out)
    have hby : Byts bs := by rw [HBS.out]; exact headBytes_byts _ _ _ _
    obtain ⟨A2, c2, rfl, hG⟩ := book_given (HR.out _ (Below.refl _ _)) (Nat.le_refl _) ho2b hby (by omega)
    have HG := Lib.hid hG
    clear qi ho2 ho2b hby hG x7 x8 x9 x10
    have x3 := ((HX.out _ (hq2)).2 3 _ rfl).1
    have x1 := ((HX.out _ (hq2)).2 1 _ rfl).1
    go_wp2_with fail
    refine (isOf_is (decide (((findB L bs : Nat) : Int) = m.d)) g L S m.d A2 c2 nb bs _ (HR.out _ hq2) HG.out H1D.out rfl).mono ?_
    rintro e w3 ⟨rfl, k3, hw3⟩
    have hq3 : Below w1.heap.size w1 w3 := by rw [hw3]; exact below_n hq2 k3
    clear hw3 x3 x1
    cases hfd : decide (((findB L bs : Nat) : Int) = m.d) with
    | false =>
      have HN : Hid (b = false) := by show b = false; rw [HOK.out, hfd, Bool.false_and]
      clear hfd
      go_wp2_with fail
      go_ret
      exact ⟨ret_bool (HN.out.symm), hb1.trans (hq3.mono hb1.size)⟩
    | true =>
      have HOK2 : Hid (b = byB S l m.f m.d) := by show b = _; rw [HOK.out, hfd, Bool.true_and]
      clear hfd
      have x3 := ((HX.out _ (hq3)).2 3 _ rfl).1
      have x1 := ((HX.out _ (hq3)).2 1 _ rfl).1
      have HA := Lib.hid (hq3.alloc (show w1.heap.size ≤ w3.heap.size from hq3.size) (.cells #[.int .i64 m.f] 3))
      have HRD := Lib.hid (rd_new w3 [.int .i64 m.f] 3)
      go_wp2_with fail
      refine (haveSigned_is (byB S l m.f m.d) g L S A c nl l m.d _ _ 1 [m.f] _ (HR.out _ HA.out) (allBy_one _ _ _ _) HZ.out (HLI.out _ HA.out) hnl rfl HRD.out (by omega) hL hS).mono ?_
      rintro e w9 ⟨rfl, hw9⟩
      have hq9 : Below w1.heap.size w1 w9 := by rw [← hw9]; exact HA.out
      clear hw9
      go_wp2_with fail
      go_ret
      exact ⟨ret_bool (HOK2.out.symm), hb1.trans (hq9.mono hb1.size)⟩
  have n4 := Lib.hid hk
  clear hk
  by_cases hk : m.k = 6
  · have e1 : (m.k == 1) = false := by simp [hk]
    have e3 : (m.k == 3) = false := by simp [hk]
    have e4 : (m.k == 4) = false := by simp [hk]
    have e6 : (m.k == 6) = true := by simp [hk]
    have e2 : (m.k == 2) = false := by simp [hk]
    have e5 : (m.k == 5) = false := by simp [hk]
    have e7 : (m.k == 7) = false := by simp [hk]
    have e8 : (m.k == 8) = false := by simp [hk]
    have HOK : Hid (b = (decide (((findB L (headBytes m.ca m.cr m.cB m.cP) : Nat) : Int) = m.cd) && allBy S l m.cd m.cS)) := by show b = _; rw [← HV.out]; unfold okR; simp [hk]
    have hct := form_cert HFO.out hk
    have hbt : wideB m.ca m.cr m.cB m.cP = true := by simp only [certB, decide_eq_true_eq] at hct; exact hdr_wideR hct.1
    have h1d : 1 ≤ m.cd := by simp only [certB, decide_eq_true_eq] at hct; exact hct.2.1.1
    have HBT := Lib.hid hbt
    have H1D := Lib.hid h1d
    have hsm := head_small hbt
    obtain ⟨bs, hbs⟩ : ∃ bs, bs = headBytes m.ca m.cr m.cB m.cP := ⟨_, rfl⟩
    rw [← hbs] at hsm HOK
    obtain ⟨nb, hnb⟩ : ∃ nb, bs.length = nb := ⟨_, rfl⟩
    rw [hnb] at hsm
    have HNB := Lib.hid hnb
    have HBS := Lib.hid hbs
    clear hk hbt hnb hbs h1d hct
    have x11 := ((HX.out _ (Below.refl _ _)).2 11 _ rfl).1
    have x12 := ((HX.out _ (Below.refl _ _)).2 12 _ rfl).1
    have x13 := ((HX.out _ (Below.refl _ _)).2 13 _ rfl).1
    have x14 := ((HX.out _ (Below.refl _ _)).2 14 _ rfl).1
    have qi := HI.out _ (Below.refl _ _)
    go_wp2_with fail
    refine (hbytes_yes m.ca m.cr a.AcB a.ccB a.ncB m.cB a.AcP a.ccP a.ncP m.cP _ HBT.out ⟨⟨qi.zcB, qi.rcB, qi.kcB, qi.xcB, HO.out.wcB⟩, ⟨qi.zcP, qi.rcP, qi.kcP, qi.xcP, HO.out.wcP⟩, HF.out.scB, HF.out.scP⟩).mono ?_
    rintro e w2 ⟨v2, rfl, ho2, hq2⟩
    rw [← HBS.out] at ho2
    have ho2b := own_cast ho2 ((u8s_length _).trans HNB.out)
    have hby : Byts bs := by rw [HBS.out]; exact headBytes_byts _ _ _ _
    obtain ⟨A2, c2, rfl, hG⟩ := book_given (HR.out _ (Below.refl _ _)) (Nat.le_refl _) ho2b hby (by omega)
    have HG := Lib.hid hG
    clear qi ho2 ho2b hby hG x11 x12 x13 x14
    have x15 := ((HX.out _ (hq2)).2 15 _ rfl).1
    have x16 := ((HX.out _ (hq2)).2 16 _ rfl).1
    go_wp2_with fail
    refine (isOf_is (decide (((findB L bs : Nat) : Int) = m.cd)) g L S m.cd A2 c2 nb bs _ (HR.out _ hq2) HG.out H1D.out rfl).mono ?_
    rintro e w3 ⟨rfl, k3, hw3⟩
    have hq3 : Below w1.heap.size w1 w3 := by rw [hw3]; exact below_n hq2 k3
    clear hw3 x15 x16
    cases hfd : decide (((findB L bs : Nat) : Int) = m.cd) with
    | false =>
      have HN : Hid (b = false) := by show b = false; rw [HOK.out, hfd, Bool.false_and]
      clear hfd
      go_wp2_with fail
      go_ret
      exact ⟨ret_bool (HN.out.symm), hb1.trans (hq3.mono hb1.size)⟩
    | true =>
      have HOK2 : Hid (b = allBy S l m.cd m.cS) := by show b = _; rw [HOK.out, hfd, Bool.true_and]
      clear hfd
      have x15 := ((HX.out _ (hq3)).2 15 _ rfl).1
      have x16 := ((HX.out _ (hq3)).2 16 _ rfl).1
      go_wp2_with fail
      refine (haveSigned_is (allBy S l m.cd m.cS) g L S A c nl l m.cd a.AcS a.ccS a.ncS m.cS _ (HR.out _ hq3) rfl HZ.out (HLI.out _ hq3) hnl (HI.out _ hq3).zcS (HI.out _ hq3).rcS (by have := HF.out.scS; omega) hL hS).mono ?_
      rintro e w' ⟨rfl, rfl⟩
      go_wp2_with fail
      go_ret
      exact ⟨ret_bool (HOK2.out.symm), hb1.trans (hq3.mono hb1.size)⟩
  have n6 := Lib.hid hk
  clear hk
  by_cases hk : m.k = 7
  · have e1 : (m.k == 1) = false := by simp [hk]
    have e3 : (m.k == 3) = false := by simp [hk]
    have e4 : (m.k == 4) = false := by simp [hk]
    have e6 : (m.k == 6) = false := by simp [hk]
    have e2 : (m.k == 2) = false := by simp [hk]
    have e5 : (m.k == 5) = false := by simp [hk]
    have e7 : (m.k == 7) = true := by simp [hk]
    have e8 : (m.k == 8) = false := by simp [hk]
    have HOK : Hid (b = (betwB m.D 1 (L.length : Int))) := by show b = _; rw [← HV.out]; unfold okR; simp [hk]
    clear hk
    have x17 := ((HX.out _ (Below.refl _ _)).2 17 _ rfl).1
    go_wp2_with fail
    refine (areThere_is (betwB m.D 1 (L.length : Int)) g L S a.AD a.cD a.nD m.D _ (HR.out _ (Below.refl _ _)) rfl (HI.out _ (Below.refl _ _)).zD (HI.out _ (Below.refl _ _)).rD (by have := HF.out.sD; omega)).mono ?_
    rintro e w' ⟨rfl, rfl⟩
    go_wp2_with fail
    go_ret
    exact ⟨ret_bool (HOK.out.symm), hb1⟩
  have n7 := Lib.hid hk
  clear hk
  by_cases hk : m.k = 8
  · have e1 : (m.k == 1) = false := by simp [hk]
    have e3 : (m.k == 3) = false := by simp [hk]
    have e4 : (m.k == 4) = false := by simp [hk]
    have e6 : (m.k == 6) = false := by simp [hk]
    have e2 : (m.k == 2) = false := by simp [hk]
    have e5 : (m.k == 5) = false := by simp [hk]
    have e7 : (m.k == 7) = false := by simp [hk]
    have e8 : (m.k == 8) = true := by simp [hk]
    have HOK : Hid (b = (betwB m.D 1 (L.length : Int))) := by show b = _; rw [← HV.out]; unfold okR; simp [hk]
    clear hk
    have x17 := ((HX.out _ (Below.refl _ _)).2 17 _ rfl).1
    go_wp2_with fail
    refine (areThere_is (betwB m.D 1 (L.length : Int)) g L S a.AD a.cD a.nD m.D _ (HR.out _ (Below.refl _ _)) rfl (HI.out _ (Below.refl _ _)).zD (HI.out _ (Below.refl _ _)).rD (by have := HF.out.sD; omega)).mono ?_
    rintro e w' ⟨rfl, rfl⟩
    go_wp2_with fail
    go_ret
    exact ⟨ret_bool (HOK.out.symm), hb1⟩
  have n8 := Lib.hid hk
  clear hk
  exfalso
  have h := HFO.out
  unfold formB at h
  rw [if_neg (by rintro (h | h); exact n1.out h; exact n3.out h), if_neg (by rintro (h | h); exact n2.out h; exact n5.out h), if_neg n4.out, if_neg n6.out, if_neg (by rintro (h | h); exact n7.out h; exact n8.out h)] at h
  cases h

set_option maxRecDepth 100000 in
set_option maxHeartbeats 16000000 in
theorem rcheck_is (v : Int) {F : Nat → Prop} (g : Nat) (L : List (List Int)) (S : List (Int × Int)) (A : Option Addr) (c nl : Nat) (l : List Int) (m : MsgD) (a : MsgA) (n : Int) (w : World) (h : IsBook w g F L S) (hv : realR L S n l m = v) (hi : MsgIn w m a) (ho : MsgOk m) (hf : MsgFew 1000000 a)
    (hz : l.length = nl) (hr : Rd w A (i64s l)) (hnl : nl ≤ 1000000) (hS : S.length ≤ 1000) (hL : L.length ≤ 1000) :
    Calls Try.prog 23 #[.pointer (some ⟨g, 0, none⟩), .int .i64 n, .slice A nl c, msgV m a] w (Tells w.heap.size w (.int .i64 v)) := by
  obtain ⟨w1, hw1⟩ : ∃ w1, w1 = w.alloc (.cells #[.int .i64 m.k, .int .i64 m.f, .int .i64 m.t, .int .i64 m.d, .int .i64 m.ba, .int .i64 m.bn, .slice a.AL a.nL a.cL, .int .i64 m.ha, .int .i64 m.hr, .slice a.AhB a.nhB a.chB, .slice a.AhP a.nhP a.chP, .int .i64 m.ca, .int .i64 m.cr, .slice a.AcB a.ncB a.ccB, .slice a.AcP a.ncP a.ccP, .int .i64 m.cd, .slice a.AcS a.ncS a.ccS, .slice a.AD a.nD a.cD] 42) := ⟨_, rfl⟩
  have hb1 : Below w.heap.size w w1 := by rw [hw1]; exact (Below.refl _ _).alloc (Nat.le_refl _) _
  have bx1 : Box w1 w.heap.size (msgC m a) := by
    rw [hw1]
    exact box_new w (msgC m a) 42
  have HW := Lib.hid hw1
  have HX : Hid (∀ wX, Below w1.heap.size w1 wX → Box wX w.heap.size (msgC m a)) := fun wX h => bx1.below h bx1.1
  have HI : Hid (∀ wX, Below w1.heap.size w1 wX → MsgIn wX m a) := fun wX h => hi.below (hb1.trans (h.mono hb1.size))
  have HR : Hid (∀ wX, Below w1.heap.size w1 wX → IsBook wX g F L S) := fun wX hX => h.below (hb1.trans (hX.mono hb1.size))
  have HLI : Hid (∀ wX, Below w1.heap.size w1 wX → Rd wX A (i64s l)) := fun wX hX => hr.below (hb1.trans (hX.mono hb1.size))
  have HF := Lib.hid hf
  have HZ := Lib.hid hz
  have HO := Lib.hid ho
  have HV := Lib.hid hv
  clear hw1 bx1 hi hf h hr hz hv ho
  unfold msgV
  go_enter Try.func23, Try.ntmps23
  go_upto_region 1 with fail
  rw [← HW.out]
  go_wp2_with (refine wpList_load_boxG 42 _ rfl w.heap.size rfl rfl (msgC m a) (HX.out _ (Below.refl _ _)) _ Try.underlying42 rfl size_mesR ?_)
  refine (mcheck_is (messB m n) m a n _ rfl (HI.out _ (Below.refl _ _)) HO.out HF.out).mono ?_
  rintro e w2 ⟨rfl, hb2⟩
  have hb3 := hb1.trans (hb2.mono hb1.size)
  cases hm : messB m n with
  | false =>
    have HN : Hid (v = 1) := by show v = 1; rw [← HV.out, realR, hm]; rfl
    have ev : okV false = 1 := rfl
    clear hm
    rw [ev]
    go_wp2_with fail
    go_ret
    exact ⟨by rw [HN.out]; rfl, hb3⟩
  | true =>
    have HM := Lib.hid hm
    have HVV := Lib.hid (realR_ok HV.out hm)
    have ev : okV true = 0 := rfl
    clear hm
    rw [ev]
    go_wp2_with (refine wpList_load_box rfl 42 _ rfl w.heap.size rfl (msgC m a) (HX.out _ hb2) _ Try.underlying42 rfl size_mesR ?_)
    refine (isReal_is (okR L S l m) g L S A c nl l m a n _ (HR.out _ hb2) rfl HM.out (HI.out _ hb2) HO.out HF.out HZ.out (HLI.out _ hb2) hnl hS hL).mono ?_
    rintro e w4 ⟨rfl, hb4⟩
    have hb5 := hb3.trans (hb4.mono hb3.size)
    cases hk : okR L S l m with
    | true =>
      have HN : Hid (v = 0) := by show v = 0; rw [HVV.out, hk]; rfl
      clear hk
      go_wp2_with fail
      go_ret
      exact ⟨by rw [HN.out]; rfl, hb5⟩
    | false =>
      have HN : Hid (v = 7) := by show v = 7; rw [HVV.out, hk]; rfl
      clear hk
      go_wp2_with fail
      go_ret
      exact ⟨by rw [HN.out]; rfl, hb5⟩

set_option maxRecDepth 100000 in
set_option maxHeartbeats 4000000 in
theorem rcheck_nil (A : Option Addr) (c nl : Nat) (m : MsgD) (a : MsgA) (n : Int) (w : World) :
    Calls Try.prog 23 #[.pointer none, .int .i64 n, .slice A nl c, msgV m a] w (Tells w.heap.size w (.int .i64 1)) := by
  obtain ⟨w1, hw1⟩ : ∃ w1, w1 = w.alloc (.cells #[.int .i64 m.k, .int .i64 m.f, .int .i64 m.t, .int .i64 m.d, .int .i64 m.ba, .int .i64 m.bn, .slice a.AL a.nL a.cL, .int .i64 m.ha, .int .i64 m.hr, .slice a.AhB a.nhB a.chB, .slice a.AhP a.nhP a.chP, .int .i64 m.ca, .int .i64 m.cr, .slice a.AcB a.ncB a.ccB, .slice a.AcP a.ncP a.ccP, .int .i64 m.cd, .slice a.AcS a.ncS a.ccS, .slice a.AD a.nD a.cD] 42) := ⟨_, rfl⟩
  have hb1 : Below w.heap.size w w1 := by rw [hw1]; exact (Below.refl _ _).alloc (Nat.le_refl _) _
  have HW := Lib.hid hw1
  clear hw1
  unfold msgV
  go_enter Try.func23, Try.ntmps23
  go_upto_region 1 with fail
  rw [← HW.out]
  go_wp2_with fail
  go_ret
  exact ⟨rfl, hb1⟩

end Go.Proofs.Ytcfnomnhameleaa
/-
  Package real as landed answers as the document says.
-/
namespace Go.Proofs.Ytcfnomnhameleaa
open Go.RowKit

theorem rcontracts : RContracts IsBook where
  check := fun v {_} g L S A c nl l m a n w h hv hi ho hf hz hr hnl hS hL => rcheck_is v g L S A c nl l m a n w h hv hi ho hf hz hr hnl hS hL
  check_nil := fun A c nl m a n w => rcheck_nil A c nl m a n w

end Go.Proofs.Ytcfnomnhameleaa
