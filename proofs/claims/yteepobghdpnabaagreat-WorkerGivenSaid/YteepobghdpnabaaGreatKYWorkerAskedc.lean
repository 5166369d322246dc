/-
 What Take keeps: the message and the result aside; the held batches' order.
-/
import Derived.Test.YteepobghdpnabaaGreatKDe
import Derived.Test.YteepobghdpnabaaGreatKDi
import Derived.Test.YteepobghdpnabaaGreatKYWorkerAskedb
namespace Go.Proofs.YteepobghdpnabaaGreat
open Go.RowKit

theorem MsgIn.slL {w : World} {m : MsgD} {am : MsgA} (h : MsgIn w m am) : SlIn w ⟨am.AL, am.nL, am.cL⟩ m.L.length (txs m.L) := ⟨h.zL, h.kL, h.xL, h.rL⟩
theorem insAt_get {α : Type} (l : List α) (p : Nat) (x : α) (hp : p ≤ l.length) (i : Nat) : (insAt l p x)[i]? = if i < p then l[i]? else if i = p then some x else l[i - 1]? := by
  unfold insAt
  rcases Nat.lt_trichotomy i p with h | h | h
  · rw [if_pos h, List.getElem?_append_left (by simp; omega), List.getElem?_take, if_pos h]
  · rw [if_neg (by omega), if_pos h, List.getElem?_append_right (by simp; omega), List.length_take, Nat.min_eq_left hp, h, Nat.sub_self]
    rfl
  · rw [if_neg (by omega), if_neg (by omega), List.getElem?_append_right (by simp; omega), List.length_take, Nat.min_eq_left hp, show i - p = (i - 1 - p) + 1 by omega, List.getElem?_cons_succ, List.getElem?_drop, show p + (i - 1 - p) = i - 1 by omega]
theorem riseI_ins {l : List Int} {d : Int} (h : RiseI l) (hd : d ∉ l) : RiseI (insAt l (posI l d) d) := by
  have hp := posI_le l d
  intro i j x y hij hx hy
  rw [insAt_get l _ d hp] at hx hy
  by_cases h1 : i < posI l d
  · rw [if_pos h1] at hx
    have hxd := posI_below h1 hx
    by_cases h2 : j < posI l d
    · rw [if_pos h2] at hy
      exact h i j x y hij hx hy
    · rw [if_neg h2] at hy
      by_cases h3 : j = posI l d
      · rw [if_pos h3] at hy
        cases hy
        exact hxd
      · rw [if_neg h3] at hy
        exact h i (j - 1) x y (by omega) hx hy
  · rw [if_neg h1] at hx
    rw [if_neg (by omega)] at hy
    rw [if_neg (by omega)] at hy
    by_cases h3 : i = posI l d
    · rw [if_pos h3] at hx
      cases hx
      rcases Nat.lt_or_ge (posI l d) (j - 1) with h4 | h4
      · obtain ⟨z, hz⟩ : ∃ z, l[posI l d]? = some z := ⟨_, List.getElem?_eq_getElem (by have := (List.getElem?_eq_some_iff.1 hy).1; omega)⟩
        have := posI_at hz
        have := h _ _ z y h4 hz hy
        omega
      · have e : j - 1 = posI l d := by omega
        rw [e] at hy
        have := posI_at hy
        have hne : y ≠ d := fun e => hd (by rw [← e]; exact List.mem_of_getElem? hy)
        omega
    · rw [if_neg h3] at hx
      exact h (i - 1) (j - 1) x y (by omega) hx hy
theorem hs_ins (l : List HlD) (p : Nat) (x : HlD) : (insAt l p x).map HlD.d = insAt (l.map HlD.d) p x.d := by simp [insAt, List.map_take, List.map_drop]
theorem holdW_rise {P : WkD} {d a n : Int} {L : List TxD} (h : RiseI P.hs) : RiseI (holdW P d a n L).hs := by
 unfold holdW
 split
 ·exact h
 ·rename_i h1
  show RiseI ((insAt P.H (posI P.hs d) _).map HlD.d)
  rw [hs_ins]
  exact riseI_ins h (fun hd => h1 (.inl hd))
end Go.Proofs.YteepobghdpnabaaGreat
namespace Go.Proofs.YteepobghdpnabaaGreat
open Go.RowKit

set_option maxRecDepth 100000 in
set_option maxHeartbeats 16000000 in
theorem rtake_3 (P : WkD) (a : WkA) (m : MsgD) (am : MsgA) (w : World) (h : WIn w P a) (hm : MsgIn w m am) (hfm : MsgFew 1000000 am) (hf : WFew P 300000) (hmy : mayW P = true) (hmb : messB m P.N = true) (ht : m.t = P.i) (hk : m.k = 3) : Calls Tryz.prog 54 #[wkV P a, msgV m am] w (StTo2 (takeW P m) (takeO P m) (takeE P m) w) := by
  obtain ⟨g, hg⟩ : ∃ g, g = w.heap.size := ⟨_, rfl⟩
  obtain ⟨wa0, hwa0⟩ : ∃ wa0, wa0 = w.alloc (.cells #[.int .i64 P.i, .int .i64 P.N, .int .i64 P.x, .slice a.O.A a.O.n a.O.c, .int .i64 P.g, .int .i64 P.c, .slice a.W.A a.W.n a.W.c, .slice a.H.A a.H.n a.H.c, .slice a.R.A a.R.n a.R.c] 27) := ⟨_, rfl⟩
  have hs0 : wa0.heap.size = g + 1 := by rw [hwa0]; simp; omega
  have bn0 : Box wa0 (g) (wkC P a) := by rw [hwa0, hg]; exact box_new w (wkC P a) 27
  have hb0 : Below g w wa0 := by rw [hwa0]; exact (Below.refl _ _).alloc (by omega) _
  obtain ⟨wa1, hwa1⟩ : ∃ wa1, wa1 = wa0.alloc (.cells #[.int .i64 m.k, .int .i64 m.f, .int .i64 m.t, .int .i64 m.d, .int .i64 m.ba, .int .i64 m.bn, .slice am.AL am.nL am.cL, .int .i64 m.ha, .int .i64 m.hr, .slice am.AhB am.nhB am.chB, .slice am.AhP am.nhP am.chP, .int .i64 m.ca, .int .i64 m.cr, .slice am.AcB am.ncB am.ccB, .slice am.AcP am.ncP am.ccP, .int .i64 m.cd, .slice am.AcS am.ncS am.ccS, .slice am.AD am.nD am.cD] 48) := ⟨_, rfl⟩
  have hs1 : wa1.heap.size = g + 2 := by rw [hwa1]; simp; omega
  have bn1 : Box wa1 (g + 1) (msgC m am) := by rw [hwa1, ← hs0]; exact box_new wa0 (msgC m am) 48
  have hb1 : Below g w wa1 := by rw [hwa1]; exact hb0.alloc (by omega) _
  have HX0 : Hid (Box wa1 (g) (wkC P a)) := (bn0.below (show Below wa0.heap.size wa0 wa1 by rw [hwa1]; exact (Below.refl _ _).alloc (Nat.le_refl _) _) (by omega))
  have HX1 : Hid (Box wa1 (g + 1) (msgC m am)) := bn1
  obtain ⟨w0, hw0⟩ : ∃ w0, w0 = wa1 := ⟨_, rfl⟩
  rw [← hw0] at HX0
  rw [← hw0] at HX1
  have hsz0 : w0.heap.size = g + 2 := by rw [hw0]; exact hs1
  have hb0w : Below g w w0 := by rw [hw0]; exact hb1
  have HW0 : Hid ((w.alloc (.cells #[.int .i64 P.i, .int .i64 P.N, .int .i64 P.x, .slice a.O.A a.O.n a.O.c, .int .i64 P.g, .int .i64 P.c, .slice a.W.A a.W.n a.W.c, .slice a.H.A a.H.n a.H.c, .slice a.R.A a.R.n a.R.c] 27)).alloc (.cells #[.int .i64 m.k, .int .i64 m.f, .int .i64 m.t, .int .i64 m.d, .int .i64 m.ba, .int .i64 m.bn, .slice am.AL am.nL am.cL, .int .i64 m.ha, .int .i64 m.hr, .slice am.AhB am.nhB am.chB, .slice am.AhP am.nhP am.chP, .int .i64 m.ca, .int .i64 m.cr, .slice am.AcB am.ncB am.ccB, .slice am.AcP am.ncP am.ccP, .int .i64 m.cd, .slice am.AcS am.ncS am.ccS, .slice am.AD am.nD am.cD] 48) = w0) := by show (w.alloc (.cells #[.int .i64 P.i, .int .i64 P.N, .int .i64 P.x, .slice a.O.A a.O.n a.O.c, .int .i64 P.g, .int .i64 P.c, .slice a.W.A a.W.n a.W.c, .slice a.H.A a.H.n a.H.c, .slice a.R.A a.R.n a.R.c] 27)).alloc (.cells #[.int .i64 m.k, .int .i64 m.f, .int .i64 m.t, .int .i64 m.d, .int .i64 m.ba, .int .i64 m.bn, .slice am.AL am.nL am.cL, .int .i64 m.ha, .int .i64 m.hr, .slice am.AhB am.nhB am.chB, .slice am.AhP am.nhP am.chP, .int .i64 m.ca, .int .i64 m.cr, .slice am.AcB am.ncB am.ccB, .slice am.AcP am.ncP am.ccP, .int .i64 m.cd, .slice am.AcS am.ncS am.ccS, .slice am.AD am.nD am.cD] 48) = w0; rw [hw0, hwa1, hwa0]
  have HG : Hid (w.heap.size = g) := hg.symm
  have HS0 := Lib.hid hsz0
  have HB0 := Lib.hid hb0w
  have hl0 : g < w0.heap.size := by omega
  have hl1 : g + 1 < w0.heap.size := by omega
  have hgw : g ≤ w0.heap.size := by omega
  have hin0 := h.below' HB0.out HG.out
  have HIN : Hid (∀ wX, Below w0.heap.size w0 wX → WIn wX P a) := by show ∀ wX, _; exact fun wX hX => hin0.below hX
  have HMI : Hid (∀ wX, Below g w wX → MsgIn wX m am) := by show ∀ wX, _; exact fun wX hX => hm.below (by rw [HG.out]; exact hX)
  have HF := Lib.hid hf
  have HMW := Lib.hid (mayW_iff.1 hmy)
  have HFM := Lib.hid hfm
  have HMC : Hid (∀ b, messB m P.N = b → ∀ wX, Below g w wX → Calls Tryz.prog 97 #[msgV m am, .int .i64 P.N] wX (Tells wX.heap.size wX (.bool b))) := by
    show ∀ b, _
    exact fun b hb wX hX => rmsg_is b m am P.N wX hb (HMI.out wX hX) HFM.out
  clear hg hsz0 hb0w hw0 hwa0 hs0 bn0 hb0 hwa1 hs1 bn1 hb1
  clear hin0
  unfold wkV Ad.v msgV
  have htk : takeE P m = 0 := by rw [takeE, if_pos ⟨hmb, ht⟩, if_pos (by omega)]
  rw [htk]
  have HMB := Lib.hid hmb
  have jt : (m.t == P.i) = true := by simp [ht]
  have jt2 : (m.t != P.i) = false := by simp [ht]
  have HTW : Hid (takeW P m = holdW P m.d m.ba m.bn m.L) := by show _ = _; rw [takeW, if_pos (by omega)]
  have HTO : Hid (takeO P m = []) := by show _ = _; rw [takeO, if_neg (by omega), if_neg (by omega)]
  have j1 : (m.k == 1) = false := by simp; omega
  have j3 : (m.k == 3) = true := by simp; omega
  clear hk
  clear htk hmb ht h hm hfm hf hmy
  go_enter Tryz.func54, Tryz.ntmps54
  go_upto_region 1 with fail
  rw [HG.out, HW0.out]
  go_upto_region 2 with (first
    | (refine wpList_load_box rfl 27 _ rfl g rfl (wkC P a) (HX0.out) _ Tryz.underlying27 rfl size_wk ?_)
    | (go_at_call 15; refine (rcopyWk_any P a w0 (HIN.out _ (Below.refl _ _)) (HF.out.more (by decide))).mono ?_; rintro e w4 ⟨a4, rfl, hn4, hb4⟩; dsimp only [wkV, Ad.v]))
  obtain ⟨w5, hw5⟩ : ∃ w5, w5 = w4.alloc (.cells #[.int .i64 P.i, .int .i64 P.N, .int .i64 P.x, .slice a4.O.A a4.O.n a4.O.c, .int .i64 P.g, .int .i64 P.c, .slice a4.W.A a4.W.n a4.W.c, .slice a4.H.A a4.H.n a4.H.c, .slice a4.R.A a4.R.n a4.R.c, .slice none 0 0] 75) := ⟨_, rfl⟩
  obtain ⟨s, hs⟩ : ∃ s, s = w4.heap.size := ⟨_, rfl⟩
  rw [← hw5, ← hs]
  have hst : StAt s w0.heap.size w5 P a4 [] noAd [] := by rw [hw5, hs]; exact st_new hn4 hb4.size
  have hb5 : Below w0.heap.size w0 w5 := by rw [hw5]; exact hb4.alloc hb4.size _
  have HST := Lib.hid hst
  have HB5 := Lib.hid hb5
  have HN4 := Lib.hid hn4
  have hs0 : w0.heap.size ≤ s := by rw [hs]; exact hb4.size
  have hs5 : s < w5.heap.size := hst.box.1
  have k1 : w5.cell? ⟨g, 1, none⟩ = some (.int .i64 P.N) := ((HX0.out.below hb5 hl0).2 1 _ rfl).1
  have hm5 : Below g w w5 := HB0.out.trans (hb5.mono hgw)
  clear hw5 hs hst hb5 hn4 hb4
  go_upto_region 4 with (first
    | (refine wpList_load_box rfl 48 _ rfl (g + 1) rfl (msgC m am) (HX1.out.below HB5.out hl1) _ Tryz.underlying48 rfl size_mes ?_)
    | (go_at_call 97; refine (HMC.out true HMB.out w5 hm5).mono ?_; rintro e w6 ⟨rfl, hb6⟩; have hb06 : Below w0.heap.size w0 w6 := HB5.out.trans (hb6.mono HB5.out.size); have HB06 := Lib.hid hb06; have q2 : w6.cell? ⟨g + 1, 2, none⟩ = some (.int .i64 m.t) := ((HX1.out.below hb06 hl1).2 2 _ rfl).1; have q0 : w6.cell? ⟨g + 1, 0, none⟩ = some (.int .i64 m.k) := ((HX1.out.below hb06 hl1).2 0 _ rfl).1; have z0 : w6.cell? ⟨g, 0, none⟩ = some (.int .i64 P.i) := ((HX0.out.below hb06 hl0).2 0 _ rfl).1; have HST6 := Lib.hid (HST.out.below hb6); have HSZ6 : Hid (w5.heap.size ≤ w6.heap.size) := hb6.size; clear hb6 hb06))
  have hmc := HX1.out.below HB06.out hl1
  have q1 : w6.cell? ⟨g + 1, 1, none⟩ = some (.int .i64 m.f) := (hmc.2 1 _ rfl).1
  have q3 : w6.cell? ⟨g + 1, 3, none⟩ = some (.int .i64 m.d) := (hmc.2 3 _ rfl).1
  have q4 : w6.cell? ⟨g + 1, 4, none⟩ = some (.int .i64 m.ba) := (hmc.2 4 _ rfl).1
  have q5 : w6.cell? ⟨g + 1, 5, none⟩ = some (.int .i64 m.bn) := (hmc.2 5 _ rfl).1
  have q6 : w6.cell? ⟨g + 1, 6, none⟩ = some (.slice am.AL am.nL am.cL) := (hmc.2 6 _ rfl).1
  have q17 : w6.cell? ⟨g + 1, 17, none⟩ = some (.slice am.AD am.nD am.cD) := (hmc.2 17 _ rfl).1
  have hg16 : g + 1 < w6.heap.size := hmc.1
  have hz6 : w0.heap.size ≤ w6.heap.size := HB06.out.size
  clear hmc
  have HMW6 : Hid (MsgIn w6 m am) := HMI.out w6 (HB0.out.trans (HB06.out.mono hgw))
  have HHO := Lib.hid (holds_any s w0.heap.size P a4 [] noAd [] m.d m.ba m.bn ⟨am.AL, am.nL, am.cL⟩ m.L w6 HST6.out HMW.out.hrise ⟨HMW6.out.zL, HMW6.out.kL, HMW6.out.xL, HMW6.out.rL⟩ (by have h1 := HMW6.out.zL; have := HFM.out.sL; omega) (by have := HF.out.h; omega) (fun x hx => by have := HF.out.l x hx; omega))
  obtain ⟨P2, hP2⟩ : ∃ P2, P2 = holdW P m.d m.ba m.bn m.L := ⟨_, rfl⟩
  rw [← hP2] at HHO
  have hsame := holdW_same (P := P) (d := m.d) (a := m.ba) (n := m.bn) (L := m.L)
  rw [← hP2] at hsame
  have HI2 : Hid (P2.i = P.i) := hsame.1
  have hlen2 : P2.H.length ≤ 1000000 := by
    rw [hP2]
    unfold holdW
    split
    · have := HF.out.h; omega
    · have h1 := insAt_length P.H (posI P.hs m.d) ⟨m.d, m.ba, m.bn, m.L⟩ (by have := posI_le P.hs m.d; rw [WkD.hs, List.length_map] at this; exact this)
      have := HF.out.h
      simp only at h1 ⊢
      omega
  have HP2 := Lib.hid hP2
  clear hP2 hsame
  go_wp2_with (first
    | (go_at_call 85; refine HHO.out.mono ?_; rintro e w7 ⟨a7, rfl, hst7, ht7⟩; have HS7 := Lib.hid hst7; have HT7 := Lib.hid ht7; have hb7 : Below w0.heap.size w0 w7 := HB06.out.trans (ht7.below (fun k hk => by have e : k = s := hk; omega) HB06.out.size); have hmc7 := HX1.out.below hb7 hl1; have y0 : w7.cell? ⟨g + 1, 0, none⟩ = some (.int .i64 m.k) := (hmc7.2 0 _ rfl).1; have y1 : w7.cell? ⟨g + 1, 1, none⟩ = some (.int .i64 m.f) := (hmc7.2 1 _ rfl).1; have y3 : w7.cell? ⟨g + 1, 3, none⟩ = some (.int .i64 m.d) := (hmc7.2 3 _ rfl).1; have hg17 : g + 1 < w7.heap.size := hmc7.1; have HB7 := Lib.hid hb7; clear hst7 ht7 hb7 hmc7))
  go_ret2
  exact ⟨s, rfl, .inr ⟨w0.heap.size, a7, noAd, [], by rw [HG.out]; exact hgw, by rw [HTW.out, HTO.out, ← HP2.out]; exact HS7.out, by rw [HG.out]; exact HB0.out.trans (HB7.out.mono hgw)⟩⟩
set_option maxRecDepth 100000 in
set_option maxHeartbeats 16000000 in
theorem rtake_1 (P : WkD) (a : WkA) (m : MsgD) (am : MsgA) (w : World) (h : WIn w P a) (hm : MsgIn w m am) (hfm : MsgFew 1000000 am) (hf : WFew P 300000) (hmy : mayW P = true) (hmb : messB m P.N = true) (ht : m.t = P.i) (hk : m.k = 1) : Calls Tryz.prog 54 #[wkV P a, msgV m am] w (StTo2 (takeW P m) (takeO P m) (takeE P m) w) := by
  obtain ⟨g, hg⟩ : ∃ g, g = w.heap.size := ⟨_, rfl⟩
  obtain ⟨wa0, hwa0⟩ : ∃ wa0, wa0 = w.alloc (.cells #[.int .i64 P.i, .int .i64 P.N, .int .i64 P.x, .slice a.O.A a.O.n a.O.c, .int .i64 P.g, .int .i64 P.c, .slice a.W.A a.W.n a.W.c, .slice a.H.A a.H.n a.H.c, .slice a.R.A a.R.n a.R.c] 27) := ⟨_, rfl⟩
  have hs0 : wa0.heap.size = g + 1 := by rw [hwa0]; simp; omega
  have bn0 : Box wa0 (g) (wkC P a) := by rw [hwa0, hg]; exact box_new w (wkC P a) 27
  have hb0 : Below g w wa0 := by rw [hwa0]; exact (Below.refl _ _).alloc (by omega) _
  obtain ⟨wa1, hwa1⟩ : ∃ wa1, wa1 = wa0.alloc (.cells #[.int .i64 m.k, .int .i64 m.f, .int .i64 m.t, .int .i64 m.d, .int .i64 m.ba, .int .i64 m.bn, .slice am.AL am.nL am.cL, .int .i64 m.ha, .int .i64 m.hr, .slice am.AhB am.nhB am.chB, .slice am.AhP am.nhP am.chP, .int .i64 m.ca, .int .i64 m.cr, .slice am.AcB am.ncB am.ccB, .slice am.AcP am.ncP am.ccP, .int .i64 m.cd, .slice am.AcS am.ncS am.ccS, .slice am.AD am.nD am.cD] 48) := ⟨_, rfl⟩
  have hs1 : wa1.heap.size = g + 2 := by rw [hwa1]; simp; omega
  have bn1 : Box wa1 (g + 1) (msgC m am) := by rw [hwa1, ← hs0]; exact box_new wa0 (msgC m am) 48
  have hb1 : Below g w wa1 := by rw [hwa1]; exact hb0.alloc (by omega) _
  have HX0 : Hid (Box wa1 (g) (wkC P a)) := (bn0.below (show Below wa0.heap.size wa0 wa1 by rw [hwa1]; exact (Below.refl _ _).alloc (Nat.le_refl _) _) (by omega))
  have HX1 : Hid (Box wa1 (g + 1) (msgC m am)) := bn1
  obtain ⟨w0, hw0⟩ : ∃ w0, w0 = wa1 := ⟨_, rfl⟩
  rw [← hw0] at HX0
  rw [← hw0] at HX1
  have hsz0 : w0.heap.size = g + 2 := by rw [hw0]; exact hs1
  have hb0w : Below g w w0 := by rw [hw0]; exact hb1
  have HW0 : Hid ((w.alloc (.cells #[.int .i64 P.i, .int .i64 P.N, .int .i64 P.x, .slice a.O.A a.O.n a.O.c, .int .i64 P.g, .int .i64 P.c, .slice a.W.A a.W.n a.W.c, .slice a.H.A a.H.n a.H.c, .slice a.R.A a.R.n a.R.c] 27)).alloc (.cells #[.int .i64 m.k, .int .i64 m.f, .int .i64 m.t, .int .i64 m.d, .int .i64 m.ba, .int .i64 m.bn, .slice am.AL am.nL am.cL, .int .i64 m.ha, .int .i64 m.hr, .slice am.AhB am.nhB am.chB, .slice am.AhP am.nhP am.chP, .int .i64 m.ca, .int .i64 m.cr, .slice am.AcB am.ncB am.ccB, .slice am.AcP am.ncP am.ccP, .int .i64 m.cd, .slice am.AcS am.ncS am.ccS, .slice am.AD am.nD am.cD] 48) = w0) := by show (w.alloc (.cells #[.int .i64 P.i, .int .i64 P.N, .int .i64 P.x, .slice a.O.A a.O.n a.O.c, .int .i64 P.g, .int .i64 P.c, .slice a.W.A a.W.n a.W.c, .slice a.H.A a.H.n a.H.c, .slice a.R.A a.R.n a.R.c] 27)).alloc (.cells #[.int .i64 m.k, .int .i64 m.f, .int .i64 m.t, .int .i64 m.d, .int .i64 m.ba, .int .i64 m.bn, .slice am.AL am.nL am.cL, .int .i64 m.ha, .int .i64 m.hr, .slice am.AhB am.nhB am.chB, .slice am.AhP am.nhP am.chP, .int .i64 m.ca, .int .i64 m.cr, .slice am.AcB am.ncB am.ccB, .slice am.AcP am.ncP am.ccP, .int .i64 m.cd, .slice am.AcS am.ncS am.ccS, .slice am.AD am.nD am.cD] 48) = w0; rw [hw0, hwa1, hwa0]
  have HG : Hid (w.heap.size = g) := hg.symm
  have HS0 := Lib.hid hsz0
  have HB0 := Lib.hid hb0w
  have hl0 : g < w0.heap.size := by omega
  have hl1 : g + 1 < w0.heap.size := by omega
  have hgw : g ≤ w0.heap.size := by omega
  have hin0 := h.below' HB0.out HG.out
  have HIN : Hid (∀ wX, Below w0.heap.size w0 wX → WIn wX P a) := by show ∀ wX, _; exact fun wX hX => hin0.below hX
  have HMI : Hid (∀ wX, Below g w wX → MsgIn wX m am) := by show ∀ wX, _; exact fun wX hX => hm.below (by rw [HG.out]; exact hX)
  have HF := Lib.hid hf
  have HMW := Lib.hid (mayW_iff.1 hmy)
  have HFM := Lib.hid hfm
  have HMC : Hid (∀ b, messB m P.N = b → ∀ wX, Below g w wX → Calls Tryz.prog 97 #[msgV m am, .int .i64 P.N] wX (Tells wX.heap.size wX (.bool b))) := by
    show ∀ b, _
    exact fun b hb wX hX => rmsg_is b m am P.N wX hb (HMI.out wX hX) HFM.out
  clear hg hsz0 hb0w hw0 hwa0 hs0 bn0 hb0 hwa1 hs1 bn1 hb1
  clear hin0
  unfold wkV Ad.v msgV
  have htk : takeE P m = 0 := by rw [takeE, if_pos ⟨hmb, ht⟩, if_pos (by omega)]
  rw [htk]
  have HMB := Lib.hid hmb
  have jt : (m.t == P.i) = true := by simp [ht]
  have jt2 : (m.t != P.i) = false := by simp [ht]
  have HTW : Hid (takeW P m = holdW P m.d m.ba m.bn m.L) := by show _ = _; rw [takeW, if_pos (by omega)]
  have HTO : Hid (takeO P m = (if m.d ∈ (holdW P m.d m.ba m.bn m.L).hs then [⟨2, P.i, m.f, m.d, 0, 0, []⟩] else [])) := by show _ = _; rw [takeO, if_pos hk]
  have j1 : (m.k == 1) = true := by simp; omega
  clear hk
  clear htk hmb ht h hm hfm hf hmy
  go_enter Tryz.func54, Tryz.ntmps54
  go_upto_region 1 with fail
  rw [HG.out, HW0.out]
  go_upto_region 2 with (first
    | (refine wpList_load_box rfl 27 _ rfl g rfl (wkC P a) (HX0.out) _ Tryz.underlying27 rfl size_wk ?_)
    | (go_at_call 15; refine (rcopyWk_any P a w0 (HIN.out _ (Below.refl _ _)) (HF.out.more (by decide))).mono ?_; rintro e w4 ⟨a4, rfl, hn4, hb4⟩; dsimp only [wkV, Ad.v]))
  obtain ⟨w5, hw5⟩ : ∃ w5, w5 = w4.alloc (.cells #[.int .i64 P.i, .int .i64 P.N, .int .i64 P.x, .slice a4.O.A a4.O.n a4.O.c, .int .i64 P.g, .int .i64 P.c, .slice a4.W.A a4.W.n a4.W.c, .slice a4.H.A a4.H.n a4.H.c, .slice a4.R.A a4.R.n a4.R.c, .slice none 0 0] 75) := ⟨_, rfl⟩
  obtain ⟨s, hs⟩ : ∃ s, s = w4.heap.size := ⟨_, rfl⟩
  rw [← hw5, ← hs]
  have hst : StAt s w0.heap.size w5 P a4 [] noAd [] := by rw [hw5, hs]; exact st_new hn4 hb4.size
  have hb5 : Below w0.heap.size w0 w5 := by rw [hw5]; exact hb4.alloc hb4.size _
  have HST := Lib.hid hst
  have HB5 := Lib.hid hb5
  have HN4 := Lib.hid hn4
  have hs0 : w0.heap.size ≤ s := by rw [hs]; exact hb4.size
  have hs5 : s < w5.heap.size := hst.box.1
  have k1 : w5.cell? ⟨g, 1, none⟩ = some (.int .i64 P.N) := ((HX0.out.below hb5 hl0).2 1 _ rfl).1
  have hm5 : Below g w w5 := HB0.out.trans (hb5.mono hgw)
  clear hw5 hs hst hb5 hn4 hb4
  go_upto_region 4 with (first
    | (refine wpList_load_box rfl 48 _ rfl (g + 1) rfl (msgC m am) (HX1.out.below HB5.out hl1) _ Tryz.underlying48 rfl size_mes ?_)
    | (go_at_call 97; refine (HMC.out true HMB.out w5 hm5).mono ?_; rintro e w6 ⟨rfl, hb6⟩; have hb06 : Below w0.heap.size w0 w6 := HB5.out.trans (hb6.mono HB5.out.size); have HB06 := Lib.hid hb06; have q2 : w6.cell? ⟨g + 1, 2, none⟩ = some (.int .i64 m.t) := ((HX1.out.below hb06 hl1).2 2 _ rfl).1; have q0 : w6.cell? ⟨g + 1, 0, none⟩ = some (.int .i64 m.k) := ((HX1.out.below hb06 hl1).2 0 _ rfl).1; have z0 : w6.cell? ⟨g, 0, none⟩ = some (.int .i64 P.i) := ((HX0.out.below hb06 hl0).2 0 _ rfl).1; have HST6 := Lib.hid (HST.out.below hb6); have HSZ6 : Hid (w5.heap.size ≤ w6.heap.size) := hb6.size; clear hb6 hb06))
  have hmc := HX1.out.below HB06.out hl1
  have q1 : w6.cell? ⟨g + 1, 1, none⟩ = some (.int .i64 m.f) := (hmc.2 1 _ rfl).1
  have q3 : w6.cell? ⟨g + 1, 3, none⟩ = some (.int .i64 m.d) := (hmc.2 3 _ rfl).1
  have q4 : w6.cell? ⟨g + 1, 4, none⟩ = some (.int .i64 m.ba) := (hmc.2 4 _ rfl).1
  have q5 : w6.cell? ⟨g + 1, 5, none⟩ = some (.int .i64 m.bn) := (hmc.2 5 _ rfl).1
  have q6 : w6.cell? ⟨g + 1, 6, none⟩ = some (.slice am.AL am.nL am.cL) := (hmc.2 6 _ rfl).1
  have q17 : w6.cell? ⟨g + 1, 17, none⟩ = some (.slice am.AD am.nD am.cD) := (hmc.2 17 _ rfl).1
  have hg16 : g + 1 < w6.heap.size := hmc.1
  have hz6 : w0.heap.size ≤ w6.heap.size := HB06.out.size
  clear hmc
  have HMW6 : Hid (MsgIn w6 m am) := HMI.out w6 (HB0.out.trans (HB06.out.mono hgw))
  have HHO := Lib.hid (holds_any s w0.heap.size P a4 [] noAd [] m.d m.ba m.bn ⟨am.AL, am.nL, am.cL⟩ m.L w6 HST6.out HMW.out.hrise ⟨HMW6.out.zL, HMW6.out.kL, HMW6.out.xL, HMW6.out.rL⟩ (by have h1 := HMW6.out.zL; have := HFM.out.sL; omega) (by have := HF.out.h; omega) (fun x hx => by have := HF.out.l x hx; omega))
  obtain ⟨P2, hP2⟩ : ∃ P2, P2 = holdW P m.d m.ba m.bn m.L := ⟨_, rfl⟩
  rw [← hP2] at HHO
  have hsame := holdW_same (P := P) (d := m.d) (a := m.ba) (n := m.bn) (L := m.L)
  rw [← hP2] at hsame
  have HI2 : Hid (P2.i = P.i) := hsame.1
  have hlen2 : P2.H.length ≤ 1000000 := by
    rw [hP2]
    unfold holdW
    split
    · have := HF.out.h; omega
    · have h1 := insAt_length P.H (posI P.hs m.d) ⟨m.d, m.ba, m.bn, m.L⟩ (by have := posI_le P.hs m.d; rw [WkD.hs, List.length_map] at this; exact this)
      have := HF.out.h
      simp only at h1 ⊢
      omega
  have HP2 := Lib.hid hP2
  clear hP2 hsame
  go_upto_region 9 with (first
    | (go_at_call 85; refine HHO.out.mono ?_; rintro e w7 ⟨a7, rfl, hst7, ht7⟩; have HS7 := Lib.hid hst7; have HT7 := Lib.hid ht7; have hb7 : Below w0.heap.size w0 w7 := HB06.out.trans (ht7.below (fun k hk => by have e : k = s := hk; omega) HB06.out.size); have hmc7 := HX1.out.below hb7 hl1; have y0 : w7.cell? ⟨g + 1, 0, none⟩ = some (.int .i64 m.k) := (hmc7.2 0 _ rfl).1; have y1 : w7.cell? ⟨g + 1, 1, none⟩ = some (.int .i64 m.f) := (hmc7.2 1 _ rfl).1; have y3 : w7.cell? ⟨g + 1, 3, none⟩ = some (.int .i64 m.d) := (hmc7.2 3 _ rfl).1; have hg17 : g + 1 < w7.heap.size := hmc7.1; have HB7 := Lib.hid hb7; clear hst7 ht7 hb7 hmc7))
  have HFI := Lib.hid (sfind_is s w0.heap.size P2 a7 [] noAd [] m.d w7 HS7.out hlen2)
  by_cases hin2 : m.d ∈ P2.hs
  · obtain ⟨r, hr⟩ : ∃ r, r = idxI P2.hs m.d := ⟨_, rfl⟩
    have jr : 0 ≤ r := by rw [hr]; exact idxI_ge.2 hin2
    rw [← hr] at HFI
    have HIN2 := Lib.hid hin2
    have HTE := Lib.hid (tells_any s w0.heap.size w0.heap.size P2 a7 [] noAd [] ⟨2, 0, m.f, m.d, 0, 0, []⟩ noAd w7 HS7.out (Nat.le_refl _) ⟨rfl, .inl ⟨rfl, rfl⟩⟩ rfl (fun k hk => by cases hk) (by simp))
    clear hr hin2
    go_wp2_with (first
      | (go_at_call 84; refine HFI.out.mono ?_; rintro e w' ⟨rfl, rfl⟩)
      | (go_at_call 86; refine HTE.out.mono ?_; rintro e w9 ⟨o9, rfl, hst9, ht9, hn9⟩; have HST9 := Lib.hid hst9; have HT9 := Lib.hid ht9; clear hst9 ht9 hn9))
    have hb9 : Below w0.heap.size w0 w9 := HB7.out.trans (HT9.out.below (fun k hk => by
      rcases hk with e | e
      · omega
      · cases e) HB7.out.size)
    have hfin := HST9.out
    rw [HI2.out] at hfin
    go_ret2
    exact ⟨s, rfl, .inr ⟨w0.heap.size, a7, o9, [(⟨2, P.i, m.f, m.d, 0, 0, []⟩, noAd)], by rw [HG.out]; exact hgw, by rw [HTW.out, HTO.out, ← HP2.out, if_pos HIN2.out]; exact hfin, by rw [HG.out]; exact HB0.out.trans (hb9.mono hgw)⟩⟩
  · rw [idxI_no hin2] at HFI
    have HIN2 := Lib.hid hin2
    clear hin2
    go_wp2_with (go_at_call 84; refine HFI.out.mono ?_; rintro e w' ⟨rfl, rfl⟩)
    go_ret2
    exact ⟨s, rfl, .inr ⟨w0.heap.size, a7, noAd, [], by rw [HG.out]; exact hgw, by rw [HTW.out, HTO.out, ← HP2.out, if_neg HIN2.out]; exact HS7.out, by rw [HG.out]; exact HB0.out.trans (HB7.out.mono hgw)⟩⟩

end Go.Proofs.YteepobghdpnabaaGreat
