/-
 The page's Take: kind 7; Take whole.
-/
import Derived.Test.YteepobghdpnabaaGreatKDi
import Derived.Test.YteepobghdpnabaaGreatKYWorkerWantedb
namespace Go.Proofs.YteepobghdpnabaaGreat
open Go.RowKit

structure SG (w : World) (s g bD oD gh k p : Nat) (f d : Int) (nD cD nH cH : Nat) (y : HlD × Ad) : Prop where
 m1 : w.cell? ⟨g + 1, 1, none⟩ = some (.int .i64 f)
 m17 : w.cell? ⟨g + 1, 17, none⟩ = some (.slice (some ⟨bD, oD, none⟩) nD cD)
 dk : w.cell? ⟨bD, oD + k, none⟩ = some (.int .i64 d)
 s7 : w.cell? ⟨s, 7, none⟩ = some (.slice (some ⟨gh, 0, none⟩) nH cH)
 y1 : w.cell? ⟨gh, p * 4 + 1, none⟩ = some (.int .i64 y.1.a)
 y2 : w.cell? ⟨gh, p * 4 + 2, none⟩ = some (.int .i64 y.1.n)
 y3 : w.cell? ⟨gh, p * 4 + 3, none⟩ = some (.slice y.2.A y.2.n y.2.c)
theorem give_nextR {P : WkD} {D : List Int} {f d : Int} {k : Nat} (h : D[k]? = some d) : giveW P (D.take (k + 1)) f = giveW P (D.take k) f ++ (match lookH P.H d with
  | some x => [⟨3, P.i, f, d, x.a, x.n, x.L⟩]
  | none => []) := by
 unfold giveW
 rw [List.take_add_one, h, List.flatMap_append]
 congr 1
 show List.flatMap _ [d] = _
 rw [List.flatMap_cons, List.flatMap_nil, List.append_nil]
 rfl
theorem give_len (P : WkD) (D : List Int) (f : Int) : (giveW P D f).length ≤ D.length := by
 unfold giveW
 induction D with
 | nil => simp
 | cons d r ih =>
  rw [List.flatMap_cons, List.length_append, List.length_cons]
  have h1 : ∀ o : Option HlD, (match o with
   | some x => [(⟨3, P.i, f, d, x.a, x.n, x.L⟩ : OtD)]
   | none => []).length ≤ 1 := fun o => by cases o <;> simp
  exact Nat.le_trans (Nat.add_le_add (h1 (lookH P.H d)) ih) (by omega)

set_option maxRecDepth 100000 in
set_option maxHeartbeats 16000000 in
theorem rtake_7 (P : WkD) (a : WkA) (m : MsgD) (am : MsgA) (w : World) (h : WIn w P a) (hm : MsgIn w m am) (hfm : MsgFew 1000000 am) (hf : WFew P 300000) (hmy : mayW P = true) (hmb : messB m P.N = true) (ht : m.t = P.i) (hk : m.k = 7) : Calls Tryz.prog 54 #[wkV P a, msgV m am] w (StTo2 (takeW P m) (takeO P m) (takeE P m) w) := by
  obtain ⟨g, hg⟩ : ∃ g, g = w.heap.size := ⟨_, rfl⟩
  obtain ⟨wa0, hwa0⟩ : ∃ wa0, wa0 = w.alloc (.cells #[.int .i64 P.i, .int .i64 P.N, .int .i64 P.x, .slice a.O.A a.O.n a.O.c, .int .i64 P.g, .int .i64 P.c, .slice a.W.A a.W.n a.W.c, .slice a.H.A a.H.n a.H.c, .slice a.R.A a.R.n a.R.c] 27) := ⟨_, rfl⟩
  have hs0 : wa0.heap.size = g + 1 := by rw [hwa0]; simp; omega
  have bn0 : Box wa0 (g) (wkC P a) := by rw [hwa0, hg]; exact box_new w (wkC P a) 27
  have hb0 : Below g w wa0 := by rw [hwa0]; exact (Below.refl _ _).alloc (by omega) _
  obtain ⟨wa1, hwa1⟩ : ∃ wa1, wa1 = wa0.alloc (.cells #[.int .i64 m.k, .int .i64 m.f, .int .i64 m.t, .int .i64 m.d, .int .i64 m.ba, .int .i64 m.bn, .slice am.AL am.nL am.cL, .int .i64 m.ha, .int .i64 m.hr, .slice am.AhB am.nhB am.chB, .slice am.AhP am.nhP am.chP, .int .i64 m.ca, .int .i64 m.cr, .slice am.AcB am.ncB am.ccB, .slice am.AcP am.ncP am.ccP, .int .i64 m.cd, .slice am.AcS am.ncS am.ccS, .slice am.AD am.nD am.cD] 48) := ⟨_, rfl⟩
  have hs1 : wa1.heap.size = g + 2 := by rw [hwa1]; simp; omega
  have bn1 : Box wa1 (g + 1) (msgC m am) := by rw [hwa1, ← hs0]; exact box_new wa0 (msgC m am) 48
  have hb1 : Below g w wa1 := by rw [hwa1]; exact hb0.alloc (by omega) _
  have HX0 : Hid (Box wa1 (g) (wkC P a)) := (bn0.below (show Below wa0.heap.size wa0 wa1 by rw [hwa1]; exact (Below.refl _ _).alloc (Nat.le_refl _) _) (by omega))
  have HX1 : Hid (Box wa1 (g + 1) (msgC m am)) := bn1
  obtain ⟨w0, hw0⟩ : ∃ w0, w0 = wa1 := ⟨_, rfl⟩
  rw [← hw0] at HX0
  rw [← hw0] at HX1
  have hsz0 : w0.heap.size = g + 2 := by rw [hw0]; exact hs1
  have hb0w : Below g w w0 := by rw [hw0]; exact hb1
  have HW0 : Hid ((w.alloc (.cells #[.int .i64 P.i, .int .i64 P.N, .int .i64 P.x, .slice a.O.A a.O.n a.O.c, .int .i64 P.g, .int .i64 P.c, .slice a.W.A a.W.n a.W.c, .slice a.H.A a.H.n a.H.c, .slice a.R.A a.R.n a.R.c] 27)).alloc (.cells #[.int .i64 m.k, .int .i64 m.f, .int .i64 m.t, .int .i64 m.d, .int .i64 m.ba, .int .i64 m.bn, .slice am.AL am.nL am.cL, .int .i64 m.ha, .int .i64 m.hr, .slice am.AhB am.nhB am.chB, .slice am.AhP am.nhP am.chP, .int .i64 m.ca, .int .i64 m.cr, .slice am.AcB am.ncB am.ccB, .slice am.AcP am.ncP am.ccP, .int .i64 m.cd, .slice am.AcS am.ncS am.ccS, .slice am.AD am.nD am.cD] 48) = w0) := by show (w.alloc (.cells #[.int .i64 P.i, .int .i64 P.N, .int .i64 P.x, .slice a.O.A a.O.n a.O.c, .int .i64 P.g, .int .i64 P.c, .slice a.W.A a.W.n a.W.c, .slice a.H.A a.H.n a.H.c, .slice a.R.A a.R.n a.R.c] 27)).alloc (.cells #[.int .i64 m.k, .int .i64 m.f, .int .i64 m.t, .int .i64 m.d, .int .i64 m.ba, .int .i64 m.bn, .slice am.AL am.nL am.cL, .int .i64 m.ha, .int .i64 m.hr, .slice am.AhB am.nhB am.chB, .slice am.AhP am.nhP am.chP, .int .i64 m.ca, .int .i64 m.cr, .slice am.AcB am.ncB am.ccB, .slice am.AcP am.ncP am.ccP, .int .i64 m.cd, .slice am.AcS am.ncS am.ccS, .slice am.AD am.nD am.cD] 48) = w0; rw [hw0, hwa1, hwa0]
  have HG : Hid (w.heap.size = g) := hg.symm
  have HS0 := Lib.hid hsz0
  have HB0 := Lib.hid hb0w
  have hl0 : g < w0.heap.size := by omega
  have hl1 : g + 1 < w0.heap.size := by omega
  have hgw : g ≤ w0.heap.size := by omega
  have hin0 := h.below' HB0.out HG.out
  have HIN : Hid (∀ wX, Below w0.heap.size w0 wX → WIn wX P a) := by show ∀ wX, _; exact fun wX hX => hin0.below hX
  have HMI : Hid (∀ wX, Below g w wX → MsgIn wX m am) := by show ∀ wX, _; exact fun wX hX => hm.below (by rw [HG.out]; exact hX)
  have HF := Lib.hid hf
  have HMW := Lib.hid (mayW_iff.1 hmy)
  have HFM := Lib.hid hfm
  have HMC : Hid (∀ b, messB m P.N = b → ∀ wX, Below g w wX → Calls Tryz.prog 97 #[msgV m am, .int .i64 P.N] wX (Tells wX.heap.size wX (.bool b))) := by
    show ∀ b, _
    exact fun b hb wX hX => rmsg_is b m am P.N wX hb (HMI.out wX hX) HFM.out
  clear hg hsz0 hb0w hw0 hwa0 hs0 bn0 hb0 hwa1 hs1 bn1 hb1
  clear hin0
  unfold wkV Ad.v msgV
  have htk : takeE P m = 0 := by rw [takeE, if_pos ⟨hmb, ht⟩, if_pos (by omega)]
  rw [htk]
  have HMB := Lib.hid hmb
  have jt : (m.t == P.i) = true := by simp [ht]
  have jt2 : (m.t != P.i) = false := by simp [ht]
  have HTW : Hid (takeW P m = P) := by show _ = _; rw [takeW, if_neg (by omega), if_neg (by omega)]
  have HTO : Hid (takeO P m = giveW P m.D m.f) := by show _ = _; rw [takeO, if_neg (by omega), if_pos hk]
  have j1 : (m.k == 1) = false := by simp; omega
  have j3 : (m.k == 3) = false := by simp; omega
  have j2 : (m.k == 2) = false := by simp; omega
  have j7 : (m.k == 7) = true := by simp; omega
  clear hk
  clear htk hmb ht h hm hfm hf hmy
  go_enter Tryz.func54, Tryz.ntmps54
  go_upto_region 1 with fail
  rw [HG.out, HW0.out]
  go_upto_region 2 with (first
    | (refine wpList_load_box rfl 27 _ rfl g rfl (wkC P a) (HX0.out) _ Tryz.underlying27 rfl size_wk ?_)
    | (go_at_call 15; refine (rcopyWk_any P a w0 (HIN.out _ (Below.refl _ _)) (HF.out.more (by decide))).mono ?_; rintro e w4 ⟨a4, rfl, hn4, hb4⟩; dsimp only [wkV, Ad.v]))
  obtain ⟨w5, hw5⟩ : ∃ w5, w5 = w4.alloc (.cells #[.int .i64 P.i, .int .i64 P.N, .int .i64 P.x, .slice a4.O.A a4.O.n a4.O.c, .int .i64 P.g, .int .i64 P.c, .slice a4.W.A a4.W.n a4.W.c, .slice a4.H.A a4.H.n a4.H.c, .slice a4.R.A a4.R.n a4.R.c, .slice none 0 0] 75) := ⟨_, rfl⟩
  obtain ⟨s, hs⟩ : ∃ s, s = w4.heap.size := ⟨_, rfl⟩
  rw [← hw5, ← hs]
  have hst : StAt s w0.heap.size w5 P a4 [] noAd [] := by rw [hw5, hs]; exact st_new hn4 hb4.size
  have hb5 : Below w0.heap.size w0 w5 := by rw [hw5]; exact hb4.alloc hb4.size _
  have HST := Lib.hid hst
  have HB5 := Lib.hid hb5
  have HN4 := Lib.hid hn4
  have hs0 : w0.heap.size ≤ s := by rw [hs]; exact hb4.size
  have hs5 : s < w5.heap.size := hst.box.1
  have k1 : w5.cell? ⟨g, 1, none⟩ = some (.int .i64 P.N) := ((HX0.out.below hb5 hl0).2 1 _ rfl).1
  have hm5 : Below g w w5 := HB0.out.trans (hb5.mono hgw)
  clear hw5 hs hst hb5 hn4 hb4
  go_upto_region 4 with (first
    | (refine wpList_load_box rfl 48 _ rfl (g + 1) rfl (msgC m am) (HX1.out.below HB5.out hl1) _ Tryz.underlying48 rfl size_mes ?_)
    | (go_at_call 97; refine (HMC.out true HMB.out w5 hm5).mono ?_; rintro e w6 ⟨rfl, hb6⟩; have hb06 : Below w0.heap.size w0 w6 := HB5.out.trans (hb6.mono HB5.out.size); have HB06 := Lib.hid hb06; have q2 : w6.cell? ⟨g + 1, 2, none⟩ = some (.int .i64 m.t) := ((HX1.out.below hb06 hl1).2 2 _ rfl).1; have q0 : w6.cell? ⟨g + 1, 0, none⟩ = some (.int .i64 m.k) := ((HX1.out.below hb06 hl1).2 0 _ rfl).1; have z0 : w6.cell? ⟨g, 0, none⟩ = some (.int .i64 P.i) := ((HX0.out.below hb06 hl0).2 0 _ rfl).1; have HST6 := Lib.hid (HST.out.below hb6); have HSZ6 : Hid (w5.heap.size ≤ w6.heap.size) := hb6.size; clear hb6 hb06))
  have hmc := HX1.out.below HB06.out hl1
  have q1 : w6.cell? ⟨g + 1, 1, none⟩ = some (.int .i64 m.f) := (hmc.2 1 _ rfl).1
  have q3 : w6.cell? ⟨g + 1, 3, none⟩ = some (.int .i64 m.d) := (hmc.2 3 _ rfl).1
  have q4 : w6.cell? ⟨g + 1, 4, none⟩ = some (.int .i64 m.ba) := (hmc.2 4 _ rfl).1
  have q5 : w6.cell? ⟨g + 1, 5, none⟩ = some (.int .i64 m.bn) := (hmc.2 5 _ rfl).1
  have q6 : w6.cell? ⟨g + 1, 6, none⟩ = some (.slice am.AL am.nL am.cL) := (hmc.2 6 _ rfl).1
  have q17 : w6.cell? ⟨g + 1, 17, none⟩ = some (.slice am.AD am.nD am.cD) := (hmc.2 17 _ rfl).1
  have hg16 : g + 1 < w6.heap.size := hmc.1
  have hz6 : w0.heap.size ≤ w6.heap.size := HB06.out.size
  clear hmc
  obtain ⟨AD, nD, cD, hAD, hnD, hcD⟩ : ∃ A n c, am.AD = A ∧ am.nD = n ∧ am.cD = c := ⟨_, _, _, rfl, rfl, rfl⟩
  obtain ⟨AH, nH, cH, hoH⟩ : ∃ A n c, a4.H = ⟨A, n, c⟩ := ⟨_, _, _, rfl⟩
  have HOH := Lib.hid hoH
  have HLH : Hid (a4.hs.length = nH) := by have := HST6.out.pg.core.held.len; rw [hoH] at this; exact this
  have HEH := Lib.hid HST6.out.pg.core.eH
  have hzD : m.D.length = nD := by rw [← hnD]; exact (HMI.out w6 (HB0.out.trans (HB06.out.mono hgw))).zD
  have HLD := Lib.hid hzD
  have hnD2 : nD ≤ 1000000 := by have := HFM.out.sD; omega
  have HRD : Hid (∀ wX, Below w0.heap.size w0 wX → Rd wX AD (i64s m.D)) := by
    show ∀ wX, _
    intro wX hX
    rw [← hAD]
    exact (HMI.out wX (HB0.out.trans (hX.mono hgw))).rD
  have HMS : Hid (∀ wX, Below w0.heap.size w0 wX → wX.cell? ⟨g + 1, 1, none⟩ = some (.int .i64 m.f) ∧ wX.cell? ⟨g + 1, 17, none⟩ = some (.slice AD nD cD)) := by
    show ∀ wX, _
    intro wX hX
    have hb := HX1.out.below hX hl1
    rw [← hAD, ← hnD, ← hcD]
    exact ⟨(hb.2 1 _ rfl).1, (hb.2 17 _ rfl).1⟩
  have HS0 : Hid (StAt s w0.heap.size w6 P a4 (giveW P (m.D.take 0) m.f) noAd []) := by show StAt _ _ _ _ _ _ _ _; exact HST6.out
  clear hAD hnD hcD hoH hzD q1 q2 q3 q4 q5 q6 q17 z0 k1
  go_wp2_with fail
  clear q0
  go_loopw [8] (fun i wr => ∃ (k : Nat) (o2 : Ad) (ms2 : List (OtD × Ad)), i = .int .i64 k ∧ k ≤ nD ∧ Hid (StAt s w0.heap.size wr P a4 (giveW P (m.D.take k) m.f) o2 ms2) ∧ Hid (Below w0.heap.size w0 wr)) (fun i _ => nD - (intOf i).toNat)
  case atStart => exact ⟨0, noAd, [], rfl, Nat.zero_le _, HS0, HB06⟩
  case round =>
    clear HS0
    obtain ⟨k, o2, ms2, rfl, hk, HSI, HBK⟩ := hrel
    have i0 : (0 : Int) ≤ (k : Int) := by omega
    obtain ⟨c1, c17⟩ := HMS.out wr HBK.out
    by_cases hlt : k < nD
    · obtain ⟨bD, oD, hA, hbD, hcell⟩ := (HRD.out wr HBK.out).open_ (by rw [i64s_length, HLD.out]; omega)
      subst hA
      have hc1 := hcell k _ (i64s_at (by rw [HLD.out]; exact hlt))
      have hm : m.D[k]? = some (m.D[k]?.getD 0) := at_some (by rw [HLD.out]; exact hlt)
      obtain ⟨dk, hdk⟩ : ∃ dk, dk = m.D[k]?.getD 0 := ⟨_, rfl⟩
      rw [← hdk] at hc1 hm
      have HM := Lib.hid hm
      clear hm hdk hcell
      have i1 : (k : Int) < (nD : Int) := by omega
      have HFI := Lib.hid (sfind_is s w0.heap.size P a4 _ o2 ms2 dk wr HSI.out (by have := HF.out.h; omega))
      by_cases hr0 : 0 ≤ idxI P.hs dk
      · obtain ⟨p, yh, hp, hyh, hlook⟩ := idx_look hr0
        rw [hp] at HFI
        have HLK := Lib.hid hlook
        have j4 : (0 : Int) ≤ (p : Int) := by omega
        obtain ⟨y, hy⟩ : ∃ y, a4.hs[p]? = some y := by
          have h1 : (a4.hs.map Prod.fst)[p]? = some yh := by rw [HEH.out]; exact hyh
          rw [List.getElem?_map] at h1
          cases hq : a4.hs[p]? with
          | none => rw [hq] at h1; cases h1
          | some y => exact ⟨y, rfl⟩
        have hyy : y.1 = yh := by
          have h1 : (a4.hs.map Prod.fst)[p]? = some yh := by rw [HEH.out]; exact hyh
          rw [List.getElem?_map, hy] at h1
          exact Option.some.inj h1
        subst hyy
        have HY := Lib.hid hy
        have HMY := Lib.hid (List.mem_of_getElem? hy)
        have HYN : Hid (y.1.L.length ≤ 300000) := HF.out.l _ (List.mem_of_getElem? hyh)
        obtain ⟨gh, ch, hA, -, -, -, hpn, -, -⟩ := HSI.out.pg.core.held.cells hy
        rw [HOH.out] at hA hpn
        simp only at hA hpn
        subst hA
        have i5 : (p : Int) < (nH : Int) := by omega
        clear hr0 hp hyh hlook hy
        go_upto_region 24 with (go_at_call 84; refine HFI.out.mono ?_; rintro e w' ⟨rfl, rfl⟩)
        have hsq : ∀ wX, Below w0.heap.size w0 wX → ∀ lX oX mX, StAt s w0.heap.size wX P a4 lX oX mX → SG wX s g bD oD gh k p m.f dk nD cD nH cH y := by
          intro wX hX lX oX mX hst
          have h7 := hst.cells.2.2.2.2.2.2.2.1
          rw [HOH.out] at h7
          obtain ⟨gh', ch', hA', -, -, -, -, hce, -⟩ := hst.pg.core.held.cells HY.out
          rw [HOH.out] at hA'
          simp only [Option.some.injEq, Addr.mk.injEq, and_true] at hA'
          subst hA'
          obtain ⟨x1, x17⟩ := HMS.out wX hX
          obtain ⟨b', off', hB', -, hc'⟩ := (HRD.out wX hX).open_ (by rw [i64s_length, HLD.out]; omega)
          simp only [Option.some.injEq, Addr.mk.injEq, and_true] at hB'
          obtain ⟨rfl, rfl⟩ := hB'
          exact ⟨x1, x17, hc' k _ (by rw [i64s, List.getElem?_map, HM.out]; rfl), h7, hce 1 _ rfl, hce 2 _ rfl, hce 3 _ rfl⟩
        have HSQ := Lib.hid hsq
        have HYS := Lib.hid (slIn_own (HSI.out.pg.core.held.sub y HMY.out).1 (HSI.out.pg.core.held.sub y HMY.out).2)
        clear hsq c1 c17 hc1 hbD
        have hS0 : SG wr.drew s g bD oD gh k p m.f dk nD cD nH cH y := HSQ.out _ (HBK.out.trans ((Below.refl _ _).drew)) _ _ _ (HSI.out.below ((Below.refl _ _).drew))
        refine wp_region_held_drew (S := fun w' => SG w' s g bD oD gh k p m.f dk nD cD nH cH y) (by kernel_rfl) hS0 (fun _ => ?_)
        refine ytake_0 (v := ?vv1) (by kernel_rfl) (by kernel_rfl) (by kernel_rfl) (fun _ _ _ h => h) (Or.inl ⟨by rfl, ?hy1⟩) hS0 ?_
        case hy1 =>
          intro wX hSw
          go_simp
          try with_reducible rfl
        try simp only [Act.put, List.setIfInBounds_toArray, List.set_cons_zero, List.set_cons_succ]
        refine ytake_1 (v := ?vv2) (by kernel_rfl) (by kernel_rfl) (by kernel_rfl) (fun _ _ _ h => h) (Or.inl ⟨by rfl, ?hy2⟩) hS0 ?_
        case hy2 =>
          intro wX hSw
          go_simp
          try with_reducible rfl
        try simp only [Act.put, List.setIfInBounds_toArray, List.set_cons_zero, List.set_cons_succ]
        refine ytake_2 (v := ?vv3) (by kernel_rfl) (by kernel_rfl) (by kernel_rfl) (fun _ _ _ h => h) (Or.inl ⟨by rfl, ?hy3⟩) hS0 ?_
        case hy3 =>
          intro wX hSw
          have e1 := hSw.m1
          go_simp
          try with_reducible rfl
        try simp only [Act.put, List.setIfInBounds_toArray, List.set_cons_zero, List.set_cons_succ]
        refine ytake_3 (v := ?vv4) (by kernel_rfl) (by kernel_rfl) (by kernel_rfl) (fun _ _ _ h => h) (Or.inl ⟨by rfl, ?hy4⟩) hS0 ?_
        case hy4 =>
          intro wX hSw
          go_simp
          try with_reducible rfl
        try simp only [Act.put, List.setIfInBounds_toArray, List.set_cons_zero, List.set_cons_succ]
        refine ytake_4 (v := ?vv5) (by kernel_rfl) (by kernel_rfl) (by kernel_rfl) (fun _ _ _ h => h) (Or.inl ⟨by rfl, ?hy5⟩) hS0 ?_
        case hy5 =>
          intro wX hSw
          have e17 := hSw.m17
          go_simp
          try with_reducible rfl
        try simp only [Act.put, List.setIfInBounds_toArray, List.set_cons_zero, List.set_cons_succ]
        refine ytake_5 (v := ?vv6) (by kernel_rfl) (by kernel_rfl) (by kernel_rfl) (fun _ _ _ h => h) (Or.inl ⟨by rfl, ?hy6⟩) hS0 ?_
        case hy6 =>
          intro wX hSw
          go_simp
          try with_reducible rfl
        try simp only [Act.put, List.setIfInBounds_toArray, List.set_cons_zero, List.set_cons_succ]
        refine ytake_6 (v := ?vv7) (by kernel_rfl) (by kernel_rfl) (by kernel_rfl) (fun _ _ _ h => h) (Or.inl ⟨by rfl, ?hy7⟩) hS0 ?_
        case hy7 =>
          intro wX hSw
          go_simp
          try with_reducible rfl
        try simp only [Act.put, List.setIfInBounds_toArray, List.set_cons_zero, List.set_cons_succ]
        refine ytake_7 (v := ?vv8) (by kernel_rfl) (by kernel_rfl) (by kernel_rfl) (fun _ _ _ h => h) (Or.inl ⟨by rfl, ?hy8⟩) hS0 ?_
        case hy8 =>
          intro wX hSw
          have ed := hSw.dk
          go_simp
          try with_reducible rfl
        try simp only [Act.put, List.setIfInBounds_toArray, List.set_cons_zero, List.set_cons_succ]
        refine ytake_8 (v := ?vv9) (by kernel_rfl) (by kernel_rfl) (by kernel_rfl) (fun _ _ _ h => h) (Or.inl ⟨by rfl, ?hy9⟩) hS0 ?_
        case hy9 =>
          intro wX hSw
          go_simp
          try with_reducible rfl
        try simp only [Act.put, List.setIfInBounds_toArray, List.set_cons_zero, List.set_cons_succ]
        refine ytake_9 (v := ?vv10) (by kernel_rfl) (by kernel_rfl) (by kernel_rfl) (fun _ _ _ h => h) (Or.inl ⟨by rfl, ?hy10⟩) hS0 ?_
        case hy10 =>
          intro wX hSw
          go_simp
          try with_reducible rfl
        try simp only [Act.put, List.setIfInBounds_toArray, List.set_cons_zero, List.set_cons_succ]
        refine ytake_10 (v := ?vv11) (by kernel_rfl) (by kernel_rfl) (by kernel_rfl) (fun _ _ _ h => h) (Or.inl ⟨by rfl, ?hy11⟩) hS0 ?_
        case hy11 =>
          intro wX hSw
          go_simp
          try with_reducible rfl
        try simp only [Act.put, List.setIfInBounds_toArray, List.set_cons_zero, List.set_cons_succ]
        refine ytake_11 (v := ?vv12) (by kernel_rfl) (by kernel_rfl) (by kernel_rfl) (fun _ _ _ h => h) (Or.inl ⟨by rfl, ?hy12⟩) hS0 ?_
        case hy12 =>
          intro wX hSw
          go_simp
          try with_reducible rfl
        try simp only [Act.put, List.setIfInBounds_toArray, List.set_cons_zero, List.set_cons_succ]
        refine ytake_12 (v := ?vv13) (by kernel_rfl) (by kernel_rfl) (by kernel_rfl) (fun _ _ _ h => h) (Or.inl ⟨by rfl, ?hy13⟩) hS0 ?_
        case hy13 =>
          intro wX hSw
          have e7 := hSw.s7
          go_simp
          try with_reducible rfl
        try simp only [Act.put, List.setIfInBounds_toArray, List.set_cons_zero, List.set_cons_succ]
        refine ytake_13 (v := ?vv14) (by kernel_rfl) (by kernel_rfl) (by kernel_rfl) (fun _ _ _ h => h) (Or.inl ⟨by rfl, ?hy14⟩) hS0 ?_
        case hy14 =>
          intro wX hSw
          go_simp
          try with_reducible rfl
        try simp only [Act.put, List.setIfInBounds_toArray, List.set_cons_zero, List.set_cons_succ]
        refine ytake_14 (v := ?vv15) (by kernel_rfl) (by kernel_rfl) (by kernel_rfl) (fun _ _ _ h => h) (Or.inl ⟨by rfl, ?hy15⟩) hS0 ?_
        case hy15 =>
          intro wX hSw
          go_simp
          try with_reducible rfl
        try simp only [Act.put, List.setIfInBounds_toArray, List.set_cons_zero, List.set_cons_succ]
        refine ytake_15 (v := ?vv16) (by kernel_rfl) (by kernel_rfl) (by kernel_rfl) (fun _ _ _ h => h) (Or.inl ⟨by rfl, ?hy16⟩) hS0 ?_
        case hy16 =>
          intro wX hSw
          go_simp
          try with_reducible rfl
        try simp only [Act.put, List.setIfInBounds_toArray, List.set_cons_zero, List.set_cons_succ]
        refine ytake_16 (v := ?vv17) (by kernel_rfl) (by kernel_rfl) (by kernel_rfl) (fun _ _ _ h => h) (Or.inl ⟨by rfl, ?hy17⟩) hS0 ?_
        case hy17 =>
          intro wX hSw
          have b1 := hSw.y1
          have b2 := hSw.y2
          have b3 := hSw.y3
          go_simp
          try with_reducible rfl
        try simp only [Act.put, List.setIfInBounds_toArray, List.set_cons_zero, List.set_cons_succ]
        refine yready_17 (by kernel_rfl) ?_
        intro KQ hK
        rw [if_pos (by rfl)]
        try go_simp
        refine (rcopyBat_any y.1.a y.1.n y.2.A y.2.c y.2.n y.1.L _ HYS.out.len (HYS.out.below ((Below.refl _ _).drew)).rd HYS.out.cap (by have := HYS.out.len; have := HYN.out; have e : KH.len y.1 = y.1.L.length := rfl; omega)).mono ?_
        rintro e w8 ⟨A8, c8, rfl, ho8, -, -, -, hb8⟩
        have hb8w : Below wr.heap.size wr w8 := ((Below.refl _ _).drew).trans hb8
        have hS8 : SG w8 s g bD oD gh k p m.f dk nD cD nH cH y := HSQ.out _ (HBK.out.trans (hb8w.mono HBK.out.size)) _ _ _ (HSI.out.below hb8w)
        have HO8 : Hid (w8.ownsRow wr.heap.size 40 4 (.slice A8 y.2.n c8) y.2.n (txs y.1.L)) := ho8
        have HB8 := Lib.hid hb8w
        clear ho8 hb8
        refine hK.out _ _ hS8 (fun _ => ?_)
        clear hK KQ
        try simp only [Act.put, List.setIfInBounds_toArray, List.set_cons_zero, List.set_cons_succ]
        refine ytake_18 (v := ?vv18) (by kernel_rfl) (by kernel_rfl) (by kernel_rfl) (fun _ _ _ h => h) (Or.inl ⟨by rfl, ?hy18⟩) hS8 ?_
        case hy18 =>
          intro wX hSw
          go_simp
          try with_reducible rfl
        try simp only [Act.put, List.setIfInBounds_toArray, List.set_cons_zero, List.set_cons_succ]
        refine yready_19 (by kernel_rfl) ?_
        intro KQ hK
        rw [if_pos (by rfl)]
        try go_simp
        refine (tells_any s w0.heap.size wr.heap.size P a4 _ o2 ms2 ⟨3, 0, m.f, dk, y.1.a, y.1.n, y.1.L⟩ ⟨A8, y.2.n, c8⟩ w8 (HSI.out.below HB8.out) HSI.out.le HO8.out HYS.out.len (fun b hb => ?_) (by have h1 := HSI.out.lenO; have := give_len P (m.D.take k) m.f; rw [List.length_take] at this; omega)).mono ?_
        · have hbl := (own_lt HO8.out hb).2
          refine ⟨by have := HSI.out.box.1; omega, fun z hz hq => by have := (own_lt (HSI.out.out.sub z hz).1 hq).1; omega, fun z hz hq => by have := (own_lt (HSI.out.pg.core.held.sub z hz).1 hq).1; omega⟩
        rintro e w9 ⟨o9, rfl, hst9, ht9, hn9⟩
        have hb9 : Below w0.heap.size w0 w9 := (HBK.out.trans (HB8.out.mono HBK.out.size)).trans (ht9.below (fun b hb => by
          rcases hb with e | e
          · omega
          · exact (own_lt HSI.out.out.row e).2) (by have := HB8.out.size; have := HBK.out.size; omega))
        have hS9 : SG w9 s g bD oD gh k p m.f dk nD cD nH cH y := HSQ.out _ hb9 _ _ _ hst9
        have HST9 := Lib.hid hst9
        have HB9 := Lib.hid hb9
        clear hst9 ht9 hn9 hb9
        refine hK.out _ _ hS9 (fun _ => ?_)
        clear hK KQ
        try simp only [Act.put, List.setIfInBounds_toArray, List.set_cons_zero, List.set_cons_succ]
        refine wpAnyH_done (by kernel_rfl) ?_ _
        have HFIN : Hid (StAt s w0.heap.size w9 P a4 (giveW P (m.D.take (k + 1)) m.f) o9 (ms2 ++ [(⟨3, P.i, m.f, dk, y.1.a, y.1.n, y.1.L⟩, ⟨A8, y.2.n, c8⟩)])) := by
          show StAt _ _ _ _ _ _ _ _
          rw [give_nextR HM.out, HLK.out]
          exact HST9.out
        clear hS9 hS8 hb8w hS0
        go_wp2_with fail
        go_roundw
        case rel => exact ⟨k + 1, o9, _, by go_num, by omega, HFIN, HB9⟩
        case measure => simp [intOf]; omega
      · have hlook : lookH P.H dk = none := idx_none hr0
        obtain ⟨r, hr⟩ : ∃ r, r = idxI P.hs dk := ⟨_, rfl⟩
        rw [← hr] at HFI hr0
        have HSN : Hid (StAt s w0.heap.size wr P a4 (giveW P (m.D.take (k + 1)) m.f) o2 ms2) := by
          show StAt _ _ _ _ _ _ _ _
          rw [give_nextR HM.out, hlook, List.append_nil]
          exact HSI.out
        have j4 : ¬ (0 ≤ r) := hr0
        clear hr hr0 hlook
        go_wp2_with (go_at_call 84; refine HFI.out.mono ?_; rintro e w' ⟨rfl, rfl⟩)
        go_roundw
        case rel => exact ⟨k + 1, o2, ms2, by go_num, by omega, HSN, HBK⟩
        case measure => simp [intOf]; omega
    · have i1 : ¬ ((k : Int) < (nD : Int)) := by omega
      have HSO : Hid (StAt s w0.heap.size wr P a4 (giveW P m.D m.f) o2 ms2) := by
        have h1 := HSI.out
        rw [List.take_of_length_le (by rw [HLD.out]; omega)] at h1
        exact h1
      go_wp2_with fail
      go_ret2
      exact ⟨s, rfl, .inr ⟨w0.heap.size, a4, o2, ms2, by rw [HG.out]; exact hgw, by rw [HTW.out, HTO.out]; exact HSO.out, by rw [HG.out]; exact HB0.out.trans (HBK.out.mono hgw)⟩⟩

end Go.Proofs.YteepobghdpnabaaGreat
