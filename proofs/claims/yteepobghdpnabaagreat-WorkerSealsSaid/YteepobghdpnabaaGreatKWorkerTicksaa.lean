/-
  The laws' spoil of a list of messages.
-/
import Derived.Test.YteepobghdpnabaaGreatKWorkerTicksz
namespace Go.Proofs.YteepobghdpnabaaGreat
open Go.RowKit

abbrev ZC : List Value := [.int .i64 (-9), .int .i64 0, .int .i64 0, .int .i64 0, .int .i64 0, .int .i64 0, .slice none 0 0, .int .i64 0, .int .i64 0, .slice none 0 0, .slice none 0 0, .int .i64 0, .int .i64 0, .slice none 0 0, .slice none 0 0, .int .i64 0, .slice none 0 0, .slice none 0 0]
/-- the blocks that a row of messages owns -/
def rowMHas (o : Ad) (ms : List (MsgD × MsgA)) (j : Nat) : Prop := o.v.ownBlock = some j ∨ ∃ y ∈ ms, y.2.has j
set_option maxRecDepth 100000 in
set_option maxHeartbeats 8000000 in
theorem spoilMsgs_far (B : Nat) (o : Ad) (ms : List (MsgD × MsgA)) (w : World) (h : RowM B w o ms) (hn : ms.length ≤ 1000000) (hB : B ≤ w.heap.size) :
    Calls Tryz.prog 58 #[o.v] w fun e w' => e = .returned (.tuple #[]) ∧ Touch (rowMHas o ms) w w' := by
  obtain ⟨A, n, c⟩ := o
  have hz : ms.length = n := h.len
  have hn2 : n ≤ 1000000 := by omega
  have H := Lib.hid h
  have HZ := Lib.hid hz
  have HBB := Lib.hid hB
  unfold Ad.v
  have HS0 : Hid (w.ownsRow B 48 18 (.slice A n c) n ([] ++ cellsM (ms.drop 0))) := by show w.ownsRow _ _ _ _ _ _; rw [List.nil_append, List.drop_zero]; exact h.row
  have HLT : Hid (∀ j, ((Value.slice A n c).ownBlock = some j ∨ ∃ y ∈ ms, y.2.has j) → B ≤ j) := by
    show ∀ j, _
    rintro j (e | ⟨y, hy, e⟩)
    · exact (own_lt h.row e).2
    · exact ((h.sub y hy).1.lt e).2
  clear h hz hn hB
  go_enter Tryz.func58, Tryz.ntmps58
  go_wp2
  go_loopw [2] (fun i wr => ∃ (k : Nat) (pre : List Value), i = .int .i64 k ∧ k ≤ n ∧ Hid (pre.length = k * 18) ∧ Hid (wr.ownsRow B 48 18 (.slice A n c) n (pre ++ cellsM (ms.drop k))) ∧ Hid (Touch (fun j => (Value.slice A n c).ownBlock = some j ∨ ∃ y ∈ ms.take k, y.2.has j) w wr)) (fun i _ => n - (intOf i).toNat)
  case atStart => exact ⟨0, [], rfl, by omega, rfl, HS0, Lib.hid (Touch.refl _ _)⟩
  case round =>
    clear HS0
    obtain ⟨k, pre, rfl, hk, HP, HO, HT⟩ := hrel
    have i0 : (0 : Int) ≤ (k : Int) := by omega
    by_cases hlt : k < n
    · obtain ⟨x, hx⟩ : ∃ x, ms[k]? = some x := ⟨ms[k]'(by rw [HZ.out]; exact hlt), by simp⟩
      have hxm := List.mem_of_getElem? hx
      have hcell : cellsM (ms.drop k) = msgC x.1 x.2 ++ cellsM (ms.drop (k + 1)) := by
        obtain ⟨hl, he⟩ := List.getElem?_eq_some_iff.1 hx
        rw [List.drop_eq_getElem_cons hl, he]
        rfl
      have ho := HO.out
      rw [hcell] at ho
      obtain ⟨g, cap, hv, hBg, hglt⟩ := ho.form (by omega)
      simp only [Value.slice.injEq, true_and] at hv
      obtain ⟨rfl, rfl⟩ := hv
      have HR0 := Lib.hid ho
      have HAT : Hid (∀ wX : World, wX.ownsRow B 48 18 (.slice (some ⟨g, 0, none⟩) n c) n (pre ++ (msgC x.1 x.2 ++ cellsM (ms.drop (k + 1)))) → ∀ i u, (msgC x.1 x.2)[i]? = some u → wX.cell? ⟨g, k * 18 + i, none⟩ = some u) := by
        show ∀ wX, _
        intro wX hX i u hu
        have hi : i < 18 := (List.getElem?_eq_some_iff.1 hu).1
        rw [hX.cellAt (k * 18 + i) (by omega), List.getElem?_append_right (by rw [HP.out]; omega), HP.out, show k * 18 + i - k * 18 = i by omega, List.getElem?_append_left (show i < 18 from hi)]
        exact hu
      have hsub := H.out.sub x hxm
      have hno : ∀ j, x.2.has j → ¬ ((Value.slice (some ⟨g, 0, none⟩) n c).ownBlock = some j ∨ ∃ y ∈ ms.take k, y.2.has j) := by
        rintro j hj (e | ⟨y, hy, e⟩)
        · have hr := H.out.row
          rcases hj with hj | hj | hj | hj | hj | hj | hj
          · exact own_unlike hr hsub.1.oL (show 48 ≠ 40 by decide) e hj
          · exact own_unlike hr hsub.1.ohB (show 48 ≠ 3 by decide) e hj
          · exact own_unlike hr hsub.1.ohP (show 48 ≠ 3 by decide) e hj
          · exact own_unlike hr hsub.1.ocB (show 48 ≠ 3 by decide) e hj
          · exact own_unlike hr hsub.1.ocP (show 48 ≠ 3 by decide) e hj
          · exact own_unlike hr hsub.1.ocS (show 48 ≠ 3 by decide) e hj
          · exact own_unlike hr hsub.1.oD (show 48 ≠ 3 by decide) e hj
        · obtain ⟨i, hi⟩ := List.mem_iff_getElem?.1 hy
          rw [List.getElem?_take] at hi
          split at hi
          · rename_i hik
            have hp := List.pairwise_iff_getElem.1 H.out.nod i k (List.getElem?_eq_some_iff.1 hi).1 (List.getElem?_eq_some_iff.1 hx).1 hik j
            rw [(List.getElem?_eq_some_iff.1 hi).2, (List.getElem?_eq_some_iff.1 hx).2] at hp
            exact hp e hj
          · cases hi
      have HM : Hid (MsgNew B wr x.1 x.2) := hsub.1.kept fun j hj hl => HT.out.block j hl (hno j hj)
      have HA : Hid (MsgAp x.2) := hsub.2.1
      have HF : Hid (MsgFew 1000000 x.2) := hsub.2.2
      have HFAR : Hid (∀ j, (Value.slice (some ⟨g, 0, none⟩) n c).ownBlock = some j → ¬ x.2.has j) := by show ∀ j, _; exact fun j hj hx => hno j hx (.inl hj)
      have HXM : Hid (x ∈ ms.take (k + 1)) := List.mem_of_getElem? (by rw [List.getElem?_take, if_pos (Nat.lt_succ_self k)]; exact hx)
      have i1 : (k : Int) < (n : Int) := by omega
      clear hx hxm hcell ho hsub hno hBg
      have c6 : wr.cell? ⟨g, k * 18 + 6, none⟩ = some (.slice x.2.AL x.2.nL x.2.cL) := HAT.out wr HR0.out 6 _ rfl
      have HSL := Lib.hid (spoilTxs_far B (.slice x.2.AL x.2.nL x.2.cL) x.2.nL _ wr HM.out.oL HF.out.sL)
      go_upto_region 4 with (go_at_call 50; refine HSL.out.mono ?_; rintro e w2 ⟨rfl, ht2⟩)
      have ht2' : Touch (fun j => (Value.slice x.2.AL x.2.nL x.2.cL).ownBlock = some j) wr w2 := ht2
      have HR2 : Hid (w2.ownsRow B 48 18 (.slice (some ⟨g, 0, none⟩) n c) n (pre ++ (msgC x.1 x.2 ++ cellsM (ms.drop (k + 1))))) := own_kept HR0.out fun j hj hl => ht2'.block j hl fun e => HFAR.out j hj (.inl e)
      have oB2 := own_kept HM.out.ohB fun j hj hl => ht2'.block j hl fun e => own_unlike HM.out.oL HM.out.ohB (show 40 ≠ 3 by decide) e hj
      have oP2 := own_kept HM.out.ohP fun j hj hl => ht2'.block j hl fun e => own_unlike HM.out.oL HM.out.ohP (show 40 ≠ 3 by decide) e hj
      have ocB2 := own_kept HM.out.ocB fun j hj hl => ht2'.block j hl fun e => own_unlike HM.out.oL HM.out.ocB (show 40 ≠ 3 by decide) e hj
      have ocP2 := own_kept HM.out.ocP fun j hj hl => ht2'.block j hl fun e => own_unlike HM.out.oL HM.out.ocP (show 40 ≠ 3 by decide) e hj
      have ocS2 := own_kept HM.out.ocS fun j hj hl => ht2'.block j hl fun e => own_unlike HM.out.oL HM.out.ocS (show 40 ≠ 3 by decide) e hj
      have oD2 := own_kept HM.out.oD fun j hj hl => ht2'.block j hl fun e => own_unlike HM.out.oL HM.out.oD (show 40 ≠ 3 by decide) e hj
      have HSH := Lib.hid (spoilHdr_far x.1.ha x.1.hr x.2.AhB x.2.nhB x.2.chB x.1.hB x.2.AhP x.2.nhP x.2.chP x.1.hP B w2 HF.out.shB oB2 HF.out.shP oP2 HA.out.1 (fun j => (Value.slice x.2.AhB x.2.nhB x.2.chB).ownBlock = some j ∨ (Value.slice x.2.AhP x.2.nhP x.2.chP).ownBlock = some j) (fun j hj => hj))
      have HT2 := Lib.hid ht2'
      have HO2 : Hid (w2.ownsRow B 3 1 (.slice x.2.AcB x.2.ncB x.2.ccB) x.2.ncB (i64s x.1.cB) ∧ w2.ownsRow B 3 1 (.slice x.2.AcP x.2.ncP x.2.ccP) x.2.ncP (i64s x.1.cP) ∧ w2.ownsRow B 3 1 (.slice x.2.AcS x.2.ncS x.2.ccS) x.2.ncS (i64s x.1.cS) ∧ w2.ownsRow B 3 1 (.slice x.2.AD x.2.nD x.2.cD) x.2.nD (i64s x.1.D)) := ⟨ocB2, ocP2, ocS2, oD2⟩
      clear c6 ht2 ht2' oB2 oP2 ocB2 ocP2 ocS2 oD2
      have c7 : w2.cell? ⟨g, k * 18 + 7, none⟩ = some (.int .i64 x.1.ha) := HAT.out w2 HR2.out 7 _ rfl
      have c8 : w2.cell? ⟨g, k * 18 + 8, none⟩ = some (.int .i64 x.1.hr) := HAT.out w2 HR2.out 8 _ rfl
      have c9 : w2.cell? ⟨g, k * 18 + 9, none⟩ = some (.slice x.2.AhB x.2.nhB x.2.chB) := HAT.out w2 HR2.out 9 _ rfl
      have c10 : w2.cell? ⟨g, k * 18 + 10, none⟩ = some (.slice x.2.AhP x.2.nhP x.2.chP) := HAT.out w2 HR2.out 10 _ rfl
      go_upto_region 5 with (go_at_call 106; refine HSH.out.mono ?_; rintro e w3 ⟨rfl, ht3⟩)
      have ht3' : Touch (fun j => (Value.slice x.2.AhB x.2.nhB x.2.chB).ownBlock = some j ∨ (Value.slice x.2.AhP x.2.nhP x.2.chP).ownBlock = some j) w2 w3 := ht3
      have HR3 : Hid (w3.ownsRow B 48 18 (.slice (some ⟨g, 0, none⟩) n c) n (pre ++ (msgC x.1 x.2 ++ cellsM (ms.drop (k + 1))))) := own_kept HR2.out fun j hj hl => ht3'.block j hl fun e => HFAR.out j hj (.inr (e.imp id .inl))
      have ocB3 := own_kept HO2.out.1 fun j hj hl => ht3'.block j hl fun e => e.elim (fun e => HA.out.2.1 j e hj) (fun e => HA.out.2.2.2.2.1 j e hj)
      have ocP3 := own_kept HO2.out.2.1 fun j hj hl => ht3'.block j hl fun e => e.elim (fun e => HA.out.2.2.1 j e hj) (fun e => HA.out.2.2.2.2.2.1 j e hj)
      have ocS3 := own_kept HO2.out.2.2.1 fun j hj hl => ht3'.block j hl fun e => e.elim (fun e => HA.out.2.2.2.1 j e hj) (fun e => HA.out.2.2.2.2.2.2.1 j e hj)
      have oD3 := own_kept HO2.out.2.2.2 fun j hj hl => ht3'.block j hl fun e => e.elim (fun e => HM.out.ahB j hj e) (fun e => HM.out.ahP j hj e)
      have HSC := Lib.hid (spoilCert_far x.1.ca x.1.cr x.1.cd x.2.AcB x.2.ncB x.2.ccB x.1.cB x.2.AcP x.2.ncP x.2.ccP x.1.cP x.2.AcS x.2.ncS x.2.ccS x.1.cS B w3 HF.out.scB ocB3 HF.out.scP ocP3 HF.out.scS ocS3 HA.out.2.2.2.2.2.2.2.1 HA.out.2.2.2.2.2.2.2.2.1 HA.out.2.2.2.2.2.2.2.2.2 (fun j => (Value.slice x.2.AcB x.2.ncB x.2.ccB).ownBlock = some j ∨ (Value.slice x.2.AcP x.2.ncP x.2.ccP).ownBlock = some j ∨ (Value.slice x.2.AcS x.2.ncS x.2.ccS).ownBlock = some j) (fun j hj => hj))
      have HT3 := Lib.hid ht3'
      have HO3 := Lib.hid oD3
      clear c7 c8 c9 c10 ht3 ht3' ocB3 ocP3 ocS3 oD3 HO2
      have c11 : w3.cell? ⟨g, k * 18 + 11, none⟩ = some (.int .i64 x.1.ca) := HAT.out w3 HR3.out 11 _ rfl
      have c12 : w3.cell? ⟨g, k * 18 + 12, none⟩ = some (.int .i64 x.1.cr) := HAT.out w3 HR3.out 12 _ rfl
      have c13 : w3.cell? ⟨g, k * 18 + 13, none⟩ = some (.slice x.2.AcB x.2.ncB x.2.ccB) := HAT.out w3 HR3.out 13 _ rfl
      have c14 : w3.cell? ⟨g, k * 18 + 14, none⟩ = some (.slice x.2.AcP x.2.ncP x.2.ccP) := HAT.out w3 HR3.out 14 _ rfl
      have c15 : w3.cell? ⟨g, k * 18 + 15, none⟩ = some (.int .i64 x.1.cd) := HAT.out w3 HR3.out 15 _ rfl
      have c16 : w3.cell? ⟨g, k * 18 + 16, none⟩ = some (.slice x.2.AcS x.2.ncS x.2.ccS) := HAT.out w3 HR3.out 16 _ rfl
      go_upto_region 6 with (go_at_call 107; refine HSC.out.mono ?_; rintro e w4 ⟨rfl, ht4⟩)
      have ht4' : Touch (fun j => (Value.slice x.2.AcB x.2.ncB x.2.ccB).ownBlock = some j ∨ (Value.slice x.2.AcP x.2.ncP x.2.ccP).ownBlock = some j ∨ (Value.slice x.2.AcS x.2.ncS x.2.ccS).ownBlock = some j) w3 w4 := ht4
      have HR4 : Hid (w4.ownsRow B 48 18 (.slice (some ⟨g, 0, none⟩) n c) n (pre ++ (msgC x.1 x.2 ++ cellsM (ms.drop (k + 1))))) := own_kept HR3.out fun j hj hl => ht4'.block j hl fun e => HFAR.out j hj (.inr (.inr (.inr (e.imp id (·.imp id .inl)))))
      have HSD := Lib.hid (spoilNums_far B (.slice x.2.AD x.2.nD x.2.cD) x.2.nD _ w4 (own_kept HO3.out fun j hj hl => ht4'.block j hl (by
        rintro (e | e | e)
        · exact HM.out.acB j hj e
        · exact HM.out.acP j hj e
        · exact HM.out.acS j hj e)) (by have := HF.out.sD; omega))
      have HT4 := Lib.hid ht4'
      clear c11 c12 c13 c14 c15 c16 ht4 ht4'
      have c17 : w4.cell? ⟨g, k * 18 + 17, none⟩ = some (.slice x.2.AD x.2.nD x.2.cD) := HAT.out w4 HR4.out 17 _ rfl
      go_upto_region 7 with (go_at_call 108; refine HSD.out.mono ?_; rintro e w5 ⟨rfl, ht5⟩)
      have ht5' : Touch (fun j => (Value.slice x.2.AD x.2.nD x.2.cD).ownBlock = some j) w4 w5 := ht5
      have HR5 : Hid (w5.ownsRow B 48 18 (.slice (some ⟨g, 0, none⟩) n c) n (pre ++ (msgC x.1 x.2 ++ cellsM (ms.drop (k + 1))))) := own_kept HR4.out fun j hj hl => ht5'.block j hl fun e => HFAR.out j hj (.inr (.inr (.inr (.inr (.inr (.inr e))))))
      have hT5 : Touch (fun j => (Value.slice (some ⟨g, 0, none⟩) n c).ownBlock = some j ∨ ∃ y ∈ ms.take (k + 1), y.2.has j) w w5 := ((((HT.out.mono fun j hj => hj.imp id (fun ⟨y, hy, e⟩ => ⟨y, List.take_subset_take_left ms (Nat.le_succ k) hy, e⟩)).on (HT2.out.mono fun j hj => .inr ⟨x, HXM.out, .inl hj⟩)).on (HT3.out.mono fun j hj => .inr ⟨x, HXM.out, .inr (hj.imp id .inl)⟩)).on (HT4.out.mono fun j hj => .inr ⟨x, HXM.out, .inr (.inr (.inr (hj.imp id (·.imp id .inl))))⟩)).on (ht5'.mono fun j hj => .inr ⟨x, HXM.out, .inr (.inr (.inr (.inr (.inr (.inr hj)))))⟩)
      have HT5 := Lib.hid hT5
      have hlen5 : k * 18 + 18 ≤ (pre ++ (msgC x.1 x.2 ++ cellsM (ms.drop (k + 1)))).length := by rw [HR5.out.1]; omega
      clear c17 ht5 ht5' hT5
      go_wp2_with (refine wpList_store_row rfl 48 _ _ rfl B n c g 18 (k * 18) 48 ZC (pre ++ (msgC x.1 x.2 ++ cellsM (ms.drop (k + 1)))) rfl rfl HR5.out hlen5 size_mes rfl ?_; intro w6 hr6 T6)
      have hr6' : w6.ownsRow B 48 18 (.slice (some ⟨g, 0, none⟩) n c) n ((pre ++ ZC) ++ cellsM (ms.drop (k + 1))) := by
        have e : List.take (k * 18) (pre ++ (msgC x.1 x.2 ++ cellsM (ms.drop (k + 1)))) ++ ZC ++ List.drop (k * 18 + ZC.length) (pre ++ (msgC x.1 x.2 ++ cellsM (ms.drop (k + 1)))) = (pre ++ ZC) ++ cellsM (ms.drop (k + 1)) := by
          rw [← HP.out, List.take_left', ← List.append_assoc pre, List.drop_left']
          · rw [List.length_append]; rfl
          · rfl
        rw [e] at hr6
        exact hr6
      have HR6 := Lib.hid hr6'
      have hT6 := HT5.out.on (T6 (fun j => (Value.slice (some ⟨g, 0, none⟩) n c).ownBlock = some j ∨ ∃ y ∈ ms.take (k + 1), y.2.has j) (.inl rfl))
      have HT6 := Lib.hid hT6
      clear hr6 hr6' T6 hT6
      go_roundw
      case rel =>
        refine ⟨k + 1, pre ++ ZC, by go_num, by omega, ?_, HR6, HT6⟩
        show _ = _
        rw [List.length_append, HP.out]
        show k * 18 + 18 = (k + 1) * 18
        omega
      case measure => simp [intOf]; omega
    · have i1 : ¬ ((k : Int) < (n : Int)) := by omega
      obtain rfl : k = n := by omega
      have hall : Touch (fun j => (Value.slice A k c).ownBlock = some j ∨ ∃ y ∈ ms, y.2.has j) w wr := HT.out.mono fun j hj => hj.imp id (fun ⟨y, hy, e⟩ => ⟨y, List.mem_of_mem_take hy, e⟩)
      have hsw := hall.size
      have HALL := Lib.hid hall
      have ho := HO.out
      obtain ⟨A6, c6, w6, hr6, ho6, hg6, -⟩ := run_app_rowsZ (P := Tryz.prog) (wr.alloc (.cells (msgC zeroM zeroA).toArray 48)) 73 73 B 48 (msgV zeroM zeroA) 18 256 Tryz.underlying73 info_mesZ rfl (by decide) (by decide) (.slice A k c) k _ (ho.alloc _) (some ⟨wr.heap.size, 0, none⟩) 1 1 (msgC zeroM zeroA) rfl (rd_new wr _ 48) (fun u hu => List.all_eq_true.1 (show (msgC zeroM zeroA).all (·.oneCell') = true from rfl) u hu) (by omega) (by have := HBB.out; simp; omega)
      have HR6 := Lib.hid hr6
      have hb6 : Touch (fun j => (Value.slice A k c).ownBlock = some j ∨ ∃ y ∈ ms, y.2.has j) w w6 := (HALL.out.alloc (.cells (msgC zeroM zeroA).toArray 48)).on (Touch.grown hg6 fun j hj => .inl hj)
      have HB6 := Lib.hid hb6
      clear hr6 ho6 hg6 hall ho hb6
      go_wp2_with (at_builtin; refine wpList_app_run (v := .slice A k c) (u := .slice (some ⟨wr.heap.size, 0, none⟩) 1 1) _ rfl _ _ 73 73 rfl rfl rfl HR6.out ?_)
      go_end0
      exact ⟨rfl, HB6.out⟩
theorem spoilMsgs_any (B : Nat) (o : Ad) (ms : List (MsgD × MsgA)) (w : World) (h : RowM B w o ms) (hn : ms.length ≤ 1000000) (hB : B ≤ w.heap.size) :
    Calls Tryz.prog 58 #[o.v] w fun e w' => e = .returned (.tuple #[]) ∧ Below B w w' :=
  (spoilMsgs_far B o ms w h hn hB).mono fun e w' ⟨he, ht⟩ => ⟨he, ht.below (fun k hk => by
    rcases hk with hk | ⟨y, hy, hk⟩
    · exact (own_lt h.row hk).2
    · exact ((h.sub y hy).1.lt hk).2) hB⟩

end Go.Proofs.YteepobghdpnabaaGreat
