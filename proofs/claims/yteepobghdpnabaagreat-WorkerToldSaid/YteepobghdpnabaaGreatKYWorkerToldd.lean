/-
 What Take keeps: the message and the result aside; the held batches' order.
-/
import Derived.Test.YteepobghdpnabaaGreatKDe
import Derived.Test.YteepobghdpnabaaGreatKYWorkerToldc
namespace Go.Proofs.YteepobghdpnabaaGreat
open Go.RowKit

theorem ackW_same (P : WkD) (d f : Int) : (ackW P d f).i = P.i ∧ (ackW P d f).N = P.N ∧ (ackW P d f).H = P.H ∧ (ackW P d f).R = P.R ∧ (ackW P d f).O = P.O ∧ (ackW P d f).W.length = P.W.length := ⟨rfl, rfl, rfl, rfl, rfl, by simp [ackW]⟩
theorem withI_len (l : List Int) (n : Int) : (withI l n).length ≤ l.length + 1 := by
 unfold withI
 split
 ·omega
 ·rw [insAt_length _ _ _ (posI_le l n)]; omega
theorem ackW_mem {P : WkD} {d f : Int} {x : WtD} (h : x ∈ (ackW P d f).W) : ∃ y ∈ P.W, x.d = y.d ∧ (x.S = y.S ∨ x.S = withI y.S f) := by
 obtain ⟨y, hy, e⟩ := List.mem_map.1 h
 refine ⟨y, hy, ?_⟩
 rw [← e]
 split
 ·exact ⟨rfl, .inr rfl⟩
 ·exact ⟨rfl, .inl rfl⟩
theorem ack_few {P : WkD} {d f : Int} (hf : WFew P 300000) : WFew (ackW P d f) 400000 := by
 have h := ackW_same P d f
 refine ⟨by rw [h.2.2.2.2.1]; have := hf.o; omega, by rw [h.2.2.2.2.2]; have := hf.w; omega, by rw [h.2.2.1]; have := hf.h; omega, by rw [h.2.2.2.1]; have := hf.r; omega, fun x hx => ?_, fun x hx => by rw [h.2.2.1] at hx; have := hf.l x hx; omega⟩
 obtain ⟨y, hy, -, e⟩ := ackW_mem hx
 have := hf.s y hy
 rcases e with e | e
 ·rw [e]; omega
 ·rw [e]; have := withI_len y.S f; omega
theorem ack_digs {P : WkD} {d f : Int} (h : ∀ x ∈ P.W, digB x.d = true) : ∀ x ∈ (ackW P d f).W, digB x.d = true := fun x hx => by
 obtain ⟨y, hy, e, -⟩ := ackW_mem hx
 rw [e]; exact h y hy
theorem MayW.srise {P : WkD} (h : MayW P) : ∀ x ∈ P.W, RiseI x.S := fun x hx => by
 obtain ⟨i, hi⟩ := List.mem_iff_getElem?.1 hx
 exact riseI_risB.1 (h.waits i x hi).2.1

end Go.Proofs.YteepobghdpnabaaGreat
namespace Go.Proofs.YteepobghdpnabaaGreat
open Go.RowKit

section
variable {g B : Nat} {w w2 : World} {P : WkD} {a : WkA} {l : List OtD} {o ho o8 : Ad} {ms : List (OtD × Ad)} {ws : List (WtD × Ad)} {L : List WtD}
end

section
variable {g B C k : Nat} {P : WkD} {a : WkA} {l : List OtD} {o : Ad} {ms : List (OtD × Ad)} {w wr w1 w2 : World} {oL oL' o8 o8' : Ad} {x : WtD × Ad}
end

def KeptTo (g B : Nat) (P : WkD) (a : WkA) (l : List OtD) (o : Ad) (ms : List (OtD × Ad)) (w : World) (e : Ending) (w' : World) : Prop := ∃ a', e = .returned (.tuple #[]) ∧ StAt g B w' (settleW P) a' l o ms ∧ Touch (fun k => k = g ∨ a.R.v.ownBlock = some k) w w'
set_option maxRecDepth 100000 in
set_option maxHeartbeats 16000000 in
theorem kept_any (g B : Nat) (P : WkD) (a : WkA) (l : List OtD) (o : Ad) (ms : List (OtD × Ad)) (w : World) (h : StAt g B w P a l o ms) (hm : may P.N = true) (hr : RiseI P.ds) (hf : WFew P 400000) :
    Calls Tryz.prog 88 #[.pointer (some ⟨g, 0, none⟩)] w (KeptTo g B P a l o ms w) := by
  obtain ⟨i0, hi0, hz0, hz1, hz2⟩ := info_parts info_zwait
  have HI0 := Lib.hid hi0
  have HZ0 := Lib.hid hz0
  have HZ1 := Lib.hid hz1
  have HZ2 := Lib.hid hz2
  have HM := Lib.hid hm
  have HF := Lib.hid hf
  have HR := Lib.hid hr
  have HEW := Lib.hid h.pg.core.eW
  have HA := Lib.hid h
  have hgl : g < w.heap.size := h.box.1
  have hnW : a.ms.length = a.W.n := h.pg.core.waits.len
  have hnl : a.ms.length ≤ 400000 := by rw [len_fst h.pg.core.eW]; exact hf.w
  obtain ⟨AW, nW, cW, hoW⟩ : ∃ A n c, a.W = ⟨A, n, c⟩ := ⟨_, _, _, rfl⟩
  have HOW := Lib.hid hoW
  rw [hoW] at hnW
  have HNW : Hid (a.ms.length = nW) := hnW
  have hnW2 : nW ≤ 400000 := by have := HNW.out; omega
  have HSL : Hid (KL g B w.heap.size P a l o ms w ⟨none, 0, 0⟩ a.R 0 w) := by
    have e1 : goneI P.N (a.ms.take 0) P.R = [] := rfl
    have e2 : leftK P.N (a.ms.take 0) = [] := rfl
    exact ⟨by rw [e1, List.append_nil]; exact h, by rw [e2]; exact World.ownsRow_nil _ _ _ _, by rw [e2]; rfl, Nat.le_refl _, h.le, hgl, fun j hj => (own_lt h.pg.core.waits.row hj).1, Touch.refl _ _, fun j hj => .inl hj, Nat.le_refl _⟩
  obtain ⟨C, hC⟩ : ∃ C, C = w.heap.size := ⟨_, rfl⟩
  rw [← hC] at HSL
  clear hC hi0 hz0 hz1 hz2 hm hf hr hoW hnW hnl h
  go_enter Tryz.func88, Tryz.ntmps88
  go_wp2_with fail
  go_loopw [2, 3] (fun v i wr => ∃ (k : Nat) (oL o8 : Ad), i = .int .i64 k ∧ v = .slice oL.A oL.n oL.c ∧ k ≤ nW ∧ Hid (KL g B C P a l o ms w oL o8 k wr)) (fun _ i _ => nW - (intOf i).toNat)
  case atStart => exact ⟨0, ⟨none, 0, 0⟩, a.R, rfl, rfl, Nat.zero_le _, HSL.out⟩
  case round =>
    obtain ⟨k, oL, o8, rfl, rfl, hk, HS⟩ := hrel
    have hc := HS.out.at_.cells
    rw [HOW.out] at hc
    obtain ⟨k0, k1, k2, k3, k4, k5, k6, k7, k8, k9⟩ := hc
    have hgw : g < wr.heap.size := HS.out.at_.box.1
    have i0' : (0 : Int) ≤ (k : Int) := by omega
    by_cases hlt2 : k < nW
    · obtain ⟨x, hx⟩ : ∃ x, a.ms[k]? = some x := ⟨_, List.getElem?_eq_getElem (by rw [HNW.out]; exact hlt2)⟩
      have HX := Lib.hid hx
      obtain ⟨gr, cr, hA, hcr, hBg, hgrl, -, hcell, -⟩ := HS.out.at_.pg.core.waits.cells hx
      rw [HOW.out] at hA
      simp only at hA
      subst hA
      have c0 : wr.cell? ⟨gr, k * 2, none⟩ = some (.int .i64 x.1.d) := hcell 0 _ rfl
      have c1 : wr.cell? ⟨gr, k * 2 + 1, none⟩ = some (.slice x.2.A x.2.n x.2.c) := hcell 1 _ rfl
      have hsub := slIn_own (HS.out.at_.pg.core.waits.sub x (List.mem_of_getElem? hx)).1 (HS.out.at_.pg.core.waits.sub x (List.mem_of_getElem? hx)).2
      have HFX : Hid (x.1.S.length ≤ 400000) := HF.out.s _ (mem_fst HEW.out (List.mem_of_getElem? hx))
      have HCUR : Hid (x.1.d ∈ P.R ++ goneI P.N (a.ms.take k) P.R ↔ x.1.d ∈ P.R) := by
        show _ ↔ _
        rw [List.mem_append]
        refine ⟨fun h => h.elim id fun h => ?_, .inl⟩
        unfold goneI at h
        obtain ⟨y, hy, hyd⟩ := List.mem_map.1 (List.mem_filter.1 h).1
        obtain ⟨j, hj⟩ := List.mem_iff_getElem?.1 (List.mem_filter.1 hy).1
        rw [List.getElem?_take] at hj
        split at hj
        · rename_i hjk
          have e1 : P.ds[j]? = some y.1.d := by rw [WkD.ds, ← HEW.out, List.map_map, List.getElem?_map, hj]; rfl
          have e2 : P.ds[k]? = some x.1.d := by rw [WkD.ds, ← HEW.out, List.map_map, List.getElem?_map, HX.out]; rfl
          have := HR.out j k _ _ hjk e1 e2
          omega
        · cases hj
      clear hx hcell hcr k0 k2 k3 k4 k5 k7 k9
      have i1 : (k : Int) < (nW : Int) := by omega
      go_upto_region 5 with fail
      obtain ⟨w2, hw2⟩ : ∃ w2, w2 = wr.alloc (.cells #[.int .i64 x.1.d, .slice x.2.A x.2.n x.2.c] 56) := ⟨_, rfl⟩
      rw [← hw2]
      have hb2 : Below wr.heap.size wr w2 := by rw [hw2]; exact (Below.refl _ _).alloc (Nat.le_refl _) _
      have bx2 : Box w2 wr.heap.size [.int .i64 x.1.d, .slice x.2.A x.2.n x.2.c] := by rw [hw2]; exact box_new wr _ _
      have HS2 := Lib.hid (HS.out.skip hb2)
      have hsub2 : SlIn w2 x.2 x.1.S.length (i64s x.1.S) := hsub.below hb2
      have HSUB := Lib.hid hsub2
      have y0 : ∀ z : Calm w2, z.val.cell? ⟨wr.heap.size, 0, none⟩ = some (.int .i64 x.1.d) := fun z => (z.ok.cell (p := ⟨wr.heap.size, 0, none⟩) bx2.1).trans (bx2.2 0 _ rfl).1
      have y1 : ∀ z : Calm w2, z.val.cell? ⟨wr.heap.size, 1, none⟩ = some (.slice x.2.A x.2.n x.2.c) := fun z => (z.ok.cell (p := ⟨wr.heap.size, 1, none⟩) bx2.1).trans (bx2.2 1 _ rfl).1
      have yN : ∀ z : Calm w2, z.val.cell? ⟨g, 1, none⟩ = some (.int .i64 P.N) := fun z => (z.ok.cell (p := ⟨g, 1, none⟩) HS2.out.at_.box.1).trans (HS2.out.at_.box.2 1 _ rfl).1
      have HCT : Hid (∀ z : Calm w2, Calls Tryz.prog 118 #[.int .i64 P.N, .slice x.2.A x.2.n x.2.c] z.val fun e w' => e = .returned (.int .i64 (tal P.N x.1.S : Int)) ∧ z.val = w') := fun z => count_any P.N x.2.A x.2.c x.2.n x.1.S z.val (may_yes HM.out).1 (may_yes HM.out).2.1 HSUB.out.len (HSUB.out.rd.below z.ok) (by have := HFX.out; have := HSUB.out.len; omega)
      have HQU : Hid (∀ z : Calm w2, Calls Tryz.prog 119 #[.int .i64 P.N] z.val fun e w' => e = .returned (.int .i64 (2 * (P.N / 3) + 1)) ∧ z.val = w') := fun z => rquorum_yes P.N HM.out z.val
      have HBX := Lib.hid bx2
      have hwl := bx2.1
      clear hw2 bx2 c0 c1 hsub k1 hb2 hsub2 k6 k8
      obtain ⟨T, hT⟩ : ∃ T : Int, T = (tal P.N x.1.S : Int) := ⟨_, rfl⟩
      obtain ⟨Q, hQ⟩ : ∃ Q : Int, Q = 2 * (P.N / 3) + 1 := ⟨_, rfl⟩
      rw [← hT] at HCT
      rw [← hQ] at HQU
      have HEN : Hid (enough P.N x.1.S = decide (Q ≤ T)) := by show _ = _; rw [hT, hQ]; rfl
      clear hT hQ
      refine wp_region_calm (by kernel_rfl) (by kernel_rfl) ?_
      repeat (go_big_quiet_step (first
        | (go_at_call 118; exact calm_same (HCT.out _))
        | (go_at_call 119; exact calm_same (HQU.out _))))
      refine wpQuiet_nil ?_
      rintro _ ⟨z, rfl⟩
      have hz := z.ok
      have HS3 := Lib.hid (HS2.out.skip hz)
      have d0 := y0 z
      have d1 := y1 z
      have hzl : wr.heap.size < z.val.heap.size := by have := hz.size; omega
      have HBZ := Lib.hid (HBX.out.below hz hwl)
      obtain ⟨w3, hw3⟩ : ∃ w3, w3 = z.val := ⟨_, rfl⟩
      rw [← hw3] at d0 d1 HS3 hzl HBZ ⊢
      clear hz y0 y1 yN hw3 z HS2 hwl HBX HCT HQU
      have hRl := HF.out.r
      have hlens : oL.n ≤ k ∧ o8.n ≤ P.R.length + k := by
        have h1 := HS3.out.lenL
        have h2 := HS3.out.at_.pg.core.rL
        have h3 := leftK_len P.N (a.ms.take k)
        have h4 := goneI_len P.N (a.ms.take k) P.R
        have h5 : (a.ms.take k).length ≤ k := by rw [List.length_take]; exact Nat.min_le_left _ _
        simp only [List.length_append] at h2
        omega
      by_cases hQT : Q ≤ T
      · have he : enough P.N x.1.S = true := by rw [HEN.out]; exact decide_eq_true hQT
        have HE := Lib.hid he
        have jq : ¬ (T < Q) := by omega
        clear he hQT HEN
        have k83 : w3.cell? ⟨g, 8, none⟩ = some (.slice o8.A o8.n o8.c) := HS3.out.at_.cells.2.2.2.2.2.2.2.2.1
        have hRin := slIn_own HS3.out.at_.pg.core.ready HS3.out.at_.pg.core.rL
        have HIN : Hid (∀ z : Calm w3, Calls Tryz.prog 75 #[.slice o8.A o8.n o8.c, .int .i64 x.1.d] z.val fun e w' => e = .returned (.int .i64 (idxI (P.R ++ goneI P.N (a.ms.take k) P.R) x.1.d)) ∧ z.val = w') := fun z => rin_is _ _ _ _ _ z.val hRin.len (hRin.rd.below z.ok) (by omega)
        have hg3 : g < w3.heap.size := HS3.out.at_.box.1
        have y8 : ∀ z : Calm w3, z.val.cell? ⟨g, 8, none⟩ = some (.slice o8.A o8.n o8.c) := fun z => (z.ok.cell (p := ⟨g, 8, none⟩) hg3).trans k83
        have y0 : ∀ z : Calm w3, z.val.cell? ⟨wr.heap.size, 0, none⟩ = some (.int .i64 x.1.d) := fun z => (z.ok.cell (p := ⟨wr.heap.size, 0, none⟩) hzl).trans d0
        obtain ⟨r, hr⟩ : ∃ r, r = idxI (P.R ++ goneI P.N (a.ms.take k) P.R) x.1.d := ⟨_, rfl⟩
        rw [← hr] at HIN
        have HRI : Hid (0 ≤ r ↔ x.1.d ∈ P.R) := by show _ ↔ _; rw [hr]; exact idxI_ge.trans HCUR.out
        clear hr k83 hRin
        go_upto_region 7 with fail
        refine wp_region_calm (by kernel_rfl) (by kernel_rfl) ?_
        repeat (go_big_quiet_step (first
          | (go_at_call 75; exact calm_same (HIN.out _))))
        refine wpQuiet_nil ?_
        rintro _ ⟨z, rfl⟩
        have hz := z.ok
        have HS4 := Lib.hid (HS3.out.skip hz)
        have e0 := y0 z
        have hzl4 : wr.heap.size < z.val.heap.size := by have := hz.size; omega
        obtain ⟨w4, hw4⟩ : ∃ w4, w4 = z.val := ⟨_, rfl⟩
        rw [← hw4] at e0 HS4 hzl4 ⊢
        clear hz y0 y8 hw4 z HIN HS3 d0 d1 hzl HBZ
        by_cases hr0 : 0 ≤ r
        · have HDR : Hid (x.1.d ∈ P.R) := HRI.out.1 hr0
          have jr : ¬ (r < 0) := by omega
          clear hr0
          go_wp2_with fail
          go_roundw
          case rel => exact ⟨k + 1, oL, o8, by go_num, rfl, by omega, HS4.out.gone HX.out HE.out HDR.out⟩
          case measure => simp [intOf]; omega
        · have HDR : Hid (x.1.d ∉ P.R) := fun h => hr0 (HRI.out.2 h)
          have jr : r < 0 := by omega
          clear hr0
          go_upto_region 8 with fail
          have hg4 : g < w4.heap.size := HS4.out.at_.box.1
          have b8 : w4.cell? ⟨g, 8, none⟩ = some (.slice o8.A o8.n o8.c) := HS4.out.at_.cells.2.2.2.2.2.2.2.2.1
          have f8 : w4.frozen? ⟨g, 8, none⟩ = false := (HS4.out.at_.box.2 8 _ rfl).2
          have HROW : Hid (w4.ownsRow B 3 1 (.slice o8.A o8.n o8.c) o8.n (i64s (P.R ++ goneI P.N (a.ms.take k) P.R))) := HS4.out.at_.pg.core.ready
          have HOB : Hid (∀ j, (Value.slice o8.A o8.n o8.c).ownBlock = some j → j ≠ g) := by show ∀ j, _; exact fun j hj => HS4.out.at_.far0 j (.inl (.inr (.inr (.inl hj))))
          have hB4 : B ≤ w4.heap.size := HS4.out.at_.le
          go_region_law (first
            | (refine step_app_lies _ (by rfl) _ _ _ (by rfl) B 3 (.int .i64 0) 8 Tryz.underlying25 info_zint rfl (by decide) _ o8.n (i64s (P.R ++ goneI P.N (a.ms.take k) P.R)) (by rfl) (HROW.out.alloc _) w4.heap.size (.int .i64 x.1.d) (by rfl) (cell_new _ _ _) (by rfl) (by omega) (by simp; omega) ?_
               intro g' c' w7 ho7 hg7 hl7
               have hba : Below w4.heap.size w4 (w4.drew.alloc (.cells #[.int .i64 x.1.d] 3)) := ((Below.refl _ _).drew).alloc (Nat.le_refl _) _
               have hmore := (HS4.out.skip hba).more (o8' := ⟨some ⟨g', 0, none⟩, o8.n + 1, c'⟩) HX.out HE.out HDR.out hg7 ho7 rfl (by rcases hl7 with hl7 | hl7; exact .inl hl7; exact .inr (by rw [hl7]; rfl))
               have hgl7 : some g ≠ (Value.slice o8.A o8.n o8.c).ownBlock := fun hq => HOB.out g hq.symm rfl
               have f7 : w7.frozen? ⟨g, 8, none⟩ = false := ((World.frozen?_of_block (a := ⟨g, 8, none⟩) (hg7.block g (show g < (w4.alloc (.cells #[.int .i64 x.1.d] 3)).heap.size by simp; omega) hgl7)).trans (hba.frozen (p := ⟨g, 8, none⟩) hg4)).trans f8
               have j7 : w7.cell? ⟨g, 8, none⟩ = some (.slice o8.A o8.n o8.c) := ((World.cell?_of_block (a := ⟨g, 8, none⟩) (hg7.block g (show g < (w4.alloc (.cells #[.int .i64 x.1.d] 3)).heap.size by simp; omega) hgl7)).trans (hba.cell (p := ⟨g, 8, none⟩) hg4)).trans b8))
          all_goals
            have HMORE := Lib.hid hmore
            clear hmore ho7 hg7 hl7
            go_wp2_with fail
            go_roundw
            case rel => exact ⟨k + 1, oL, ⟨some ⟨g', 0, none⟩, o8.n + 1, c'⟩, by go_num, rfl, by omega, HMORE.out⟩
            case measure => simp [intOf]; omega
      · have he : enough P.N x.1.S = false := by rw [HEN.out]; exact decide_eq_false hQT
        have HE := Lib.hid he
        have jq : T < Q := by omega
        have HB4 : Hid (Below w3.heap.size w3 (w3.alloc (.cells #[.int .i64 x.1.d, .slice x.2.A x.2.n x.2.c] 56))) := (Below.refl _ _).alloc (Nat.le_refl _) _
        clear he hQT HEN
        go_wp2_with (at_builtin; refine wpList_append_lies _ rfl _ _ 23 rfl C 56 i0 zwait 2 32 Tryz.underlying23 HI0.out HZ0.out HZ1.out HZ2.out rfl (by decide) (.slice oL.A oL.n oL.c) oL.n (cellsK KW (leftK P.N (a.ms.take k))) rfl (ownS_below HS3.out.left HB4.out) ⟨w3.heap.size, 0, none⟩ 1 1 (KW.cells x.1 x.2.v) rfl rfl (fun j y hj => by rw [Addr.add_lit, Nat.zero_add]; exact cells_new w3 (KW.cells x.1 x.2.v) 56 j y hj) (KW.one x.1 x.2.v rfl) (by decide) (by unfold maxLen; omega) (by omega) (by have := HS3.out.c; have := HB4.out.size; omega) _ rfl ?_)
        intro g' c' w5 q1 q2 q3 q4
        have hkeep := (HS3.out.skip HB4.out).keep (oL' := ⟨some ⟨g', 0, none⟩, oL.n + 1, c'⟩) HX.out HE.out q2 q1 rfl
        have HKEEP := Lib.hid hkeep
        clear q1 q2 q3 q4 hkeep d0 d1
        go_wp2_with fail
        go_roundw
        case rel => exact ⟨k + 1, ⟨some ⟨g', 0, none⟩, oL.n + 1, c'⟩, o8, by go_num, rfl, by omega, HKEEP.out⟩
        case measure => simp [intOf]; omega
    · have i1 : ¬ ((k : Int) < (nW : Int)) := by omega
      have f6 : wr.frozen? ⟨g, 6, none⟩ = false := (HS.out.at_.box.2 6 _ rfl).2
      have hend := HS.out.end_ (by rw [HNW.out]; omega) HEW.out
      have HEND := Lib.hid hend
      clear hend
      go_wp2_with fail
      go_end0
      exact ⟨_, rfl, HEND.out.1, HEND.out.2⟩

end Go.Proofs.YteepobghdpnabaaGreat
namespace Go.Proofs.YteepobghdpnabaaGreat
open Go.RowKit

theorem own_shape {w : World} {B e s n : Nat} {o : Ad} {xs : List Value} (h : w.ownsRow B e s o.v n xs) : (o.A = none ∨ ∃ g', o.A = some ⟨g', 0, none⟩) ∧ (o.A = none → o.c = 0) := by
 rcases h.2 with ⟨hv, _⟩ | ⟨g', cap', cur', hv, _⟩
 ·simp only [Ad.v, Value.slice.injEq] at hv
  exact ⟨.inl hv.1, fun _ => hv.2.2⟩
 ·simp only [Ad.v, Value.slice.injEq] at hv
  exact ⟨.inr ⟨g', hv.1⟩, fun hq => by rw [hv.1] at hq; cases hq⟩
end Go.Proofs.YteepobghdpnabaaGreat
