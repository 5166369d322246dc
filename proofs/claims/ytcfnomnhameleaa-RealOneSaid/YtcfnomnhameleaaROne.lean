/-
  The walk of 'RealOne'.
-/
import Derived.Test.YtcfnomnhameleaaROneD
import Derived.Deep.CutBlock
namespace Go.Proofs.Ytcfnomnhameleaa
open Go.RowKit

set_option maxRecDepth 100000 in
set_option maxHeartbeats 32000000 in
theorem realOne_is {I : BookIs} (K : BookK I) (R : RContracts I) (s : ScrD) (w : World) (h : ScrIn w s) :
    Calls Try.prog 5 #[scrV s] w (Tells w.heap.size w (.bool true)) := by
  obtain ⟨w1, hw1⟩ : ∃ w1, w1 = w.alloc (.cells #[.int .i64 s.N, .slice s.Al s.nl s.cl, .slice s.AM s.nM s.cM, .slice s.AP s.nP s.cP, .slice s.AW s.nW s.cW, .slice s.AX s.nX s.cX] 26) := ⟨_, rfl⟩
  have hb1 : Below w.heap.size w w1 := by rw [hw1]; exact (Below.refl _ _).alloc (Nat.le_refl _) _
  obtain ⟨gs, hgs⟩ : ∃ gs, gs = w.heap.size := ⟨_, rfl⟩
  have bx1 : Box w1 gs (scrC s) := by rw [hw1, hgs]; exact box_new w (scrC s) 26
  have HW := Lib.hid hw1
  have HX : Hid (∀ wX, Below w1.heap.size w1 wX → Box wX gs (scrC s)) := fun wX h => bx1.below h bx1.1
  have HI : Hid (∀ wX, Below w1.heap.size w1 wX → ScrIn wX s) := fun wX hX => h.below (hb1.trans (hX.mono hb1.size))
  have HB1 := Lib.hid hb1
  clear hw1 bx1 h hb1
  unfold scrV
  go_enter Try.func5, Try.ntmps5
  go_upto_region 1 with fail
  rw [← HW.out, ← hgs]
  clear hgs
  go_wp2_with (refine wpList_load_box rfl 26 _ rfl gs rfl (scrC s) (HX.out _ (Below.refl _ _)) _ Try.underlying26 rfl size_scr ?_)
  refine (heavy8_any s _ (HI.out _ (Below.refl _ _))).mono ?_
  rintro e w2 ⟨hv, rfl, hq2, hli⟩
  cases hv with
  | true =>
    go_wp2_with fail
    go_ret
    exact ⟨rfl, HB1.out.trans (hq2.mono HB1.out.size)⟩
  | false =>
    have HL := Lib.hid (hli rfl)
    clear hli
    obtain ⟨nW, hnW⟩ : ∃ nW, s.nW = nW := ⟨_, rfl⟩
    have HNW := Lib.hid hnW
    have HW200 : Hid (nW ≤ 200) := by have := HL.out.2.2.1; show nW ≤ 200; omega
    have HC0 : Hid (∀ wX, Below w1.heap.size w1 wX → wX.cell? ⟨gs, 0, none⟩ = some (.int .i64 s.N)) := fun wX h => ((HX.out _ h).2 0 _ rfl).1
    have HC4 : Hid (∀ wX, Below w1.heap.size w1 wX → wX.cell? ⟨gs, 4, none⟩ = some (.slice s.AW nW s.cW)) := fun wX h => by rw [← hnW]; exact ((HX.out _ h).2 4 _ rfl).1
    clear hnW
    go_wp2_with fail
    refine (K.new _).mono ?_
    rintro e w3 ⟨gb, F0, rfl, hI3, hF3, hq3⟩
    have hb3 : Below w1.heap.size w1 w3 := hq2.trans (hq3.mono hq2.size)
    have HI3 := Lib.hid hI3
    have HF3 : Hid (∀ k, F0 k → w1.heap.size ≤ k) := fun k hk => Nat.le_trans hq2.size (hF3 k hk)
    have HLT3 : Hid (∀ k, F0 k → k < w3.heap.size) := fun k hk => K.lt hI3 k hk
    clear hI3 hF3 hq3 hq2
    obtain ⟨gx, hgx⟩ : ∃ gx, gx = w3.heap.size := ⟨_, rfl⟩
    have HZgx := Lib.hid (box_new w3 zHdr 38)
    go_wp2_with (first
      | (refine wpList_store_box rfl 38 _ _ rfl w3.heap.size 0 hxC zHdr hxC rfl rfl HZgx.out (by simp [hxC, zHdr]) rfl size_hdr8 rfl ?_)
      | (refine wpList_run_to rfl 38 rfl (.pointer (some ⟨w3.heap.size, 0, none⟩)) (w3.alloc (.cells zHdr.toArray 38)) (by unfold execOp zHdr; go_simp; done) ?_))
    intro w4 bxgx Tgx
    have tgx := Tgx (fun k => k = w3.heap.size) rfl
    have hqw4 : Below w3.heap.size w3 w4 := ((Below.refl _ _).alloc (Nat.le_refl _) _).trans (tgx.below (fun k hk => by rw [hk]; exact Nat.le_refl _) (by simp))
    rw [← hgx] at bxgx ⊢
    clear Tgx tgx HZgx
    have HGXE := Lib.hid hgx
    have hgx3 : w3.heap.size ≤ gx := by rw [hgx]; exact Nat.le_refl _
    clear hgx
    obtain ⟨gw, hgw⟩ : ∃ gw, gw = w4.heap.size := ⟨_, rfl⟩
    obtain ⟨w5, hw5⟩ : ∃ w5, w5 = w4.alloc (.cells #[.int .i64 1] 3) := ⟨_, rfl⟩
    have hq5 : Below w4.heap.size w4 w5 := by rw [hw5]; exact (Below.refl _ _).alloc (Nat.le_refl _) _
    have hr5 : Rd w5 (some ⟨gw, 0, none⟩) (i64s [1]) := by rw [hw5, hgw]; exact rd_new w4 [.int .i64 1] 3
    have hw5s : gw < w5.heap.size := by rw [hw5, hgw]; simp
    have HW5 := Lib.hid hw5
    have HGW := Lib.hid hgw
    obtain ⟨gy, hgy⟩ : ∃ gy, gy = w5.heap.size := ⟨_, rfl⟩
    have hsz5 : w5.heap.size = gw + 1 := by rw [hw5, hgw]; simp
    have HGY2 : Hid (gy = gw + 1) := by show gy = gw + 1; rw [hgy, hsz5]
    have HZY := Lib.hid (box_new w5 zHdr 38)
    have HZL : Hid (Box ((w4.alloc (.cells #[.int .i64 1] 3)).alloc (.cells zHdr.toArray 38)) (w4.alloc (.cells #[.int .i64 1] 3)).heap.size zHdr) := by show Box _ _ _; rw [← hw5]; exact HZY.out
    have HGYS := Lib.hid hgy
    clear hw5 hgw hgy hsz5
    go_wp2_with (first
      | (refine wpList_store_box rfl 38 _ _ rfl (w4.alloc (.cells #[.int .i64 1] 3)).heap.size 0 (hyC w4.heap.size) zHdr (hyC w4.heap.size) rfl rfl HZL.out (by simp [hyC, zHdr]) rfl size_hdr8 rfl ?_)
      | (refine wpList_run_to rfl 38 rfl (.pointer (some ⟨(w4.alloc (.cells #[.int .i64 1] 3)).heap.size, 0, none⟩)) ((w4.alloc (.cells #[.int .i64 1] 3)).alloc (.cells zHdr.toArray 38)) (by unfold execOp zHdr; go_simp; done) ?_))
    rw [← HW5.out, ← HGW.out, ← HGY2.out]
    intro w6 bxy Ty
    have ty := Ty (fun k => k = w5.heap.size) HGYS.out
    have hqw6 : Below w5.heap.size w5 w6 := ((Below.refl _ _).alloc (Nat.le_refl _) _).trans (ty.below (fun k hk => by rw [hk]; exact Nat.le_refl _) (by simp))
    clear Ty ty HZY HZL HGY2
    have hq36 : Below w3.heap.size w3 w6 := hqw4.trans ((hq5.trans (hqw6.mono hq5.size)).mono hqw4.size)
    have hb6 : Below w1.heap.size w1 w6 := hb3.trans (hq36.mono hb3.size)
    have h34 := hqw4.size
    have h45 := hq5.size
    have h56 := hqw6.size
    have hgx4 : gx < w4.heap.size := bxgx.1
    have hgw4 : w4.heap.size ≤ gw := by rw [HGW.out]; exact Nat.le_refl _
    have hgy5 : w5.heap.size ≤ gy := by rw [HGYS.out]; exact Nat.le_refl _
    have HGL : Hid ((w3.heap.size ≤ gx ∧ gx < w6.heap.size) ∧ (w3.heap.size ≤ gw ∧ gw < w6.heap.size) ∧ (w3.heap.size ≤ gy ∧ gy < w6.heap.size)) := ⟨⟨hgx3, by omega⟩, ⟨by omega, by omega⟩, ⟨by omega, bxy.1⟩⟩
    have HI6 := Lib.hid (K.kept HI3.out hq36.size fun k hk => hq36.block k (K.lt HI3.out k hk))
    have HPX : Hid (∀ wX, Touch F0 w6 wX → Box wX gx hxC ∧ Box wX gy (hyC gw) ∧ Rd wX (some ⟨gw, 0, none⟩) (i64s [1])) := fun wX ht =>
      ⟨((bxgx.below hq5 bxgx.1).below hqw6 (by omega)).touch ht fun hk => by have := HLT3.out _ hk; omega, bxy.touch ht fun hk => by have := HLT3.out _ hk; omega, (hr5.below hqw6).kept ht.size fun a ha hl => ht.block _ hl fun hk => by cases ha; have := HLT3.out _ hk; simp only at this; omega⟩
    have HB6 := Lib.hid hb6
    clear hqw4 hq5 hqw6 hr5 hw5s HW5 HGW HGXE HGYS bxgx bxy hq36 hb6 h34 h45 h56 hgx3 hgx4 hgw4 hgy5 hb3
    go_wp2_with (refine wpList_load_box rfl 38 _ rfl gx rfl hxC (HPX.out _ (Touch.refl _ _)).1 _ Try.underlying38 rfl size_hdr8 ?_)
    refine (rheadBytes_any 1 1 none 0 0 [] none 0 0 [] _ wide_x rfl (Rd.nil _ _) rfl (Rd.nil _ _)).mono ?_
    rintro e w7 ⟨v7, rfl, ho7, hq7⟩
    obtain ⟨nx, hnx⟩ : ∃ nx, hxB.length = nx := ⟨_, rfl⟩
    have hnx2 : nx ≤ 1000 := by rw [← hnx]; exact head_small wide_x
    have ho7b : w7.ownsRow w6.heap.size 5 1 v7 nx (u8s hxB) := own_cast ho7 ((u8s_length _).trans hnx)
    obtain ⟨A7, c7, rfl, h71, h72, h73, h74, _⟩ := own_val ho7b
    have HG7 : Hid (Given w7 F0 A7 c7 nx hxB) := ⟨hnx, h73, headBytes_byts _ _ _ _, h71, h72, by omega, fun a ha _ hf => by have := HLT3.out _ hf; have := h74 a ha; have := HGL.out.1; omega⟩
    have HI7 := Lib.hid (K.kept HI6.out hq7.size fun k hk => hq7.block k (K.lt HI6.out k hk))
    have HQ67 := Lib.hid hq7
    clear ho7 ho7b h71 h72 h73 h74 hq7 hnx
    go_wp2_with fail
    refine (K.digest_new gb [] [] _ c7 nx hxB _ HI7.out HG7.out (by simp) rfl).mono ?_
    rintro e w8 ⟨rfl, F8, hI8, ht8, hf8⟩
    have HT68 : Hid (Touch F0 w6 w8) := (Touch.of HQ67.out).trans ht8 fun k hk => .inl hk
    have HF8 : Hid (∀ k, F8 k → F0 k ∨ w6.heap.size ≤ k) := fun k hk => (hf8 k hk).imp id fun e => Nat.le_trans HQ67.out.size e
    have HI8 := Lib.hid hI8
    clear hI8 ht8 hf8 HG7 HI7 HI6
    go_wp2_with (refine wpList_load_box rfl 38 _ rfl gy rfl (hyC gw) (HPX.out _ HT68.out).2.1 _ Try.underlying38 rfl size_hdr8 ?_)
    refine (rheadBytes_any 1 1 (some ⟨gw, 0, none⟩) 1 1 [1] none 0 0 [] _ wide_y rfl (HPX.out _ HT68.out).2.2 rfl (Rd.nil _ _)).mono ?_
    rintro e w9 ⟨v9, rfl, ho9, hq9⟩
    obtain ⟨ny, hny⟩ : ∃ ny, hyB.length = ny := ⟨_, rfl⟩
    have hny2 : ny ≤ 1000 := by rw [← hny]; exact head_small wide_y
    have ho9b : w9.ownsRow w8.heap.size 5 1 v9 ny (u8s hyB) := own_cast ho9 ((u8s_length _).trans hny)
    obtain ⟨A9, c9, rfl, h91, h92, h93, h94, _⟩ := own_val ho9b
    have HG9 : Hid (Given w9 F8 A9 c9 ny hyB) := ⟨hny, h93, headBytes_byts _ _ _ _, h91, h92, by omega, fun a ha _ hf => by have := K.lt HI8.out _ hf; have := h94 a ha; omega⟩
    have HI9 := Lib.hid (K.kept HI8.out hq9.size fun k hk => hq9.block k (K.lt HI8.out k hk))
    have HQ89 := Lib.hid hq9
    clear ho9 ho9b h91 h92 h93 h94 hq9 hny
    go_wp2_with fail
    refine (K.digest_new gb [hxB] [] _ c9 ny hyB _ HI9.out HG9.out (by simp) find_y).mono ?_
    rintro e w10 ⟨rfl, F, hI10, ht10, hf10⟩
    have HT610 : Hid (Touch F0 w6 w10) := (HT68.out.trans (Touch.of (HQ89.out)) (F' := fun _ => False) fun k hk => hk.elim).trans ht10 fun k hk => HF8.out k hk
    have HF10 : Hid (∀ k, F k → F0 k ∨ w6.heap.size ≤ k) := fun k hk => by
      rcases hf10 k hk with e | e
      · exact HF8.out k e
      · exact .inr (Nat.le_trans HT68.out.size (Nat.le_trans HQ89.out.size e))
    have HB10 : Hid (Below w1.heap.size w1 w10) := HB6.out.trans (HT610.out.below HF3.out HB6.out.size)
    have HI10 := Lib.hid hI10
    clear hI10 ht10 hf10 HG9 HI9 HI8
    go_wp2_with fail
    refine (num8_any _ _).mono ?_
    rintro e w' ⟨rfl, rfl⟩
    go_wp2_with fail
    refine (num8_any _ _).mono ?_
    rintro e w' ⟨rfl, rfl⟩
    have c0 := HC0.out _ HB10.out
    go_wp2_with fail
    refine (within_any s.N 4 _ (by decide) (by decide)).mono ?_
    rintro e w' ⟨⟨r, hr, rfl⟩, rfl⟩
    clear c0
    obtain ⟨l, hl⟩ : ∃ l, l = 1 + r := ⟨_, rfl⟩
    have hl4 := one_add4 hl hr
    have hwl := wrap_add4 hl hr
    have hwl2 : wrap64 (1 + (r : Int)) = (l : Int) := (IntWalk.i64_left _).symm.trans hwl
    obtain ⟨gA, hgA⟩ : ∃ gA, gA = w10.heap.size := ⟨_, rfl⟩
    obtain ⟨w11, hw11⟩ : ∃ w11, w11 = w10.alloc (.cells #[.int .i64 0, .int .i64 0, .int .i64 0, .int .i64 0, .int .i64 0] 62) := ⟨_, rfl⟩
    have hq11 : Below w10.heap.size w10 w11 := by rw [hw11]; exact (Below.refl _ _).alloc (Nat.le_refl _) _
    have hpx := HPX.out _ (HT610.out.then hq11)
    have hgl := HGL.out
    have hs610 := HT610.out.size
    have hno : ∀ g, w3.heap.size ≤ g → g < w6.heap.size → ¬ F g := fun g h1 h2 hk => by
      rcases HF10.out g hk with e | e
      · have := HLT3.out g e; omega
      · omega
    have HS : Hid (OneSt I w1 gb gx gy gw gA F [] [0, 0, 0, 0, 0] w11) := {
      bk := K.kept HI10.out hq11.size fun k hk => hq11.block k (K.lt HI10.out k hk)
      bel := HB10.out.trans (hq11.mono HB10.out.size)
      low := fun k hk => by
        rcases HF10.out k hk with e | e
        · exact HF3.out k e
        · have := HB6.out.size; omega
      lowA := by rw [hgA]; exact HB10.out.size
      bx := hpx.1
      yb := hpx.2.1
      rw_ := hpx.2.2
      ltw := by have := hq11.size; omega
      bA := by rw [hw11, hgA]; exact box_new w10 (i64s [0, 0, 0, 0, 0]) 62
      five := rfl
      no := ⟨hno gx hgl.1.1 hgl.1.2, hno gy hgl.2.2.1 hgl.2.2.2, hno gw hgl.2.1.1 hgl.2.1.2, fun hk => by have := K.lt HI10.out gA hk; omega⟩
      ne := ⟨by omega, by omega, by omega⟩ }
    have HW11 := Lib.hid hw11
    have HGA := Lib.hid hgA
    have HLL := Lib.hid hl
    have HL4 := Lib.hid hl4
    clear hw11 hgA hq11 hpx hgl hs610 hno hl hl4
    go_upto_region 14 with fail
    rw [← HW11.out, ← HGA.out]
    clear HW11 HGA HI3 HF3 HLT3 HPX HGL HB6 HT68 HF8 HT610 HF10 HB10 HI10 HQ67 HQ89 hwl hwl2 hnx2 hny2
    go_upto_block 0 with fail
    go_cut [12] from 13 to 108 (fun _ wx => ∃ (S : List (Int × Int)) (F : Nat → Prop) (f : List Int), Hid (S.length ≤ 20) ∧ Hid (SgOk S f l) ∧ Hid (OneSt I w1 gb gx gy gw gA F S f wx))
    case first =>
      go_wp2_with fail
      go_loopw [12] (fun i wr => ∃ (k : Nat) (S : List (Int × Int)) (F : Nat → Prop) (f : List Int), i = .int .i64 k ∧ k ≤ nW ∧ k ≤ 20 ∧ Hid (S.length ≤ k) ∧ Hid (SgOk S f l) ∧ Hid (OneSt I w1 gb gx gy gw gA F S f wr)) (fun i _ => 20 - (intOf i).toNat)
      case atStart => exact ⟨0, [], _, _, rfl, by omega, by omega, Nat.le_refl 0, sgOk_nil _ _, HS.out⟩
      case round =>
        clear HS
        obtain ⟨k, S, F, f, rfl, hk, hk20, HSL, HSG, HS⟩ := hrel
        have hb := HS.out.bel
        have i0 : (0 : Int) ≤ (k : Int) := by omega
        have c4 := HC4.out _ hb
        have hl14 := HL4.out
        by_cases hlt : k < nW
        · have i1 : (k : Int) < (nW : Int) := by omega
          by_cases h20 : k < 20
          · have i2 : (k : Int) < 20 := by omega
            obtain ⟨bW, oW, hAW, -, -⟩ := ScrIn.num_ (HI.out _ hb).rW (k := k) (by rw [(HI.out _ hb).zW, HNW.out]; exact hlt)
            obtain ⟨who, hwho⟩ : ∃ who, who = s.W[k]?.getD 0 := ⟨_, rfl⟩
            have HCW : Hid (∀ wX, Below w1.heap.size w1 wX → wX.cell? ⟨gs, 4, none⟩ = some (.slice (some ⟨bW, oW, none⟩) nW s.cW) ∧ wX.cell? ⟨bW, oW + k, none⟩ = some (.int .i64 who)) := fun wX h => ⟨by rw [← hAW]; exact HC4.out _ h, by rw [hwho]; exact rd_cell (HI.out _ h).rW hAW (i64s_at (by rw [(HI.out _ h).zW, HNW.out]; exact hlt))⟩
            clear hAW hwho c4
            obtain ⟨c4, cw⟩ := HCW.out _ hb
            go_wp2_with fail
            refine (within_any who 4 _ (by decide) (by decide)).mono ?_
            rintro e w' ⟨⟨q, hq, rfl⟩, rfl⟩
            obtain ⟨p, hp⟩ : ∃ p, p = 1 + q := ⟨_, rfl⟩
            have hp4 := one_add4 hp hq
            have hwp := wrap_add4 hp hq
            have hwp2 : wrap64 (1 + (q : Int)) = (p : Int) := (IntWalk.i64_left _).symm.trans hwp
            clear hp
            obtain ⟨w2, hw2⟩ : ∃ w2, w2 = wr.alloc (.cells #[.int .i64 1, .int .i64 2] 3) := ⟨_, rfl⟩
            have hq2 : Below wr.heap.size wr w2 := by rw [hw2]; exact (Below.refl _ _).alloc (Nat.le_refl _) _
            have HS2 := Lib.hid (HS.out.below K hq2)
            have HBL := Lib.hid (show Below w1.heap.size w1 (wr.alloc (.cells #[.int .i64 1, .int .i64 2] 3)) by rw [← hw2]; exact HS2.out.bel)
            have n0 := cells_new wr [.int .i64 1, .int .i64 2] 3 0 _ rfl
            have n1 := cells_new wr [.int .i64 1, .int .i64 2] 3 1 _ rfl
            have HW2 := Lib.hid hw2
            clear hw2 hq2
            go_upto_region 18 with fail
            clear c4 cw hwp hwp2
            obtain ⟨c4, cw⟩ := HCW.out _ HBL.out
            go_wp2_with fail
            refine (within_any _ 2 _ (by decide) (by decide)).mono ?_
            rintro e w' ⟨⟨q2, hq2, rfl⟩, rfl⟩
            clear c4 cw
            skip
            by_cases hq0 : q2 = 0
            · obtain rfl : q2 = 0 := by omega
              go_upto_region 19 with fail
              rw [← HW2.out]
              clear n0 n1
              by_cases hpl : p = l
              · subst hpl
                go_wp2_with fail
                go_roundw
                case rel => exact ⟨k + 1, S, F, f, by go_num, by omega, by omega, Nat.le_succ_of_le HSL.out, HSG.out, HS2.out⟩
                case measure => simp [intOf]; omega
              have e1 : ((p : Int) == (l : Int)) = false := by simp; omega
              have ka := (HS2.out.bA.2 p _ (i64s_at (by rw [HS2.out.five]; omega))).1
              have kf := (HS2.out.bA.2 p _ (i64s_at (by rw [HS2.out.five]; omega))).2
              obtain ⟨fv, hfv⟩ : ∃ fv, fv = f[p]?.getD 0 := ⟨_, rfl⟩
              rw [← hfv] at ka
              have HFV := Lib.hid hfv
              clear hfv
              have p5 : (p : Int) < 5 := by omega
              have p0 : (0 : Int) ≤ (p : Int) := by omega
              by_cases hz : fv = 0
              · have e2 : (fv != 0) = false := by simp [hz]
                obtain ⟨w3, hw3⟩ : ∃ w3, w3 = w2.setCell ⟨gA, p, none⟩ (.int .i64 1) := ⟨_, rfl⟩
                have hs3 := HS2.out.flag K (p := p) (by omega) 1
                rw [← hw3] at hs3
                have HS3 := Lib.hid hs3
                have HSG3 := Lib.hid (sgOk_add (d := 1) HSG.out HS2.out.five (show 1 ≤ p ∧ p ≤ 4 by omega) (by omega) (by omega) (by rw [← HFV.out]; exact .inl hz))
                clear hs3
                go_upto_region 21 with fail
                rw [← hw3]
                clear ka kf hw3
                go_wp2_with fail
                refine (K.sign_ok gb [hxB, hyB] S (p : Int) 1 _ HS3.out.bk (by simp) (by have := HSL.out; omega) (by omega) ⟨by omega, by simp⟩).mono ?_
                rintro e w4 ⟨rfl, F4, hI4, ht4, hf4⟩
                have HS4 := Lib.hid (HS3.out.to hI4 ht4 hf4)
                clear hI4 ht4 hf4
                go_wp2_with fail
                refine (num8_any _ _).mono ?_
                rintro e w' ⟨rfl, rfl⟩
                go_wp2_with fail
                go_roundw
                case rel => exact ⟨k + 1, S ++ [((p : Int), 1)], _, _, by go_num, by omega, by omega, show (S ++ [((p : Int), 1)]).length ≤ k + 1 by have := HSL.out; simp; omega, HSG3.out, HS4.out⟩
                case measure => simp [intOf]; omega
              have e2 : (fv != 0) = true := by simp [hz]
              by_cases hd : fv = 1
              · have e3 : (fv != 1) = false := by simp [hd]
                obtain ⟨w3, hw3⟩ : ∃ w3, w3 = w2.setCell ⟨gA, p, none⟩ (.int .i64 1) := ⟨_, rfl⟩
                have hs3 := HS2.out.flag K (p := p) (by omega) 1
                rw [← hw3] at hs3
                have HS3 := Lib.hid hs3
                have HSG3 := Lib.hid (sgOk_add (d := 1) HSG.out HS2.out.five (show 1 ≤ p ∧ p ≤ 4 by omega) (by omega) (by omega) (by rw [← HFV.out]; exact .inr hd))
                clear hs3
                go_upto_region 21 with fail
                rw [← hw3]
                clear ka kf hw3
                go_wp2_with fail
                refine (K.sign_ok gb [hxB, hyB] S (p : Int) 1 _ HS3.out.bk (by simp) (by have := HSL.out; omega) (by omega) ⟨by omega, by simp⟩).mono ?_
                rintro e w4 ⟨rfl, F4, hI4, ht4, hf4⟩
                have HS4 := Lib.hid (HS3.out.to hI4 ht4 hf4)
                clear hI4 ht4 hf4
                go_wp2_with fail
                refine (num8_any _ _).mono ?_
                rintro e w' ⟨rfl, rfl⟩
                go_wp2_with fail
                go_roundw
                case rel => exact ⟨k + 1, S ++ [((p : Int), 1)], _, _, by go_num, by omega, by omega, show (S ++ [((p : Int), 1)]).length ≤ k + 1 by have := HSL.out; simp; omega, HSG3.out, HS4.out⟩
                case measure => simp [intOf]; omega
              have e3 : (fv != 1) = true := by simp [hd]
              go_wp2_with fail
              go_roundw
              case rel => exact ⟨k + 1, S, F, f, by go_num, by omega, by omega, Nat.le_succ_of_le HSL.out, HSG.out, HS2.out⟩
              case measure => simp [intOf]; omega
            · obtain rfl : q2 = 1 := by omega
              go_upto_region 19 with fail
              rw [← HW2.out]
              clear n0 n1
              by_cases hpl : p = l
              · subst hpl
                go_wp2_with fail
                go_roundw
                case rel => exact ⟨k + 1, S, F, f, by go_num, by omega, by omega, Nat.le_succ_of_le HSL.out, HSG.out, HS2.out⟩
                case measure => simp [intOf]; omega
              have e1 : ((p : Int) == (l : Int)) = false := by simp; omega
              have ka := (HS2.out.bA.2 p _ (i64s_at (by rw [HS2.out.five]; omega))).1
              have kf := (HS2.out.bA.2 p _ (i64s_at (by rw [HS2.out.five]; omega))).2
              obtain ⟨fv, hfv⟩ : ∃ fv, fv = f[p]?.getD 0 := ⟨_, rfl⟩
              rw [← hfv] at ka
              have HFV := Lib.hid hfv
              clear hfv
              have p5 : (p : Int) < 5 := by omega
              have p0 : (0 : Int) ≤ (p : Int) := by omega
              by_cases hz : fv = 0
              · have e2 : (fv != 0) = false := by simp [hz]
                obtain ⟨w3, hw3⟩ : ∃ w3, w3 = w2.setCell ⟨gA, p, none⟩ (.int .i64 2) := ⟨_, rfl⟩
                have hs3 := HS2.out.flag K (p := p) (by omega) 2
                rw [← hw3] at hs3
                have HS3 := Lib.hid hs3
                have HSG3 := Lib.hid (sgOk_add (d := 2) HSG.out HS2.out.five (show 1 ≤ p ∧ p ≤ 4 by omega) (by omega) (by omega) (by rw [← HFV.out]; exact .inl hz))
                clear hs3
                go_upto_region 21 with fail
                rw [← hw3]
                clear ka kf hw3
                go_wp2_with fail
                refine (K.sign_ok gb [hxB, hyB] S (p : Int) 2 _ HS3.out.bk (by simp) (by have := HSL.out; omega) (by omega) ⟨by omega, by simp⟩).mono ?_
                rintro e w4 ⟨rfl, F4, hI4, ht4, hf4⟩
                have HS4 := Lib.hid (HS3.out.to hI4 ht4 hf4)
                clear hI4 ht4 hf4
                go_wp2_with fail
                refine (num8_any _ _).mono ?_
                rintro e w' ⟨rfl, rfl⟩
                go_wp2_with fail
                go_roundw
                case rel => exact ⟨k + 1, S ++ [((p : Int), 2)], _, _, by go_num, by omega, by omega, show (S ++ [((p : Int), 2)]).length ≤ k + 1 by have := HSL.out; simp; omega, HSG3.out, HS4.out⟩
                case measure => simp [intOf]; omega
              have e2 : (fv != 0) = true := by simp [hz]
              by_cases hd : fv = 2
              · have e3 : (fv != 2) = false := by simp [hd]
                obtain ⟨w3, hw3⟩ : ∃ w3, w3 = w2.setCell ⟨gA, p, none⟩ (.int .i64 2) := ⟨_, rfl⟩
                have hs3 := HS2.out.flag K (p := p) (by omega) 2
                rw [← hw3] at hs3
                have HS3 := Lib.hid hs3
                have HSG3 := Lib.hid (sgOk_add (d := 2) HSG.out HS2.out.five (show 1 ≤ p ∧ p ≤ 4 by omega) (by omega) (by omega) (by rw [← HFV.out]; exact .inr hd))
                clear hs3
                go_upto_region 21 with fail
                rw [← hw3]
                clear ka kf hw3
                go_wp2_with fail
                refine (K.sign_ok gb [hxB, hyB] S (p : Int) 2 _ HS3.out.bk (by simp) (by have := HSL.out; omega) (by omega) ⟨by omega, by simp⟩).mono ?_
                rintro e w4 ⟨rfl, F4, hI4, ht4, hf4⟩
                have HS4 := Lib.hid (HS3.out.to hI4 ht4 hf4)
                clear hI4 ht4 hf4
                go_wp2_with fail
                refine (num8_any _ _).mono ?_
                rintro e w' ⟨rfl, rfl⟩
                go_wp2_with fail
                go_roundw
                case rel => exact ⟨k + 1, S ++ [((p : Int), 2)], _, _, by go_num, by omega, by omega, show (S ++ [((p : Int), 2)]).length ≤ k + 1 by have := HSL.out; simp; omega, HSG3.out, HS4.out⟩
                case measure => simp [intOf]; omega
              have e3 : (fv != 2) = true := by simp [hd]
              go_wp2_with fail
              go_roundw
              case rel => exact ⟨k + 1, S, F, f, by go_num, by omega, by omega, Nat.le_succ_of_le HSL.out, HSG.out, HS2.out⟩
              case measure => simp [intOf]; omega
          · have i2 : ¬ ((k : Int) < 20) := by omega
            go_wp2_with fail
            go_meet
            exact ⟨S, F, f, Nat.le_trans HSL.out hk20, HSG.out, HS.out⟩
        · have i1 : ¬ ((k : Int) < (nW : Int)) := by omega
          go_wp2_with fail
          go_meet
          exact ⟨S, F, f, Nat.le_trans HSL.out hk20, HSG.out, HS.out⟩
    case rest =>
      clear HS
      obtain ⟨S, F, f, HSL, HSG, HS⟩ := hcut
      go_wp2_with fail
      go_loopw [15, 16] (fun nvv kv wr => ∃ (k : Nat) (b0 b1 : Bool), kv = .int .i64 k ∧ k ≤ 2 ∧ nvv = .int .i64 (nv b0 b1) ∧ Hid (b0 = true → Good S l 1) ∧ Hid (b1 = true → Good S l 2) ∧ Hid (OneSt I w1 gb gx gy gw gA F S f wr)) (fun _ kv _ => 2 - (intOf kv).toNat)
      case atStart => exact ⟨0, false, false, rfl, by omega, rfl, fun h => (by cases h), fun h => (by cases h), HS.out⟩
      case round =>
        clear HS
        obtain ⟨k, b0, b1, rfl, hk, rfl, HG0, HG1, HS⟩ := hrel
        have k0 : (0 : Int) ≤ (k : Int) := by omega
        by_cases hk2 : k < 2
        · have k1 : (k : Int) < 2 := by omega
          obtain ⟨gc, hgc⟩ : ∃ gc, gc = wr.heap.size := ⟨_, rfl⟩
          have HZC := Lib.hid (box_new wr zCrt 40)
          have HGC := Lib.hid hgc
          clear hgc
          go_wp2_with (first
            | (refine wpList_load_box rfl 38 _ rfl gx rfl hxC HS.out.bx _ Try.underlying38 rfl size_hdr8 ?_)
            | (refine wpList_store_box rfl 40 _ _ rfl wr.heap.size 0 (crtC none 0 0 1 (.slice none 0 0)) zCrt (crtC none 0 0 1 (.slice none 0 0)) rfl rfl HZC.out (by simp [crtC, zCrt]) rfl size_crt8 rfl ?_)
            | (refine wpList_run_to rfl 40 rfl (.pointer (some ⟨wr.heap.size, 0, none⟩)) (wr.alloc (.cells zCrt.toArray 40)) (by unfold execOp zCrt; go_simp; done) ?_))
          intro w2 bc2 T2
          have t2 := T2 (fun j => j = wr.heap.size) rfl
          have hq2 : Below wr.heap.size wr w2 := ((Below.refl _ _).alloc (Nat.le_refl _) _).trans (t2.below (fun j hj => by rw [hj]; exact Nat.le_refl _) (by simp))
          rw [← HGC.out] at bc2 ⊢
          have HS2 := Lib.hid (HS.out.below K hq2)
          have HBC2 := Lib.hid bc2
          have HQ2 := Lib.hid hq2
          clear T2 t2 bc2 HZC hq2
          go_upto_if 117 with fail
          go_cut [16] from 118 to 120 (fun kv wx => ∃ (BA : Option Addr) (nB cB : Nat) (B : List Int) (d : Int), kv = .int .i64 k ∧ (k = 0 ∧ d = 1 ∨ k = 1 ∧ d = 2) ∧ Hid (B.length = nB ∧ nB ≤ cB ∧ cB ≤ maxLen ∧ nB ≤ 1 ∧ I64s B) ∧ Hid (∀ wX, Below wr.heap.size wr wX → Rd wX BA (i64s B)) ∧ Hid (Box wx gc (crtC BA nB cB d (.slice none 0 0))) ∧ Hid (Below wr.heap.size wr wx))
          case first =>
            by_cases hk0 : k = 0
            · have e1 : ((k : Int) == 1) = false := by simp; omega
              go_wp2_with fail
              go_meet
              exact ⟨none, 0, 0, [], 1, rfl, .inl ⟨hk0, rfl⟩, ⟨rfl, Nat.le_refl _, by simp [maxLen], by omega, fun x hx => by simp at hx⟩, fun wX _ => Rd.nil _ _, HBC2.out, HQ2.out⟩
            · obtain rfl : k = 1 := by omega
              go_wp2_with (first
                | (refine wpList_load_box rfl 38 _ rfl gy rfl (hyC gw) HS2.out.yb _ Try.underlying38 rfl size_hdr8 ?_)
                | (refine wpList_store_box rfl 40 _ _ rfl gc 0 (crtC (some ⟨gw, 0, none⟩) 1 1 2 (.slice none 0 0)) (crtC none 0 0 1 (.slice none 0 0)) (crtC (some ⟨gw, 0, none⟩) 1 1 2 (.slice none 0 0)) rfl rfl HBC2.out (by simp [crtC]) rfl size_crt8 rfl ?_))
              intro w3 bc3 T3
              have t3 := T3 (fun j => j = gc) rfl
              have HQ3 : Hid (Below wr.heap.size wr w3) := HQ2.out.trans (t3.below (fun j hj => by rw [hj, HGC.out]; exact Nat.le_refl _) HQ2.out.size)
              have HBC3 := Lib.hid bc3
              clear T3 t3 bc3
              go_wp2_with fail
              go_meet
              exact ⟨some ⟨gw, 0, none⟩, 1, 1, [1], 2, rfl, (by first | exact .inr ⟨rfl, rfl⟩ | simp), ⟨rfl, Nat.le_refl _, by simp [maxLen], by omega, fun x hx => by rw [List.mem_singleton] at hx; rw [hx]; unfold I64; omega⟩, fun wX h => HS.out.rw_.below h, HBC3.out, HQ3.out⟩
          case rest =>
            obtain ⟨BA, nB, cB, B, d, rfl, hkd, HBB, HRB, HBC, HQ⟩ := hcut
            have HKD := Lib.hid hkd
            have HDI : Hid (I64 d) := by show I64 d; unfold I64; omega
            have hd2 : 1 ≤ d ∧ d ≤ 2 := by omega
            have HD2 := Lib.hid hd2
            clear hkd HS2 HBC2 HQ2 hd2
            obtain ⟨wo, rfl⟩ : ∃ wo, wo = wr := ⟨_, rfl⟩
            have HWOG : Hid (wo.heap.size ≤ gc) := by show wo.heap.size ≤ gc; rw [HGC.out]; exact Nat.le_refl _
            clear HGC
            go_wp2_with fail
            go_loopw [15, 18] (fun nvv av wr3 => ∃ (a : Nat) (b0 b1 : Bool) (lv : Value), av = .int .i64 a ∧ 1 ≤ a ∧ a ≤ 16 ∧ nvv = .int .i64 (nv b0 b1) ∧ Hid (b0 = true → Good S l 1) ∧ Hid (b1 = true → Good S l 2) ∧ Hid (Below wo.heap.size wo wr3) ∧ Hid (Box wr3 gc (crtC BA nB cB d lv))) (fun _ av _ => 16 - (intOf av).toNat)
            case atStart => exact ⟨1, b0, b1, _, rfl, by omega, by omega, rfl, HG0.out, HG1.out, HQ.out, HBC.out⟩
            case round =>
              clear HBC HQ HG0 HG1
              obtain ⟨a, b0, b1, lv, rfl, ha1, ha16, rfl, HG0, HG1, HQ, HBC⟩ := hrel
              have a0 : (0 : Int) ≤ (a : Int) := by omega
              by_cases hlt : a < 16
              · have a1 : (a : Int) < 16 := by omega
                have ka := (HBC.out.2 5 _ rfl).1
                have kf := (HBC.out.2 5 _ rfl).2
                obtain ⟨w3, hw3⟩ : ∃ w3, w3 = wr.setCell ⟨gc, 5, none⟩ (.slice none 0 0) := ⟨_, rfl⟩
                have HBC3 : Hid (Box w3 gc (crtC BA nB cB d (.slice none 0 0))) := by show Box _ _ _; rw [hw3]; exact HBC.out.set (j := 5) (by simp [crtC])
                have HQ3 : Hid (Below wo.heap.size wo w3) := by show Below _ _ _; rw [hw3]; exact HQ.out.setCell HWOG.out _
                go_upto_region 34 with fail
                rw [← hw3]
                clear ka kf hw3 HQ HBC
                go_wp2_with fail
                go_loopw [19] (fun iv wr4 => ∃ (i : Nat) (cs : List Int) (lv : Value), iv = .int .i64 i ∧ 1 ≤ i ∧ i ≤ 5 ∧ cs.length < i ∧ Hid (∀ x ∈ cs, 1 ≤ x ∧ x ≤ 4) ∧ Hid (Below wo.heap.size wo wr4) ∧ Hid (Box wr4 gc (crtC BA nB cB d lv)) ∧ Hid (wr4.ownsRow (gc + 1) 3 1 lv cs.length (i64s cs))) (fun iv _ => 5 - (intOf iv).toNat)
                case atStart => exact ⟨1, [], _, rfl, by omega, by omega, by simp, fun x hx => by simp at hx, HQ3.out, HBC3.out, World.ownsRow_nil _ _ _ _⟩
                case round =>
                  clear HQ3 HBC3
                  obtain ⟨i, cs, lv2, rfl, hi1, hi5, hcl, HCS, HQ, HBC, HOW⟩ := hrel
                  have i0 : (0 : Int) ≤ (i : Int) := by omega
                  by_cases hi : i < 5
                  · have i1 : (i : Int) ≤ 4 := by omega
                    go_upto_region 37 with fail
                    go_cut [135] from 130 to 135 (fun v wx => ∃ t : Bool, v = .bool t ∧ Hid (Below wo.heap.size wo wx) ∧ Hid (Box wx gc (crtC BA nB cB d lv2)) ∧ Hid (wx.ownsRow (gc + 1) 3 1 lv2 cs.length (i64s cs)))
                    case first =>
                      have h4 : i = 1 ∨ i = 2 ∨ i = 3 ∨ i = 4 := by omega
                      rcases h4 with rfl | rfl | rfl | rfl
                      · go_wp2_with fail
                        go_meet
                        exact ⟨_, rfl, HQ.out, HBC.out, HOW.out⟩
                      · go_wp2_with fail
                        go_meet
                        exact ⟨_, rfl, HQ.out, HBC.out, HOW.out⟩
                      · go_wp2_with fail
                        go_meet
                        exact ⟨_, rfl, HQ.out, HBC.out, HOW.out⟩
                      · go_wp2_with fail
                        go_meet
                        exact ⟨_, rfl, HQ.out, HBC.out, HOW.out⟩
                    case rest =>
                      clear HQ HBC HOW
                      obtain ⟨tt, rfl, HQ, HBC, HOW⟩ := hcut
                      cases tt with
                      | false =>
                        go_wp2_with fail
                        go_roundw
                        case rel => exact ⟨i + 1, cs, lv2, by go_num, by omega, by omega, by omega, HCS.out, HQ.out, HBC.out, HOW.out⟩
                        case measure => simp [intOf]; omega
                      | true =>
                        have cl := (HBC.out.2 5 _ rfl).1
                        have hal := (Below.refl wc.heap.size wc).alloc (Nat.le_refl _) (.cells #[.int .i64 (i : Int)] 3)
                        have HOWL := Lib.hid (own_below HOW.out hal)
                        have HBCL := Lib.hid (HBC.out.below hal HBC.out.1)
                        have HAL := Lib.hid hal
                        have hBL : gc + 1 ≤ (wc.alloc (.cells #[.int .i64 (i : Int)] 3)).heap.size := HBCL.out.1
                        clear hal
                        go_wp2_with (at_builtin; refine wpList_app_one _ rfl _ _ 22 rfl (gc + 1) 3 (.int .i64 0) 8 Try.underlying22 info_i648 rfl (by decide) lv2 cs.length (i64s cs) rfl HOWL.out wc.heap.size (.int .i64 (i : Int)) rfl (cells_new wc [.int .i64 (i : Int)] 3 0 _ rfl) rfl (by omega) hBL ?_)
                        intro v5 w5 ho5 hb5
                        have HO5 := Lib.hid (own_conv ho5 (ys := i64s (cs ++ [(i : Int)])) (n' := cs.length + 1) (by simp [i64s]) rfl)
                        obtain ⟨A5, c5, hv5, _, _, _, _, _⟩ := own_val HO5.out
                        subst hv5
                        have hx5 := HBCL.out.below hb5 (Nat.lt_succ_self _)
                        have HQ5 : Hid (Below wo.heap.size wo w5) := (HQ.out.trans (HAL.out.mono HQ.out.size)).trans (hb5.mono (Nat.le_succ_of_le HWOG.out))
                        have ka := (hx5.2 5 _ rfl).1
                        have kf := (hx5.2 5 _ rfl).2
                        obtain ⟨w6, hw6⟩ : ∃ w6, w6 = w5.setCell ⟨gc, 5, none⟩ (.slice A5 (cs.length + 1) c5) := ⟨_, rfl⟩
                        have HBC6 : Hid (Box w6 gc (crtC BA nB cB d (.slice A5 (cs.length + 1) c5))) := by show Box _ _ _; rw [hw6]; exact hx5.set (j := 5) (by simp [crtC])
                        have HQ6 : Hid (Below wo.heap.size wo w6) := by show Below _ _ _; rw [hw6]; exact HQ5.out.setCell HWOG.out _
                        have HOW6 : Hid (w6.ownsRow (gc + 1) 3 1 (.slice A5 (cs.length + 1) c5) (cs.length + 1) (i64s (cs ++ [(i : Int)]))) := by show w6.ownsRow _ _ _ _ _ _; rw [hw6]; exact own_kept HO5.out fun g hg _ => set_block _ (by have := (own_lt HO5.out hg).2; omega)
                        clear cl ho5 hb5 hx5 HQ5 HO5
                        go_upto_region 36 with fail
                        rw [← hw6]
                        clear hw6 ka kf
                        go_wp2_with fail
                        go_roundw
                        case rel => exact ⟨i + 1, cs ++ [(i : Int)], _, by go_num, by omega, by omega, by simp; omega, fun x hx => by
                          rcases List.mem_append.1 hx with hx | hx
                          · exact HCS.out x hx
                          · rw [List.mem_singleton] at hx
                            omega, HQ6.out, HBC6.out, own_cast HOW6.out (by simp)⟩
                        case measure => simp [intOf]; omega
                  · have i1 : ¬ ((i : Int) ≤ 4) := by omega
                    obtain ⟨A2, c2, hlv, s1, s2, s3, _, _⟩ := own_val HOW.out
                    subst hlv
                    have HR2 := Lib.hid s3
                    have HC2S := Lib.hid s1
                    have HM2S := Lib.hid s2
                    have hal := (Below.refl wr.heap.size wr).alloc (Nat.le_refl _) (.cells #[.int .i64 (l : Int)] 3)
                    have HAL := Lib.hid hal
                    have HBCL : Hid (Box (wr.alloc (.cells #[.int .i64 (l : Int)] 3)) gc [.int .i64 1, .int .i64 1, .slice BA nB cB, .slice none 0 0, .int .i64 d, .slice A2 cs.length c2]) := HBC.out.below hal HBC.out.1
                    have HRL := Lib.hid (rd_new wr [.int .i64 (l : Int)] 3)
                    have HQL := Lib.hid (HQ.out.trans (hal.mono HQ.out.size))
                    obtain ⟨v, hv⟩ : ∃ v, realR [hxB, hyB] S 4 [(l : Int)] (mC B d cs) = v := ⟨_, rfl⟩
                    have HV := Lib.hid hv
                    have HIC : Hid (I64s cs) := fun x hx => by have := HCS.out x hx; unfold I64; omega
                    clear hal s1 s2 s3 hv
                    go_wp2_with (refine wpList_load_box rfl 40 _ rfl gc rfl [.int .i64 1, .int .i64 1, .slice BA nB cB, .slice none 0 0, .int .i64 d, .slice A2 cs.length c2] HBCL.out _ Try.underlying40 rfl size_crt8 ?_)
                    refine (R.check v gb [hxB, hyB] S _ _ 1 [(l : Int)] (mC B d cs) (mCA BA nB cB A2 cs.length c2) 4 _ (HS.out.below K HQL.out).bk HV.out (mC_in HBB.out.1 (HRB.out _ HQL.out) HBB.out.2.1 HBB.out.2.2.1 rfl (HR2.out.below HAL.out) HC2S.out HM2S.out) (mC_ok HBB.out.2.2.2.2 HDI.out HIC.out) (mC_few (by have := HBB.out.2.2.2.1; omega) (by omega)) rfl HRL.out (by decide) (by have := HSL.out; omega) (by simp)).mono ?_
                    rintro e w8 ⟨rfl, hq8⟩
                    have HQ8 : Hid (Below wo.heap.size wo w8) := HQL.out.trans (hq8.mono HQL.out.size)
                    have HBC8 : Hid (Box w8 gc (crtC BA nB cB d (.slice A2 cs.length c2))) := HBCL.out.below hq8 HBCL.out.1
                    clear hq8
                    go_wp2_with fail
                    refine (num8_any _ _).mono ?_
                    rintro e w' ⟨rfl, rfl⟩
                    by_cases hv0 : v = 0
                    · have HGD : Hid (Good S l d) := real_good (by rw [HV.out]; exact hv0)
                      have e0 : (v == 0) = true := by simp [hv0]
                      clear HV HIC HR2 HC2S HM2S HBCL HRL HQL HAL hv0
                      go_upto_region 40 with fail
                      clear e0
                      rcases HKD.out with ⟨hk0, hd0⟩ | ⟨hk0, hd0⟩
                      · have HK0 := Lib.hid hk0
                        have HG : Hid (Good S l 1) := by show Good S l 1; rw [← hd0]; exact HGD.out
                        clear hk0 hd0
                        cases b0 <;> cases b1
                        · rw [show nv false false = 0 from rfl]
                          go_upto_region 32 with (first
                            | (refine wpList_bin_is rfl .shl 3 3 (.const (.int .i64 1)) (.tmp 151) rfl (.int .i64 1) (.int .i64 0) (.int .i64 1) rfl (by show Value.int .i64 (k : Int) = _; rw [HK0.out]; rfl) (shlq_0 _ _) ?_)
                            | (refine wpList_bin_is rfl .or 3 3 (.tmp 150) (.tmp 152) rfl (.int .i64 0) (.int .i64 1) (.int .i64 1) rfl rfl (orq_0_1 _ _) ?_))
                          go_wp2_with fail
                          go_roundw
                          case rel => exact ⟨a + 1, true, false, .slice A2 cs.length c2, by go_num, by omega, by omega, rfl, fun _ => HG.out, HG1.out, HQ8.out, HBC8.out⟩
                          case measure => simp [intOf]; omega
                        · rw [show nv false true = 2 from rfl]
                          go_upto_region 32 with (first
                            | (refine wpList_bin_is rfl .shl 3 3 (.const (.int .i64 1)) (.tmp 151) rfl (.int .i64 1) (.int .i64 0) (.int .i64 1) rfl (by show Value.int .i64 (k : Int) = _; rw [HK0.out]; rfl) (shlq_0 _ _) ?_)
                            | (refine wpList_bin_is rfl .or 3 3 (.tmp 150) (.tmp 152) rfl (.int .i64 2) (.int .i64 1) (.int .i64 3) rfl rfl (orq_2_1 _ _) ?_))
                          go_wp2_with fail
                          go_roundw
                          case rel => exact ⟨a + 1, true, true, .slice A2 cs.length c2, by go_num, by omega, by omega, rfl, fun _ => HG.out, HG1.out, HQ8.out, HBC8.out⟩
                          case measure => simp [intOf]; omega
                        · rw [show nv true false = 1 from rfl]
                          go_upto_region 32 with (first
                            | (refine wpList_bin_is rfl .shl 3 3 (.const (.int .i64 1)) (.tmp 151) rfl (.int .i64 1) (.int .i64 0) (.int .i64 1) rfl (by show Value.int .i64 (k : Int) = _; rw [HK0.out]; rfl) (shlq_0 _ _) ?_)
                            | (refine wpList_bin_is rfl .or 3 3 (.tmp 150) (.tmp 152) rfl (.int .i64 1) (.int .i64 1) (.int .i64 1) rfl rfl (orq_1_1 _ _) ?_))
                          go_wp2_with fail
                          go_roundw
                          case rel => exact ⟨a + 1, true, false, .slice A2 cs.length c2, by go_num, by omega, by omega, rfl, fun _ => HG.out, HG1.out, HQ8.out, HBC8.out⟩
                          case measure => simp [intOf]; omega
                        · rw [show nv true true = 3 from rfl]
                          go_upto_region 32 with (first
                            | (refine wpList_bin_is rfl .shl 3 3 (.const (.int .i64 1)) (.tmp 151) rfl (.int .i64 1) (.int .i64 0) (.int .i64 1) rfl (by show Value.int .i64 (k : Int) = _; rw [HK0.out]; rfl) (shlq_0 _ _) ?_)
                            | (refine wpList_bin_is rfl .or 3 3 (.tmp 150) (.tmp 152) rfl (.int .i64 3) (.int .i64 1) (.int .i64 3) rfl rfl (orq_3_1 _ _) ?_))
                          go_wp2_with fail
                          go_roundw
                          case rel => exact ⟨a + 1, true, true, .slice A2 cs.length c2, by go_num, by omega, by omega, rfl, fun _ => HG.out, HG1.out, HQ8.out, HBC8.out⟩
                          case measure => simp [intOf]; omega
                      · have HK0 := Lib.hid hk0
                        have HG : Hid (Good S l 2) := by show Good S l 2; rw [← hd0]; exact HGD.out
                        clear hk0 hd0
                        cases b0 <;> cases b1
                        · rw [show nv false false = 0 from rfl]
                          go_upto_region 32 with (first
                            | (refine wpList_bin_is rfl .shl 3 3 (.const (.int .i64 1)) (.tmp 151) rfl (.int .i64 1) (.int .i64 1) (.int .i64 2) rfl (by show Value.int .i64 (k : Int) = _; rw [HK0.out]; rfl) (shlq_1 _ _) ?_)
                            | (refine wpList_bin_is rfl .or 3 3 (.tmp 150) (.tmp 152) rfl (.int .i64 0) (.int .i64 2) (.int .i64 2) rfl rfl (orq_0_2 _ _) ?_))
                          go_wp2_with fail
                          go_roundw
                          case rel => exact ⟨a + 1, false, true, .slice A2 cs.length c2, by go_num, by omega, by omega, rfl, HG0.out, fun _ => HG.out, HQ8.out, HBC8.out⟩
                          case measure => simp [intOf]; omega
                        · rw [show nv false true = 2 from rfl]
                          go_upto_region 32 with (first
                            | (refine wpList_bin_is rfl .shl 3 3 (.const (.int .i64 1)) (.tmp 151) rfl (.int .i64 1) (.int .i64 1) (.int .i64 2) rfl (by show Value.int .i64 (k : Int) = _; rw [HK0.out]; rfl) (shlq_1 _ _) ?_)
                            | (refine wpList_bin_is rfl .or 3 3 (.tmp 150) (.tmp 152) rfl (.int .i64 2) (.int .i64 2) (.int .i64 2) rfl rfl (orq_2_2 _ _) ?_))
                          go_wp2_with fail
                          go_roundw
                          case rel => exact ⟨a + 1, false, true, .slice A2 cs.length c2, by go_num, by omega, by omega, rfl, HG0.out, fun _ => HG.out, HQ8.out, HBC8.out⟩
                          case measure => simp [intOf]; omega
                        · rw [show nv true false = 1 from rfl]
                          go_upto_region 32 with (first
                            | (refine wpList_bin_is rfl .shl 3 3 (.const (.int .i64 1)) (.tmp 151) rfl (.int .i64 1) (.int .i64 1) (.int .i64 2) rfl (by show Value.int .i64 (k : Int) = _; rw [HK0.out]; rfl) (shlq_1 _ _) ?_)
                            | (refine wpList_bin_is rfl .or 3 3 (.tmp 150) (.tmp 152) rfl (.int .i64 1) (.int .i64 2) (.int .i64 3) rfl rfl (orq_1_2 _ _) ?_))
                          go_wp2_with fail
                          go_roundw
                          case rel => exact ⟨a + 1, true, true, .slice A2 cs.length c2, by go_num, by omega, by omega, rfl, HG0.out, fun _ => HG.out, HQ8.out, HBC8.out⟩
                          case measure => simp [intOf]; omega
                        · rw [show nv true true = 3 from rfl]
                          go_upto_region 32 with (first
                            | (refine wpList_bin_is rfl .shl 3 3 (.const (.int .i64 1)) (.tmp 151) rfl (.int .i64 1) (.int .i64 1) (.int .i64 2) rfl (by show Value.int .i64 (k : Int) = _; rw [HK0.out]; rfl) (shlq_1 _ _) ?_)
                            | (refine wpList_bin_is rfl .or 3 3 (.tmp 150) (.tmp 152) rfl (.int .i64 3) (.int .i64 2) (.int .i64 3) rfl rfl (orq_3_2 _ _) ?_))
                          go_wp2_with fail
                          go_roundw
                          case rel => exact ⟨a + 1, true, true, .slice A2 cs.length c2, by go_num, by omega, by omega, rfl, HG0.out, fun _ => HG.out, HQ8.out, HBC8.out⟩
                          case measure => simp [intOf]; omega
                    · have e0 : (v == 0) = false := by simp [hv0]
                      clear hv0
                      go_wp2_with fail
                      go_roundw
                      case rel => exact ⟨a + 1, b0, b1, _, by go_num, by omega, by omega, rfl, HG0.out, HG1.out, HQ8.out, HBC8.out⟩
                      case measure => simp [intOf]; omega
              · have a1 : ¬ ((a : Int) < 16) := by omega
                have HSN := Lib.hid (HS.out.below K HQ.out)
                go_wp2_with fail
                go_roundw
                case rel => exact ⟨k + 1, b0, b1, by go_num, by omega, rfl, HG0.out, HG1.out, HSN.out⟩
                case measure => simp [intOf]; omega
        · have k1 : ¬ ((k : Int) < 2) := by omega
          have hn3 : nv b0 b1 < 3 := by
            cases b0 <;> cases b1 <;> simp [nv]
            exact (not_both HSG.out (HG0.out rfl) (HG1.out rfl)).elim
          go_wp2_with fail
          refine (wakes8_any K R _).mono ?_
          rintro e w9 ⟨rfl, hq9⟩
          have hb9 := HS.out.bel.trans (hq9.mono HS.out.bel.size)
          go_wp2_with fail
          go_ret
          exact ⟨rfl, HB1.out.trans (hb9.mono HB1.out.size)⟩

end Go.Proofs.Ytcfnomnhameleaa
