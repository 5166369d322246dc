/-
 Messages: copies.
-/
import Derived.Test.YteepobghdpnabaaGreatKDa
import Derived.Test.YteepobghdpnabaaGreatKBk
namespace Go.Proofs.YteepobghdpnabaaGreat
open Go.RowKit

/-! ### copies -/
set_option maxRecDepth 100000 in
set_option maxHeartbeats 8000000 in
theorem rcopyMsg_any (m : MsgD) (a : MsgA) (w : World) (hi : MsgIn w m a) (hf : MsgFew 1000000 a) :
  Calls Tryz.prog 55 #[msgV m a] w fun e w' => ∃ a', e = .returned (msgV m a') ∧ MsgNew w.heap.size w' m a' ∧ MsgFew 1000000 a' ∧ Below w.heap.size w w' := by
 obtain ⟨w2, hw2⟩ : ∃ w2, w2 = (w.alloc (.cells #[.int .i64 m.k, .int .i64 m.f, .int .i64 m.t, .int .i64 m.d, .int .i64 m.ba, .int .i64 m.bn, .slice a.AL a.nL a.cL, .int .i64 m.ha, .int .i64 m.hr, .slice a.AhB a.nhB a.chB, .slice a.AhP a.nhP a.chP, .int .i64 m.ca, .int .i64 m.cr, .slice a.AcB a.ncB a.ccB, .slice a.AcP a.ncP a.ccP, .int .i64 m.cd, .slice a.AcS a.ncS a.ccS, .slice a.AD a.nD a.cD] 48)).alloc (.cells #[.int .i64 0, .int .i64 0, .int .i64 0, .int .i64 0, .int .i64 0, .int .i64 0, .slice none 0 0, .int .i64 0, .int .i64 0, .slice none 0 0, .slice none 0 0, .int .i64 0, .int .i64 0, .slice none 0 0, .slice none 0 0, .int .i64 0, .slice none 0 0, .slice none 0 0] 48) := ⟨_, rfl⟩
 have hb2 : Below w.heap.size w w2 := by rw [hw2]; exact ((Below.refl _ _).alloc (Nat.le_refl _) _).alloc (by simp) _
 have hs2 : w2.heap.size = w.heap.size + 2 := by rw [hw2]; simp
 have bx2 : Box w2 w.heap.size [.int .i64 m.k, .int .i64 m.f, .int .i64 m.t, .int .i64 m.d, .int .i64 m.ba, .int .i64 m.bn, .slice a.AL a.nL a.cL, .int .i64 m.ha, .int .i64 m.hr, .slice a.AhB a.nhB a.chB, .slice a.AhP a.nhP a.chP, .int .i64 m.ca, .int .i64 m.cr, .slice a.AcB a.ncB a.ccB, .slice a.AcP a.ncP a.ccP, .int .i64 m.cd, .slice a.AcS a.ncS a.ccS, .slice a.AD a.nD a.cD] := by
  rw [hw2]
  exact (box_new w (msgC m a) 48).below ((Below.refl _ _).alloc (Nat.le_refl _) _) (by simp)
 have by2 : Box w2 (w.heap.size + 1) [.int .i64 0, .int .i64 0, .int .i64 0, .int .i64 0, .int .i64 0, .int .i64 0, .slice none 0 0, .int .i64 0, .int .i64 0, .slice none 0 0, .slice none 0 0, .int .i64 0, .int .i64 0, .slice none 0 0, .slice none 0 0, .int .i64 0, .slice none 0 0, .slice none 0 0] := by
  rw [hw2]
  have h := box_new (w.alloc (.cells #[.int .i64 m.k, .int .i64 m.f, .int .i64 m.t, .int .i64 m.d, .int .i64 m.ba, .int .i64 m.bn, .slice a.AL a.nL a.cL, .int .i64 m.ha, .int .i64 m.hr, .slice a.AhB a.nhB a.chB, .slice a.AhP a.nhP a.chP, .int .i64 m.ca, .int .i64 m.cr, .slice a.AcB a.ncB a.ccB, .slice a.AcP a.ncP a.ccP, .int .i64 m.cd, .slice a.AcS a.ncS a.ccS, .slice a.AD a.nD a.cD] 48)) [.int .i64 0, .int .i64 0, .int .i64 0, .int .i64 0, .int .i64 0, .int .i64 0, .slice none 0 0, .int .i64 0, .int .i64 0, .slice none 0 0, .slice none 0 0, .int .i64 0, .int .i64 0, .slice none 0 0, .slice none 0 0, .int .i64 0, .slice none 0 0, .slice none 0 0] 48
  have e : (w.alloc (.cells #[.int .i64 m.k, .int .i64 m.f, .int .i64 m.t, .int .i64 m.d, .int .i64 m.ba, .int .i64 m.bn, .slice a.AL a.nL a.cL, .int .i64 m.ha, .int .i64 m.hr, .slice a.AhB a.nhB a.chB, .slice a.AhP a.nhP a.chP, .int .i64 m.ca, .int .i64 m.cr, .slice a.AcB a.ncB a.ccB, .slice a.AcP a.ncP a.ccP, .int .i64 m.cd, .slice a.AcS a.ncS a.ccS, .slice a.AD a.nD a.cD] 48)).heap.size = w.heap.size + 1 := by simp
  rw [e] at h
  exact h
 have bz2 := box_new w2 [.int .i64 0, .int .i64 0, .int .i64 0, .int .i64 0, .int .i64 0, .int .i64 0, .slice none 0 0, .int .i64 0, .int .i64 0, .slice none 0 0, .slice none 0 0, .int .i64 0, .int .i64 0, .slice none 0 0, .slice none 0 0, .int .i64 0, .slice none 0 0, .slice none 0 0] 48
 have HW2 := Lib.hid hw2
 have HS2 := Lib.hid hs2
 have HIN := Lib.hid hi.all
 have BX2 := Lib.hid bx2
 have BY2 := Lib.hid by2
 have BZ2 := Lib.hid bz2
 have HB2W := Lib.hid hb2
 have HF := Lib.hid hf
 have HI := Lib.hid hi
 obtain ⟨F, hF⟩ : ∃ F : Nat → Prop, F = fun k => k = w2.heap.size := ⟨_, rfl⟩
 have HFG : Hid (F w2.heap.size) := by show F _; rw [hF]
 have HFX : Hid (¬ F w.heap.size) := by show ¬ F _; rw [hF]; intro h; omega
 have HFR : Hid (¬ F (w.heap.size + 1)) := by show ¬ F _; rw [hF]; intro h; omega
 have HFB : Hid (∀ k, F k → k = w2.heap.size) := by show ∀ k, F k → _; rw [hF]; exact fun k h => h
 clear hw2 bx2 by2 bz2 hf hi hF hb2 hs2
 unfold msgV
 go_enter Tryz.func55, Tryz.ntmps55
 go_upto_region 1 with fail
 rw [← HW2.out]
 go_wp2_with (first
  | (refine wpList_load_box rfl 48 _ rfl w.heap.size rfl [.int .i64 m.k, .int .i64 m.f, .int .i64 m.t, .int .i64 m.d, .int .i64 m.ba, .int .i64 m.bn, .slice a.AL a.nL a.cL, .int .i64 m.ha, .int .i64 m.hr, .slice a.AhB a.nhB a.chB, .slice a.AhP a.nhP a.chP, .int .i64 m.ca, .int .i64 m.cr, .slice a.AcB a.ncB a.ccB, .slice a.AcP a.ncP a.ccP, .int .i64 m.cd, .slice a.AcS a.ncS a.ccS, .slice a.AD a.nD a.cD] BX2.out _ Tryz.underlying48 rfl (by kernel_rfl) ?_)
  | (refine wpList_store_box rfl 48 _ _ rfl w2.heap.size 0 [.int .i64 m.k, .int .i64 m.f, .int .i64 m.t, .int .i64 m.d, .int .i64 m.ba, .int .i64 m.bn, .slice a.AL a.nL a.cL, .int .i64 m.ha, .int .i64 m.hr, .slice a.AhB a.nhB a.chB, .slice a.AhP a.nhP a.chP, .int .i64 m.ca, .int .i64 m.cr, .slice a.AcB a.ncB a.ccB, .slice a.AcP a.ncP a.ccP, .int .i64 m.cd, .slice a.AcS a.ncS a.ccS, .slice a.AD a.nD a.cD] [.int .i64 0, .int .i64 0, .int .i64 0, .int .i64 0, .int .i64 0, .int .i64 0, .slice none 0 0, .int .i64 0, .int .i64 0, .slice none 0 0, .slice none 0 0, .int .i64 0, .int .i64 0, .slice none 0 0, .slice none 0 0, .int .i64 0, .slice none 0 0, .slice none 0 0] [.int .i64 m.k, .int .i64 m.f, .int .i64 m.t, .int .i64 m.d, .int .i64 m.ba, .int .i64 m.bn, .slice a.AL a.nL a.cL, .int .i64 m.ha, .int .i64 m.hr, .slice a.AhB a.nhB a.chB, .slice a.AhP a.nhP a.chP, .int .i64 m.ca, .int .i64 m.cr, .slice a.AcB a.ncB a.ccB, .slice a.AcP a.ncP a.ccP, .int .i64 m.cd, .slice a.AcS a.ncS a.ccS, .slice a.AD a.nD a.cD] rfl rfl BZ2.out (by simp) rfl (by kernel_rfl) rfl ?_)
  | (refine wpList_run_to rfl 48 rfl (.pointer (some ⟨w2.heap.size, 0, none⟩)) (w2.alloc (.cells #[.int .i64 0, .int .i64 0, .int .i64 0, .int .i64 0, .int .i64 0, .int .i64 0, .slice none 0 0, .int .i64 0, .int .i64 0, .slice none 0 0, .slice none 0 0, .int .i64 0, .int .i64 0, .slice none 0 0, .slice none 0 0, .int .i64 0, .slice none 0 0, .slice none 0 0] 48)) (by unfold execOp; go_simp; done) ?_))
 intro w3 bz3 T3
 have t23 : Touch F w2 w3 := ((Touch.refl F w2).alloc _).on (T3 F HFG.out)
 have hb3 : Below w.heap.size w w3 := HB2W.out.trans (t23.below (fun k hk => by rw [HFB.out k hk]; have := HS2.out; omega) HB2W.out.size)
 have bx3 := BX2.out.touch t23 HFX.out
 have by3 := BY2.out.touch t23 HFR.out
 have BX3 := Lib.hid bx3
 have BY3 := Lib.hid by3
 have BZ3 := Lib.hid bz3
 have HS3 : Hid (w2.heap.size < w3.heap.size) := bz3.1
 have HT : Hid (∀ wX, Touch F w3 wX → Below w.heap.size w wX) := fun wX h => hb3.trans (h.below (fun k hk => by rw [HFB.out k hk]; have := HS2.out; omega) hb3.size)
 have t3 : Touch F w3 w3 := Touch.refl _ _
 clear T3 bx3 by3 t23
 have xc4 := (BX3.out.2 4 _ rfl).1
 have xc5 := (BX3.out.2 5 _ rfl).1
 have xc6 := (BX3.out.2 6 _ rfl).1
 go_wp2_with fail
 clear xc4 xc5 xc6
 have riw5 := HIN.out _ (HT.out _ t3)
 refine (rcopyBat_any m.ba m.bn a.AL a.cL a.nL m.L _ HI.out.zL riw5.rL HI.out.kL (by have := HF.out.sL; omega)).mono ?_
 rintro e w5 ⟨AL, cL, rfl, hoL, -, -, -, hbw5⟩
 have tw5 := t3.then hbw5
 have bzw5 := Box.below BZ3.out hbw5 (Box.lt BZ3.out)
 go_wp2_with (refine wpList_store_box rfl 42 _ _ rfl (w2.heap.size) 4 [.int .i64 m.ba, .int .i64 m.bn, .slice AL a.nL cL] _ [.int .i64 m.k, .int .i64 m.f, .int .i64 m.t, .int .i64 m.d, .int .i64 m.ba, .int .i64 m.bn, .slice AL a.nL cL, .int .i64 m.ha, .int .i64 m.hr, .slice a.AhB a.nhB a.chB, .slice a.AhP a.nhP a.chP, .int .i64 m.ca, .int .i64 m.cr, .slice a.AcB a.ncB a.ccB, .slice a.AcP a.ncP a.ccP, .int .i64 m.cd, .slice a.AcS a.ncS a.ccS, .slice a.AD a.nD a.cD] rfl rfl bzw5 (by simp) rfl (by kernel_rfl) rfl ?_)
 intro w6 bzw6 Tw6
 have sw6 := Tw6 F HFG.out
 clear Tw6
 have tw6 := tw5.on sw6
 have bxw6 := BX3.out.touch tw6 HFX.out
 have xc7 := (bxw6.2 7 _ rfl).1
 have xc8 := (bxw6.2 8 _ rfl).1
 have xc9 := (bxw6.2 9 _ rfl).1
 have xc10 := (bxw6.2 10 _ rfl).1
 go_wp2_with fail
 clear xc7 xc8 xc9 xc10
 have riw7 := HIN.out _ (HT.out _ tw6)
 refine (rcopyHdr_any m.ha m.hr a.AhB a.chB a.nhB m.hB a.AhP a.chP a.nhP m.hP _ HI.out.zhB riw7.rhB (by have := HF.out.shB; omega) HI.out.zhP riw7.rhP (by have := HF.out.shP; omega) HI.out.khB HI.out.khP).mono ?_
 rintro e w7 ⟨AhB, chB, AhP, chP, rfl, hohB, hohP, hbw7⟩
 have tw7 := tw6.then hbw7
 have bzw7 := Box.below bzw6 hbw7 (Box.lt bzw6)
 go_wp2_with (refine wpList_store_box rfl 44 _ _ rfl (w2.heap.size) 7 [.int .i64 m.ha, .int .i64 m.hr, .slice AhB a.nhB chB, .slice AhP a.nhP chP] _ [.int .i64 m.k, .int .i64 m.f, .int .i64 m.t, .int .i64 m.d, .int .i64 m.ba, .int .i64 m.bn, .slice AL a.nL cL, .int .i64 m.ha, .int .i64 m.hr, .slice AhB a.nhB chB, .slice AhP a.nhP chP, .int .i64 m.ca, .int .i64 m.cr, .slice a.AcB a.ncB a.ccB, .slice a.AcP a.ncP a.ccP, .int .i64 m.cd, .slice a.AcS a.ncS a.ccS, .slice a.AD a.nD a.cD] rfl rfl bzw7 (by simp) rfl (by kernel_rfl) rfl ?_)
 intro w8 bzw8 Tw8
 have sw8 := Tw8 F HFG.out
 clear Tw8
 have tw8 := tw7.on sw8
 have bxw8 := BX3.out.touch tw8 HFX.out
 have xc11 := (bxw8.2 11 _ rfl).1
 have xc12 := (bxw8.2 12 _ rfl).1
 have xc13 := (bxw8.2 13 _ rfl).1
 have xc14 := (bxw8.2 14 _ rfl).1
 have xc15 := (bxw8.2 15 _ rfl).1
 have xc16 := (bxw8.2 16 _ rfl).1
 go_wp2_with fail
 clear xc11 xc12 xc13 xc14 xc15 xc16
 have riw9 := HIN.out _ (HT.out _ tw8)
 refine (rcopyCert_any m.ca m.cr a.AcB a.ccB a.ncB m.cB a.AcP a.ccP a.ncP m.cP m.cd a.AcS a.ccS a.ncS m.cS _ HI.out.zcB riw9.rcB (by have := HF.out.scB; omega) HI.out.zcP riw9.rcP (by have := HF.out.scP; omega) HI.out.zcS riw9.rcS (by have := HF.out.scS; omega) HI.out.kcB HI.out.kcP HI.out.kcS).mono ?_
 rintro e w9 ⟨AcB, ccB, AcP, ccP, AcS, ccS, rfl, hocB, hocP, hocS, hbw9⟩
 have tw9 := tw8.then hbw9
 have bzw9 := Box.below bzw8 hbw9 (Box.lt bzw8)
 go_wp2_with (refine wpList_store_box rfl 46 _ _ rfl (w2.heap.size) 11 [.int .i64 m.ca, .int .i64 m.cr, .slice AcB a.ncB ccB, .slice AcP a.ncP ccP, .int .i64 m.cd, .slice AcS a.ncS ccS] _ [.int .i64 m.k, .int .i64 m.f, .int .i64 m.t, .int .i64 m.d, .int .i64 m.ba, .int .i64 m.bn, .slice AL a.nL cL, .int .i64 m.ha, .int .i64 m.hr, .slice AhB a.nhB chB, .slice AhP a.nhP chP, .int .i64 m.ca, .int .i64 m.cr, .slice AcB a.ncB ccB, .slice AcP a.ncP ccP, .int .i64 m.cd, .slice AcS a.ncS ccS, .slice a.AD a.nD a.cD] rfl rfl bzw9 (by simp) rfl (by kernel_rfl) rfl ?_)
 intro w10 bzw10 Tw10
 have sw10 := Tw10 F HFG.out
 clear Tw10
 have tw10 := tw9.on sw10
 have bxw10 := BX3.out.touch tw10 HFX.out
 have xc17 := (bxw10.2 17 _ rfl).1
 go_wp2_with fail
 clear xc17
 have riw11 := HIN.out _ (HT.out _ tw10)
 refine (copyNumbers_any a.AD a.cD a.nD m.D _ HI.out.zD riw11.rD HI.out.kD (by have := HF.out.sD; omega)).mono ?_
 rintro e w11 ⟨vD, rfl, hoD0, hbw11⟩
 have hoD := own_cast hoD0 ((i64s_length _).trans HI.out.zD)
 obtain ⟨AD, cD, rfl, -, -, -, -, -⟩ := own_val hoD
 clear hoD0
 have tw11 := tw10.then hbw11
 have bzw11 := Box.below bzw10 hbw11 (Box.lt bzw10)
 have zc17 := (bzw11.2 17 _ rfl).1
 have zf17 := (bzw11.2 17 _ rfl).2
 obtain ⟨w12, hw12⟩ : ∃ w12, w12 = w11.setCell ⟨w2.heap.size, 17, none⟩ (.slice AD a.nD cD) := ⟨_, rfl⟩
 have bzw12 : Box w12 (w2.heap.size) [.int .i64 m.k, .int .i64 m.f, .int .i64 m.t, .int .i64 m.d, .int .i64 m.ba, .int .i64 m.bn, .slice AL a.nL cL, .int .i64 m.ha, .int .i64 m.hr, .slice AhB a.nhB chB, .slice AhP a.nhP chP, .int .i64 m.ca, .int .i64 m.cr, .slice AcB a.ncB ccB, .slice AcP a.ncP ccP, .int .i64 m.cd, .slice AcS a.ncS ccS, .slice AD a.nD cD] := by rw [hw12]; exact box_set_one bzw11 (by simp) rfl
 have sw12 : Touch F w11 w12 := by rw [hw12]; exact (Touch.refl F w11).set (.inl HFG.out) _
 have tw12 := tw11.on sw12
 go_upto_region 6 with fail
 rw [← hw12]
 clear zc17 zf17 hw12
 have byl := BY3.out.touch tw12 HFR.out
 obtain ⟨F2, hF2⟩ : ∃ F2 : Nat → Prop, F2 = fun k => k = w.heap.size + 1 := ⟨_, rfl⟩
 have HG2 : Hid (F2 (w.heap.size + 1)) := by show F2 _; rw [hF2]
 have HB2 : Hid (∀ k, F2 k → k = w.heap.size + 1) := by show ∀ k, F2 k → _; rw [hF2]; exact fun k h => h
 clear hF2
 go_wp2_with (first
  | (refine wpList_load_box rfl 48 _ rfl (w2.heap.size) rfl [.int .i64 m.k, .int .i64 m.f, .int .i64 m.t, .int .i64 m.d, .int .i64 m.ba, .int .i64 m.bn, .slice AL a.nL cL, .int .i64 m.ha, .int .i64 m.hr, .slice AhB a.nhB chB, .slice AhP a.nhP chP, .int .i64 m.ca, .int .i64 m.cr, .slice AcB a.ncB ccB, .slice AcP a.ncP ccP, .int .i64 m.cd, .slice AcS a.ncS ccS, .slice AD a.nD cD] bzw12 _ Tryz.underlying48 rfl (by kernel_rfl) ?_)
  | (refine wpList_store_box rfl 48 _ _ rfl (w.heap.size + 1) 0 [.int .i64 m.k, .int .i64 m.f, .int .i64 m.t, .int .i64 m.d, .int .i64 m.ba, .int .i64 m.bn, .slice AL a.nL cL, .int .i64 m.ha, .int .i64 m.hr, .slice AhB a.nhB chB, .slice AhP a.nhP chP, .int .i64 m.ca, .int .i64 m.cr, .slice AcB a.ncB ccB, .slice AcP a.ncP ccP, .int .i64 m.cd, .slice AcS a.ncS ccS, .slice AD a.nD cD] _ [.int .i64 m.k, .int .i64 m.f, .int .i64 m.t, .int .i64 m.d, .int .i64 m.ba, .int .i64 m.bn, .slice AL a.nL cL, .int .i64 m.ha, .int .i64 m.hr, .slice AhB a.nhB chB, .slice AhP a.nhP chP, .int .i64 m.ca, .int .i64 m.cr, .slice AcB a.ncB ccB, .slice AcP a.ncP ccP, .int .i64 m.cd, .slice AcS a.ncS ccS, .slice AD a.nD cD] rfl rfl byl (by simp) rfl (by kernel_rfl) rfl ?_))
 intro w13 by13 T13
 have s13 := T13 F2 HG2.out
 clear T13
 have rc0 := (by13.2 0 _ rfl).1
 have rc1 := (by13.2 1 _ rfl).1
 have rc2 := (by13.2 2 _ rfl).1
 have rc3 := (by13.2 3 _ rfl).1
 have rc4 := (by13.2 4 _ rfl).1
 have rc5 := (by13.2 5 _ rfl).1
 have rc6 := (by13.2 6 _ rfl).1
 have rc7 := (by13.2 7 _ rfl).1
 have rc8 := (by13.2 8 _ rfl).1
 have rc9 := (by13.2 9 _ rfl).1
 have rc10 := (by13.2 10 _ rfl).1
 have rc11 := (by13.2 11 _ rfl).1
 have rc12 := (by13.2 12 _ rfl).1
 have rc13 := (by13.2 13 _ rfl).1
 have rc14 := (by13.2 14 _ rfl).1
 have rc15 := (by13.2 15 _ rfl).1
 have rc16 := (by13.2 16 _ rfl).1
 have rc17 := (by13.2 17 _ rfl).1
 have zw11 : Touch F w11 w12 := sw12
 have zw9 : Touch F w9 w12 := (sw10.then hbw11).on zw11
 have zw7 : Touch F w7 w12 := (sw8.then hbw9).on zw9
 have zw5 : Touch F w5 w12 := (sw6.then hbw7).on zw7
 have hlt : ∀ k, F k → k < w3.heap.size := fun k hk => by rw [HFB.out k hk]; exact HS3.out
 have hlt2 : ∀ k, F2 k → k < w3.heap.size := fun k hk => by rw [HB2.out k hk]; have := HS3.out; have := HS2.out; omega
 have oL := own_touch (own_touch (ownS_more hoL (t3).size) zw5 hlt) s13 hlt2
 have ohB := own_touch (own_touch (ownS_more hohB (tw6).size) zw7 hlt) s13 hlt2
 have ohP := own_touch (own_touch (ownS_more hohP (tw6).size) zw7 hlt) s13 hlt2
 have ocB := own_touch (own_touch (ownS_more hocB (tw8).size) zw9 hlt) s13 hlt2
 have ocP := own_touch (own_touch (ownS_more hocP (tw8).size) zw9 hlt) s13 hlt2
 have ocS := own_touch (own_touch (ownS_more hocS (tw8).size) zw9 hlt) s13 hlt2
 have oD := own_touch (own_touch (ownS_more hoD (tw10).size) zw11 hlt) s13 hlt2
 have hbl : Below w.heap.size w w13 := (HT.out _ tw12).trans (s13.below (fun k hk => by rw [HB2.out k hk]; omega) (HT.out _ tw12).size)
 have hws : w.heap.size ≤ w3.heap.size := by have := HS3.out; have := HS2.out; omega
 have z6 := sw6.size
 have z7 := hbw7.size
 have z8 := sw8.size
 have z9 := hbw9.size
 have z10 := sw10.size
 go_wp2_with fail
 refine bodyPost_ret (v := .agg #[.int .i64 m.k, .int .i64 m.f, .int .i64 m.t, .int .i64 m.d, .int .i64 m.ba, .int .i64 m.bn, .slice AL a.nL cL, .int .i64 m.ha, .int .i64 m.hr, .slice AhB a.nhB chB, .slice AhP a.nhP chP, .int .i64 m.ca, .int .i64 m.cr, .slice AcB a.ncB ccB, .slice AcP a.ncP ccP, .int .i64 m.cd, .slice AcS a.ncS ccS, .slice AD a.nD cD]) (by simp [results, Tryz.results55, go_sem, rc0, rc1, rc2, rc3, rc4, rc5, rc6, rc7, rc8, rc9, rc10, rc11, rc12, rc13, rc14, rc15, rc16, rc17]) rfl ⟨⟨AL, a.nL, cL, AhB, a.nhB, chB, AhP, a.nhP, chP, AcB, a.ncB, ccB, AcP, a.ncP, ccP, AcS, a.ncS, ccS, AD, a.nD, cD⟩, rfl, ⟨ownS_more oL hws, ownS_more ohB hws, ownS_more ohP hws, ownS_more ocB hws, ownS_more ocP hws, ownS_more ocS hws, ownS_more oD hws, fun k hD hX => by have h1 := (own_lt hoD hD).2; have h2 := (own_lt hoL hX).1; omega, fun k hD hX => by have h1 := (own_lt hoD hD).2; have h2 := (own_lt hohB hX).1; omega, fun k hD hX => by have h1 := (own_lt hoD hD).2; have h2 := (own_lt hohP hX).1; omega, fun k hD hX => by have h1 := (own_lt hoD hD).2; have h2 := (own_lt hocB hX).1; omega, fun k hD hX => by have h1 := (own_lt hoD hD).2; have h2 := (own_lt hocP hX).1; omega, fun k hD hX => by have h1 := (own_lt hoD hD).2; have h2 := (own_lt hocS hX).1; omega⟩, ⟨HF.out.sL, HF.out.shB, HF.out.shP, HF.out.scB, HF.out.scP, HF.out.scS, HF.out.sD⟩, hbl⟩

end Go.Proofs.YteepobghdpnabaaGreat
namespace Go.Proofs.YteepobghdpnabaaGreat
open Go.RowKit

theorem may_le {n : Int} (h : mayB n = true) : 1 ≤ n ∧ n ≤ 16 := by
 simp only [mayB, decide_eq_true_eq] at h
 omega
end Go.Proofs.YteepobghdpnabaaGreat
namespace Go.Proofs.YteepobghdpnabaaGreat
open Go.RowKit

/-! ### rising numbers, on plain lists -/
set_option maxHeartbeats 400000 in
theorem isRising_is (b : Bool) (A : Option Addr) (c n : Nat) (l : List Int) (most : Int) (w : World) (h : upB 0 most l = b) (hz : l.length = n) (hr : Rd w A (i64s l)) (hn : n ≤ 1073741824) :
  Calls Tryz.prog 161 #[.slice A n c, .int .i64 most] w fun e w' => e = .returned (.bool b) ∧ w = w' := by
 have HZ := Lib.hid hz
 have HU := Lib.hid h
 clear hz h
 go_enter Tryz.func161, Tryz.ntmps161
 go_wp2_with fail
 go_loop [5, 10] (fun v i => ∃ (k : Nat) (m : Int), i = .int .i64 k ∧ v = .int .i64 m ∧ k ≤ n ∧ Hid (upB m most (l.drop k) = b)) (fun _ i => n - (intOf i).toNat)
 case atStart => exact ⟨0, 0, rfl, rfl, by omega, by rw [List.drop_zero]; exact HU.out⟩
 case round =>
  obtain ⟨k, m, rfl, rfl, hk, HR⟩ := hrel
  by_cases hlt : k < n
  ·obtain ⟨bl, off, rfl, hbl, hcell⟩ := hr.open_ (by rw [i64s_length, HZ.out]; omega)
   have hc1 := hcell k _ (i64s_at (by rw [HZ.out]; exact hlt))
   have hd := drop_at (l := l) (k := k) (by rw [HZ.out]; exact hlt)
   clear hcell
   obtain ⟨y, hy⟩ : ∃ y, y = l[k]?.getD 0 := ⟨_, rfl⟩
   rw [← hy] at hc1 hd
   have hu := HR.out
   rw [hd, upB_cons] at hu
   have HY := Lib.hid hu
   clear hy hd hu
   have i0 : (0 : Int) ≤ (k : Int) := by omega
   have i1 : (k : Int) < (n : Int) := by omega
   by_cases h1 : y ≤ m
   ·have HB : Hid (b = false) := by
     show b = false
     rw [← HY.out, Bool.and_eq_false_iff]
     exact .inl (by simp; omega)
    go_wp2_with fail
    go_ret
    exact ⟨ret_bool HB.out.symm, rfl⟩
   ·by_cases h2 : most < y
    ·have HB : Hid (b = false) := by
      show b = false
      rw [← HY.out, Bool.and_eq_false_iff]
      exact .inl (by simp; omega)
     go_wp2_with fail
     go_ret
     exact ⟨ret_bool HB.out.symm, rfl⟩
    ·have HN : Hid (upB y most (l.drop (k + 1)) = b) := by
      show upB y most (l.drop (k + 1)) = b
      have h3 := HY.out
      have h4 : decide (m < y ∧ y ≤ most) = true := by simp; omega
      rw [h4, Bool.true_and] at h3
      exact h3
     go_wp2_with fail
     go_round
     case rel => exact ⟨k + 1, y, by go_num, rfl, by omega, HN⟩
     case measure => simp [intOf]; omega
  ·have HB : Hid (b = true) := by
    show b = true
    rw [← HR.out, List.drop_eq_nil_of_le (by rw [HZ.out]; omega)]
    rfl
   have i1 : ¬ ((k : Int) < (n : Int)) := by omega
   go_wp2_with fail
   go_ret
   exact ⟨ret_bool HB.out.symm, rfl⟩

/-! ### which headers may be -/
def isB (a r : Int) (B P : List Int) (n least : Int) : Bool :=
 decide ((1 ≤ a ∧ a ≤ n) ∧ (1 ≤ r ∧ r ≤ 1099511627776) ∧ ((B.length : Int) ≤ 8 ∧ upB 0 65536 B = true) ∧ (if r = 1 then P.length = 0 else least ≤ (P.length : Int) ∧ (P.length : Int) ≤ n ∧ upB 0 65536 P = true))
theorem dig_up {l : List Int} {most : Int} : digsB l most = true ↔ (l.length : Int) ≤ most ∧ upB 0 65536 l = true := by
 unfold digsB
 rw [Bool.and_eq_true, decide_eq_true_eq, upB_ris]
theorem dig_nil {l : List Int} {most : Int} (h : l.length = 0) (hm : 0 ≤ most) : digsB l most = true := by
 have : l = [] := List.eq_nil_of_length_eq_zero h
 subst this
 rw [dig_up]
 exact ⟨by simpa using hm, rfl⟩
theorem is_hdr {a r : Int} {B P : List Int} {n : Int} (hm : mayB n = true) : isB a r B P n (quoN n) = hdrB a r B P n := by
 have hmm : 1 ≤ n ∧ n ≤ 16 ∧ n % 3 = 1 := by simpa only [mayB, decide_eq_true_eq] using hm
 unfold isB hdrB
 rw [decide_eq_decide, dig_up (l := B)]
 constructor
 ·rintro ⟨h1, h2, h3, h4⟩
  by_cases hr : r = 1
  ·rw [if_pos hr] at h4 ⊢
   exact ⟨hm, h1, h2, h3, dig_nil h4 (by omega), h4⟩
  ·rw [if_neg hr] at h4 ⊢
   exact ⟨hm, h1, h2, h3, dig_up.2 h4.2, h4.1⟩
 ·rintro ⟨_, h1, h2, h3, h4, h5⟩
  refine ⟨h1, h2, h3, ?_⟩
  by_cases hr : r = 1
  ·rw [if_pos hr] at h5 ⊢; exact h5
  ·rw [if_neg hr] at h5 ⊢
   exact ⟨h5, dig_up.1 h4⟩

set_option maxHeartbeats 2000000 in
theorem isHeader_of (b : Bool) (a r : Int) (AB : Option Addr) (cB nB : Nat) (B : List Int) (AP : Option Addr) (cP nP : Nat) (P : List Int) (n least : Int) (w : World) (h : isB a r B P n least = b) (hzB : B.length = nB) (hzP : P.length = nP) (hrB : Rd w AB (i64s B)) (hrP : Rd w AP (i64s P)) (hlB : nB ≤ 1073741824) (hlP : nP ≤ 1073741824) :
  Calls Tryz.prog 160 #[.agg #[.int .i64 a, .int .i64 r, .slice AB nB cB, .slice AP nP cP], .int .i64 n, .int .i64 least] w (Tells w.heap.size w (.bool b)) := by
 have hbel := (Below.refl w.heap.size w).alloc (Nat.le_refl _) (.cells #[.int .i64 a, .int .i64 r, .slice AB nB cB, .slice AP nP cP] 44)
 have hrB := hrB.alloc (.cells #[.int .i64 a, .int .i64 r, .slice AB nB cB, .slice AP nP cP] 44)
 have hrP := hrP.alloc (.cells #[.int .i64 a, .int .i64 r, .slice AB nB cB, .slice AP nP cP] 44)
 have HZB := Lib.hid hzB
 have HZP := Lib.hid hzP
 have HB : Hid (b = isB a r B P n least) := h.symm
 clear h hzB hzP
 by_cases h1 : a < 1
 ·have HN : Hid (b = false) := HB.out.trans (by unfold isB; rw [decide_eq_false_iff_not]; omega)
  go_enter Tryz.func160, Tryz.ntmps160
  go_wp2_with fail
  go_ret
  exact ⟨ret_bool HN.out.symm, hbel⟩
 by_cases h2 : n < a
 ·have HN : Hid (b = false) := HB.out.trans (by unfold isB; rw [decide_eq_false_iff_not]; omega)
  go_enter Tryz.func160, Tryz.ntmps160
  go_wp2_with fail
  go_ret
  exact ⟨ret_bool HN.out.symm, hbel⟩
 by_cases h3 : r < 1
 ·have HN : Hid (b = false) := HB.out.trans (by unfold isB; rw [decide_eq_false_iff_not]; omega)
  go_enter Tryz.func160, Tryz.ntmps160
  go_wp2_with fail
  go_ret
  exact ⟨ret_bool HN.out.symm, hbel⟩
 by_cases h4 : 1099511627776 < r
 ·have HN : Hid (b = false) := HB.out.trans (by unfold isB; rw [decide_eq_false_iff_not]; omega)
  go_enter Tryz.func160, Tryz.ntmps160
  go_wp2_with fail
  go_ret
  exact ⟨ret_bool HN.out.symm, hbel⟩
 by_cases h5 : 8 < (nB : Int)
 ·have HN : Hid (b = false) := HB.out.trans (by unfold isB; rw [decide_eq_false_iff_not, HZB.out]; omega)
  go_enter Tryz.func160, Tryz.ntmps160
  go_wp2_with fail
  go_ret
  exact ⟨ret_bool HN.out.symm, hbel⟩
 cases hub : upB 0 65536 B with
 | false =>
  have HN : Hid (b = false) := HB.out.trans (by unfold isB; rw [decide_eq_false_iff_not, hub]; rintro ⟨_, _, ⟨_, h⟩, _⟩; cases h)
  have HUB := Lib.hid hub
  clear hub
  go_enter Tryz.func160, Tryz.ntmps160
  go_wp2_with fail
  refine (isRising_is false AB cB nB B _ _ HUB.out HZB.out hrB (by omega)).mono ?_
  rintro e w' ⟨rfl, rfl⟩
  go_wp2_with fail
  go_ret
  exact ⟨ret_bool HN.out.symm, hbel⟩
 | true =>
  have HUB := Lib.hid hub
  clear hub
  by_cases hr1 : r = 1
  ·have HN : Hid (b = decide (nP = 0)) := HB.out.trans (by
    unfold isB
    rw [decide_eq_decide, if_pos hr1, HZB.out, HZP.out]
    exact ⟨fun h => h.2.2.2, fun h => ⟨by omega, by omega, ⟨by omega, HUB.out⟩, h⟩⟩)
   subst hr1
   by_cases hp : nP = 0
   ·have hd : decide (nP = 0) = true := by simp [hp]
    rw [hd] at HN
    subst hp
    clear hd
    go_enter Tryz.func160, Tryz.ntmps160
    go_wp2_with fail
    refine (isRising_is true AB cB nB B _ _ HUB.out HZB.out hrB (by omega)).mono ?_
    rintro e w' ⟨rfl, rfl⟩
    go_wp2_with fail
    go_ret
    exact ⟨ret_bool HN.out.symm, hbel⟩
   ·have hd : decide (nP = 0) = false := by simp [hp]
    rw [hd] at HN
    have j1 : ((nP : Int) == 0) = false := by simp; omega
    clear hd hp
    go_enter Tryz.func160, Tryz.ntmps160
    go_wp2_with fail
    refine (isRising_is true AB cB nB B _ _ HUB.out HZB.out hrB (by omega)).mono ?_
    rintro e w' ⟨rfl, rfl⟩
    go_wp2_with fail
    go_ret
    exact ⟨ret_bool HN.out.symm, hbel⟩
  ·have HN : Hid (b = decide (least ≤ (nP : Int) ∧ (nP : Int) ≤ n ∧ upB 0 65536 P = true)) := HB.out.trans (by
    unfold isB
    rw [decide_eq_decide, if_neg hr1, HZB.out, HZP.out]
    exact ⟨fun h => h.2.2.2, fun h => ⟨by omega, by omega, ⟨by omega, HUB.out⟩, h⟩⟩)
   have j1 : (r == 1) = false := by simp [hr1]
   clear hr1
   by_cases h6 : least ≤ (nP : Int)
   ·by_cases h7 : (nP : Int) ≤ n
    ·have HNN : Hid (b = upB 0 65536 P) := HN.out.trans (by cases upB 0 65536 P <;> simp [h6, h7])
     go_enter Tryz.func160, Tryz.ntmps160
     go_wp2_with fail
     refine (isRising_is true AB cB nB B _ _ HUB.out HZB.out hrB (by omega)).mono ?_
     rintro e w' ⟨rfl, rfl⟩
     go_wp2_with fail
     refine (isRising_is b AP cP nP P _ _ HNN.out.symm HZP.out hrP (by omega)).mono ?_
     rintro e w' ⟨rfl, rfl⟩
     go_wp2_with fail
     go_ret
     exact ⟨rfl, hbel⟩
    ·have HNN : Hid (b = false) := HN.out.trans (by simp [h7])
     go_enter Tryz.func160, Tryz.ntmps160
     go_wp2_with fail
     refine (isRising_is true AB cB nB B _ _ HUB.out HZB.out hrB (by omega)).mono ?_
     rintro e w' ⟨rfl, rfl⟩
     go_wp2_with fail
     go_ret
     exact ⟨ret_bool HNN.out.symm, hbel⟩
   ·have HNN : Hid (b = false) := HN.out.trans (by simp [h6])
    go_enter Tryz.func160, Tryz.ntmps160
    go_wp2_with fail
    refine (isRising_is true AB cB nB B _ _ HUB.out HZB.out hrB (by omega)).mono ?_
    rintro e w' ⟨rfl, rfl⟩
    go_wp2_with fail
    go_ret
    exact ⟨ret_bool HNN.out.symm, hbel⟩

theorem isHeader_is (b : Bool) (a r : Int) (AB : Option Addr) (cB nB : Nat) (B : List Int) (AP : Option Addr) (cP nP : Nat) (P : List Int) (n least : Int) (w : World) (h : isB a r B P n least = b) (hi : HdrIn w AB cB nB B AP cP nP P) :
  Calls Tryz.prog 160 #[.agg #[.int .i64 a, .int .i64 r, .slice AB nB cB, .slice AP nP cP], .int .i64 n, .int .i64 least] w (Tells w.heap.size w (.bool b)) :=
 isHeader_of b a r AB cB nB B AP cP nP P n least w h hi.hB.hz hi.hP.hz hi.hB.hr hi.hP.hr (by have := hi.lB; omega) (by have := hi.lP; omega)

/-! ### Check -/
theorem may_mayB (n : Int) : may n = mayB n := by unfold may mayB; first | rfl | simp
theorem hcheck_in {a r : Int} {B P : List Int} {n : Int} (h : hdrB a r B P n = true) : mayB n = true := by
 obtain ⟨h1, _⟩ : mayB n = true ∧ _ := by simpa only [hdrB, decide_eq_true_eq] using h
 exact h1
set_option maxHeartbeats 1000000 in
theorem hcheck_is (b : Bool) (a r : Int) (AB : Option Addr) (cB nB : Nat) (B : List Int) (AP : Option Addr) (cP nP : Nat) (P : List Int) (n : Int) (w : World) (h : hdrB a r B P n = b) (hi : HdrIn w AB cB nB B AP cP nP P) :
  Calls Tryz.prog 148 #[.agg #[.int .i64 a, .int .i64 r, .slice AB nB cB, .slice AP nP cP], .int .i64 n] w (Tells w.heap.size w (.int .i64 (okV b))) := by
 obtain ⟨w1, hw1⟩ : ∃ w1, w1 = w.alloc (.cells #[.int .i64 a, .int .i64 r, .slice AB nB cB, .slice AP nP cP] 44) := ⟨_, rfl⟩
 have hb1 : Below w.heap.size w w1 := by rw [hw1]; exact (Below.refl _ _).alloc (Nat.le_refl _) _
 have hbox := hbox_new hw1
 have hi1 := hi.below hb1
 have HW := Lib.hid hw1
 have HBX := Lib.hid hbox
 clear hw1 hbox
 cases hm : mayB n with
 | false =>
  have HM : Hid (may n = false) := (may_mayB n).trans hm
  have HN : Hid (b = false) := by
   show b = false
   rw [← h]
   cases h5 : hdrB a r B P n with
   | false => rfl
   | true => rw [hcheck_in h5] at hm; cases hm
  clear hm h
  go_enter Tryz.func148, Tryz.ntmps148
  go_wp2_with fail
  rw [← HW.out]
  refine (quorum_no n HM.out _).mono ?_
  rintro e w' ⟨rfl, rfl⟩
  go_wp2_with fail
  go_ret
  exact ⟨by rw [HN.out]; rfl, hb1⟩
 | true =>
  have HM : Hid (may n = true) := (may_mayB n).trans hm
  have HI : Hid (isB a r B P n (2 * (n / 3) + 1) = b) := (is_hdr hm).trans h
  clear hm h
  go_enter Tryz.func148, Tryz.ntmps148
  go_wp2_with fail
  rw [← HW.out]
  refine (quorum_yes n HM.out _).mono ?_
  rintro e w' ⟨rfl, rfl⟩
  obtain ⟨c0, c1, c2, c3⟩ := HBX.out _ (Below.refl _ _)
  go_wp2_with fail
  refine (isHeader_is b a r AB cB nB B AP cP nP P n _ _ HI.out hi1).mono ?_
  rintro e w2 ⟨rfl, hb2⟩
  have hb3 := hb1.trans (hb2.mono hb1.size)
  clear c0 c1 c2 c3
  cases b with
  | true =>
   go_wp2_with fail
   go_ret
   exact ⟨rfl, hb3⟩
  | false =>
   go_wp2_with fail
   go_ret
   exact ⟨rfl, hb3⟩
theorem hcheck_yes (a r : Int) (AB : Option Addr) (cB nB : Nat) (B : List Int) (AP : Option Addr) (cP nP : Nat) (P : List Int) (n : Int) (w : World) (h : hdrB a r B P n = true) (hi : HdrIn w AB cB nB B AP cP nP P) :
  Calls Tryz.prog 148 #[.agg #[.int .i64 a, .int .i64 r, .slice AB nB cB, .slice AP nP cP], .int .i64 n] w (Tells w.heap.size w (.int .i64 0)) := hcheck_is true a r AB cB nB B AP cP nP P n w h hi
theorem hcheck_no (a r : Int) (AB : Option Addr) (cB nB : Nat) (B : List Int) (AP : Option Addr) (cP nP : Nat) (P : List Int) (n : Int) (w : World) (h : hdrB a r B P n = false) (hi : HdrIn w AB cB nB B AP cP nP P) :
  Calls Tryz.prog 148 #[.agg #[.int .i64 a, .int .i64 r, .slice AB nB cB, .slice AP nP cP], .int .i64 n] w (Tells w.heap.size w (.int .i64 1)) := hcheck_is false a r AB cB nB B AP cP nP P n w h hi

end Go.Proofs.YteepobghdpnabaaGreat
