/-
  A message is put into both books: the walk of droverlaw8.put.
-/
import Derived.Test.YtcfnomnhameleaaZI
import Derived.Test.YtcfnomnhameleaaRPres
import Derived.Deep.CutBlock
namespace Go.Proofs.Ytcfnomnhameleaa
open Go.RowKit

theorem size_mesP : (Try.prog.info? 42).map (·.size) = some 18 := by kernel_rfl
theorem num8_any (n : Int) (w : World) : Calls Try.prog 19 #[.int .i64 n] w fun e w' => e = .returned (.int .i64 n) ∧ w = w' := by
  go_enter Try.func19, Try.ntmps19
  go_wp2
  go_ret
  exact ⟨rfl, rfl⟩
theorem u8_nil (w : World) : (binOp BinOp.eql 60 (.slice none 0 0) (.slice none 0 0)).run Try.prog w = .ok (.bool true) w := by kernel_rfl
theorem u8_some (g n c : Nat) (w : World) : (binOp BinOp.eql 60 (.slice (some ⟨g, 0, none⟩) n c) (.slice none 0 0)).run Try.prog w = .ok (.bool false) w := by kernel_rfl
/-- the bytes, as far as there are any, as they lie -/
def RawAt (B0 : Nat) (m : MsgD) (v : Value) (w : World) : Prop :=
  (putRaw m = none ∧ v = .slice none 0 0) ∨ ∃ (g c n : Nat) (x : List Int), putRaw m = some x ∧ x.length = n ∧ v = .slice (some ⟨g, 0, none⟩) n c ∧ w.ownsRow B0 5 1 (.slice (some ⟨g, 0, none⟩) n c) n (u8s x)
theorem rawAt_some {B0 : Nat} {m : MsgD} {v : Value} {w : World} {x : List Int} {n : Nat} (h : putRaw m = some x) (hp : 0 < x.length) (ho : w.ownsRow B0 5 1 v n (u8s x)) : RawAt B0 m v w := by
  have hn : n = x.length := by have := ho.1; rw [u8s_length] at this; omega
  subst hn
  obtain ⟨g, c, rfl, _⟩ := ho.form hp
  exact .inr ⟨g, c, _, x, h, rfl, rfl, ho⟩
theorem batBytes_posP (a n : Int) (L : List TxD) : 0 < (batBytes a n L).length := by
  have := vnum_pos ((batTexts a n L).map byt).length
  rw [batBytes, putPuts, List.length_append]
  omega
theorem headBytes_posP (a r : Int) (B P : List Int) : 0 < (headBytes a r B P).length := by
  have := vnum_pos ((headTexts a r B P).map byt).length
  rw [headBytes, putPuts, List.length_append]
  omega
def PutGot (I : BookIs) (B gb gr : Nat) (F G : Nat → Prop) (L : List (List Int)) (S S' : List (Int × Int)) (m : MsgD) (w : World) (e : Ending) (w' : World) : Prop :=
  ∃ (a' : MsgA) (F' G' : Nat → Prop), e = .returned (.tuple #[msgV (putM L m) a', .bool true]) ∧ Pair I B gb gr F' G' (putLB L m) (putLB L m) S S' w' ∧ Touch (fun k => F k ∨ G k) w w' ∧ (∀ k, F' k → F k ∨ w.heap.size ≤ k) ∧ (∀ k, G' k → G k ∨ w.heap.size ≤ k) ∧
    MsgNew w.heap.size w' (putM L m) a' ∧ (∀ k, a'.has k → ¬ F' k ∧ ¬ G' k) ∧ MsgFew 1000000 a'
set_option maxRecDepth 100000 in
set_option maxHeartbeats 16000000 in
theorem put_is {I : BookIs} (K : BookK I) {B gb gr : Nat} {F G : Nat → Prop} {L : List (List Int)} {S S' : List (Int × Int)} (m : MsgD) (a : MsgA) (w : World) (hp : Pair I B gb gr F G L L S S' w) (hB : B ≤ w.heap.size) (hi : MsgIn w m a) (hf : MsgFew 1000000 a) (hL : L.length ≤ 999) (hs : ∀ y ∈ L, y.length ≤ 2000) :
    Calls Try.prog 18 #[.pointer (some ⟨gb, 0, none⟩), .pointer (some ⟨gr, 0, none⟩), msgV m a] w (PutGot I B gb gr F G L S S' m w) := by
  obtain ⟨w2, hw2⟩ : ∃ w2, w2 = (w.alloc (.cells #[.int .i64 m.k, .int .i64 m.f, .int .i64 m.t, .int .i64 m.d, .int .i64 m.ba, .int .i64 m.bn, .slice a.AL a.nL a.cL, .int .i64 m.ha, .int .i64 m.hr, .slice a.AhB a.nhB a.chB, .slice a.AhP a.nhP a.chP, .int .i64 m.ca, .int .i64 m.cr, .slice a.AcB a.ncB a.ccB, .slice a.AcP a.ncP a.ccP, .int .i64 m.cd, .slice a.AcS a.ncS a.ccS, .slice a.AD a.nD a.cD] 42)).alloc (.cells #[.int .i64 0, .int .i64 0, .int .i64 0, .int .i64 0, .int .i64 0, .int .i64 0, .slice none 0 0, .int .i64 0, .int .i64 0, .slice none 0 0, .slice none 0 0, .int .i64 0, .int .i64 0, .slice none 0 0, .slice none 0 0, .int .i64 0, .slice none 0 0, .slice none 0 0] 42) := ⟨_, rfl⟩
  have hb2 : Below w.heap.size w w2 := by rw [hw2]; exact ((Below.refl _ _).alloc (Nat.le_refl _) _).alloc (by simp) _
  have hs2 : w2.heap.size = w.heap.size + 2 := by rw [hw2]; simp
  have bx2 : Box w2 w.heap.size (msgC m a) := by
    rw [hw2]
    exact (box_new w (msgC m a) 42).below ((Below.refl _ _).alloc (Nat.le_refl _) _) (by simp)
  obtain ⟨gz, hgz⟩ : ∃ gz, gz = w.heap.size + 1 := ⟨_, rfl⟩
  have by2 : Box w2 gz (msgC zeroM zeroA) := by
    rw [hw2, hgz]
    have h := box_new (w.alloc (.cells #[.int .i64 m.k, .int .i64 m.f, .int .i64 m.t, .int .i64 m.d, .int .i64 m.ba, .int .i64 m.bn, .slice a.AL a.nL a.cL, .int .i64 m.ha, .int .i64 m.hr, .slice a.AhB a.nhB a.chB, .slice a.AhP a.nhP a.chP, .int .i64 m.ca, .int .i64 m.cr, .slice a.AcB a.ncB a.ccB, .slice a.AcP a.ncP a.ccP, .int .i64 m.cd, .slice a.AcS a.ncS a.ccS, .slice a.AD a.nD a.cD] 42)) (msgC zeroM zeroA) 42
    have e : (w.alloc (.cells #[.int .i64 m.k, .int .i64 m.f, .int .i64 m.t, .int .i64 m.d, .int .i64 m.ba, .int .i64 m.bn, .slice a.AL a.nL a.cL, .int .i64 m.ha, .int .i64 m.hr, .slice a.AhB a.nhB a.chB, .slice a.AhP a.nhP a.chP, .int .i64 m.ca, .int .i64 m.cr, .slice a.AcB a.ncB a.ccB, .slice a.AcP a.ncP a.ccP, .int .i64 m.cd, .slice a.AcS a.ncS a.ccS, .slice a.AD a.nD a.cD] 42)).heap.size = w.heap.size + 1 := by simp
    rw [e] at h
    exact h
  obtain ⟨TT, hTT⟩ : ∃ TT : Nat → Prop, TT = fun k => F k ∨ G k := ⟨_, rfl⟩
  have hTL : ∀ k, TT k → k < w.heap.size := fun k hk => by
    rw [hTT] at hk
    rcases hk with hk | hk
    · exact K.lt hp.1.1 k hk
    · exact hp.2.1.1.lt k hk
  have HTL := Lib.hid hTL
  have HTT := Lib.hid hTT
  have HW2 := Lib.hid hw2
  have HS2 := Lib.hid hs2
  have HGZ := Lib.hid hgz
  have HIN : Hid (∀ wX, Below w.heap.size w wX → MsgIn wX m a) := hi.all
  have BX2 := Lib.hid bx2
  have BY2 := Lib.hid by2
  have HB2 := Lib.hid hb2
  have HF := Lib.hid hf
  have HI := Lib.hid hi
  have HP := Lib.hid hp
  have HSM := Lib.hid hs
  clear hw2 bx2 by2 hf hi hb2 hs2 hTL hTT hp hs
  unfold msgV
  go_enter Try.func18, Try.ntmps18
  go_upto_region 1 with fail
  rw [← HW2.out, ← hgz]
  clear hgz
  go_wp2_with (refine wpList_load_box rfl 42 _ rfl w.heap.size rfl (msgC m a) BX2.out _ Try.underlying42 rfl size_mesP ?_)
  refine (rcopyMsg_any m a _ (HIN.out _ HB2.out) HF.out).mono ?_
  rintro e w3 ⟨a3, rfl, hn3, hf3, hq3⟩
  have hb3 : Below w.heap.size w w3 := HB2.out.trans (hq3.mono HB2.out.size)
  obtain ⟨gx, hgx⟩ : ∃ gx, gx = w3.heap.size := ⟨_, rfl⟩
  have HZX := Lib.hid (box_new w3 (msgC zeroM zeroA) 42)
  go_wp2_with (first
    | (refine wpList_store_box rfl 42 _ _ rfl w3.heap.size 0 (msgC m a3) (msgC zeroM zeroA) (msgC m a3) rfl rfl HZX.out (by simp [msgC]) rfl size_mesP rfl ?_)
    | (refine wpList_run_to rfl 42 rfl (.pointer (some ⟨w3.heap.size, 0, none⟩)) (w3.alloc (.cells (msgC zeroM zeroA).toArray 42)) (by unfold execOp msgC zeroM zeroA; go_simp; done) ?_))
  intro w4 bx4 T4
  have t4 := T4 (fun k => k = w3.heap.size) rfl
  have hq4 : Below w3.heap.size w3 w4 := ((Below.refl _ _).alloc (Nat.le_refl _) _).trans (t4.below (fun k hk => by rw [hk]; exact Nat.le_refl _) (by simp))
  have hb4 : Below w.heap.size w w4 := hb3.trans (hq4.mono hb3.size)
  have hq24 : Below w2.heap.size w2 w4 := hq3.trans (hq4.mono hq3.size)
  rw [← hgx] at bx4 ⊢
  have hgx2 : w2.heap.size ≤ gx := by rw [hgx]; exact hq3.size
  have HGX2 : Hid (w.heap.size + 2 ≤ gx) := by have h := HS2.out; show w.heap.size + 2 ≤ gx; omega
  have HX : Hid (∀ wX, Touch TT w4 wX → Box wX w.heap.size (msgC m a)) := fun wX h => (BX2.out.below hq24 (by have := HS2.out; omega)).touch h fun hk => Nat.lt_irrefl _ (HTL.out _ hk)
  have HY : Hid (∀ wX, Touch TT w4 wX → Box wX gz (msgC zeroM zeroA)) := fun wX h => (BY2.out.below hq24 (by have := HS2.out; have := HGZ.out; omega)).touch h fun hk => by have := HTL.out _ hk; have := HGZ.out; omega
  have HGX : Hid (∀ wX, Touch TT w4 wX → Box wX gx (msgC m a3)) := fun wX h => bx4.touch h fun hk => by have := HTL.out _ hk; have := HGX2.out; omega
  have hn4 := hn3.below hq4
  have HNEW : Hid (∀ wX, Touch TT w4 wX → MsgNew w.heap.size wX m a3) := fun wX h => (hn4.more (by have := HS2.out; omega)).kept fun k hk hl => h.block k hl fun hf => by have := HTL.out _ hf; have := (hn4.lt hk).2; have := HS2.out; omega
  have HHAS : Hid (∀ k, a3.has k → w.heap.size ≤ k ∧ k < w4.heap.size) := fun k hk => ⟨by have := (hn4.lt hk).2; have := HS2.out; omega, (hn4.lt hk).1⟩
  have HASX : Hid (∀ k, a3.has k → k ≠ gx ∧ k ≠ gz) := fun k hk => ⟨by have := (hn3.lt hk).1; omega, by have := (hn3.lt hk).2; have := HS2.out; have := HGZ.out; omega⟩
  have HF3 := Lib.hid hf3
  have HB4 := Lib.hid hb4
  clear T4 t4 hq4 hq24 bx4 hn4 hn3 hf3 hq3 hb3 hgx hgx2 HZX HW2 BX2 BY2 HB2
  have x0 := ((HX.out _ (Touch.refl _ _)).2 0 _ rfl).1
  go_upto_block 0 with fail
  clear x0
  go_cut [9] from 15 to 42 (fun v wx => RawAt w.heap.size m v wx ∧ Below w4.heap.size w4 wx)
  case first =>
    by_cases hk : m.k = 1
    · have e1 : (m.k == 1) = true := by simp [hk]
      have e3 : (m.k == 3) = false := by simp [hk]
      have e4 : (m.k == 4) = false := by simp [hk]
      have e6 : (m.k == 6) = false := by simp [hk]
      have hRW : putRaw m = if batB m.ba m.bn m.L = true then some (batBytes m.ba m.bn m.L) else none := by unfold putRaw; rw [if_pos (.inl hk)]
      have HRW := Lib.hid hRW
      clear hRW hk
      have x4 := ((HX.out _ (Touch.of (Below.refl _ _))).2 4 _ rfl).1
      have x5 := ((HX.out _ (Touch.of (Below.refl _ _))).2 5 _ rfl).1
      have x6 := ((HX.out _ (Touch.of (Below.refl _ _))).2 6 _ rfl).1
      go_wp2_with fail
      refine (rbatch_is (batB m.ba m.bn m.L) m.ba m.bn a.AL a.cL a.nL m.L _ rfl HI.out.zL (HIN.out _ HB4.out).rL).mono ?_
      rintro e w5 ⟨rfl, hb5⟩
      cases hbt : batB m.ba m.bn m.L with
      | false =>
        have HN : Hid (putRaw m = none) := by show putRaw m = none; rw [HRW.out, hbt]; rfl
        clear hbt
        go_wp2_with fail
        go_meet
        exact ⟨.inl ⟨HN.out, rfl⟩, hb5⟩
      | true =>
        have HN : Hid (putRaw m = some (batBytes m.ba m.bn m.L)) := by show putRaw m = _; rw [HRW.out, hbt]; rfl
        have HBT := Lib.hid hbt
        clear hbt
        clear x4 x5 x6
        have x4 := ((HX.out _ (Touch.of hb5)).2 4 _ rfl).1
        have x5 := ((HX.out _ (Touch.of hb5)).2 5 _ rfl).1
        have x6 := ((HX.out _ (Touch.of hb5)).2 6 _ rfl).1
        go_wp2_with fail
        refine (rbytes_any m.ba m.bn a.AL a.cL a.nL m.L _ HBT.out HI.out.zL (HIN.out _ (HB4.out.trans (hb5.mono HB4.out.size))).rL HI.out.kL).mono ?_
        rintro e w6 ⟨v6, rfl, ho6, hb6⟩
        go_wp2_with fail
        go_meet
        exact ⟨rawAt_some HN.out (batBytes_posP _ _ _) (own_more (own_cast ho6 rfl) (by have := HB4.out.size; have := hb5.size; omega)), hb5.trans (hb6.mono hb5.size)⟩
    have n1 := Lib.hid hk
    clear hk
    by_cases hk : m.k = 3
    · have e1 : (m.k == 1) = false := by simp [hk]
      have e3 : (m.k == 3) = true := by simp [hk]
      have e4 : (m.k == 4) = false := by simp [hk]
      have e6 : (m.k == 6) = false := by simp [hk]
      have hRW : putRaw m = if batB m.ba m.bn m.L = true then some (batBytes m.ba m.bn m.L) else none := by unfold putRaw; rw [if_pos (.inr hk)]
      have HRW := Lib.hid hRW
      clear hRW hk
      have x4 := ((HX.out _ (Touch.of (Below.refl _ _))).2 4 _ rfl).1
      have x5 := ((HX.out _ (Touch.of (Below.refl _ _))).2 5 _ rfl).1
      have x6 := ((HX.out _ (Touch.of (Below.refl _ _))).2 6 _ rfl).1
      go_wp2_with fail
      refine (rbatch_is (batB m.ba m.bn m.L) m.ba m.bn a.AL a.cL a.nL m.L _ rfl HI.out.zL (HIN.out _ HB4.out).rL).mono ?_
      rintro e w5 ⟨rfl, hb5⟩
      cases hbt : batB m.ba m.bn m.L with
      | false =>
        have HN : Hid (putRaw m = none) := by show putRaw m = none; rw [HRW.out, hbt]; rfl
        clear hbt
        go_wp2_with fail
        go_meet
        exact ⟨.inl ⟨HN.out, rfl⟩, hb5⟩
      | true =>
        have HN : Hid (putRaw m = some (batBytes m.ba m.bn m.L)) := by show putRaw m = _; rw [HRW.out, hbt]; rfl
        have HBT := Lib.hid hbt
        clear hbt
        clear x4 x5 x6
        have x4 := ((HX.out _ (Touch.of hb5)).2 4 _ rfl).1
        have x5 := ((HX.out _ (Touch.of hb5)).2 5 _ rfl).1
        have x6 := ((HX.out _ (Touch.of hb5)).2 6 _ rfl).1
        go_wp2_with fail
        refine (rbytes_any m.ba m.bn a.AL a.cL a.nL m.L _ HBT.out HI.out.zL (HIN.out _ (HB4.out.trans (hb5.mono HB4.out.size))).rL HI.out.kL).mono ?_
        rintro e w6 ⟨v6, rfl, ho6, hb6⟩
        go_wp2_with fail
        go_meet
        exact ⟨rawAt_some HN.out (batBytes_posP _ _ _) (own_more (own_cast ho6 rfl) (by have := HB4.out.size; have := hb5.size; omega)), hb5.trans (hb6.mono hb5.size)⟩
    have n3 := Lib.hid hk
    clear hk
    by_cases hk : m.k = 4
    · have e1 : (m.k == 1) = false := by simp [hk]
      have e3 : (m.k == 3) = false := by simp [hk]
      have e4 : (m.k == 4) = true := by simp [hk]
      have e6 : (m.k == 6) = false := by simp [hk]
      have hRW : putRaw m = if wideB m.ha m.hr m.hB m.hP = true then some (headBytes m.ha m.hr m.hB m.hP) else none := by unfold putRaw; rw [if_neg (by omega), if_pos hk]
      have HRW := Lib.hid hRW
      clear hRW hk
      have x7 := ((HX.out _ (Touch.of (Below.refl _ _))).2 7 _ rfl).1
      have x8 := ((HX.out _ (Touch.of (Below.refl _ _))).2 8 _ rfl).1
      have x9 := ((HX.out _ (Touch.of (Below.refl _ _))).2 9 _ rfl).1
      have x10 := ((HX.out _ (Touch.of (Below.refl _ _))).2 10 _ rfl).1
      go_wp2_with fail
      refine (rwide_is (wideB m.ha m.hr m.hB m.hP) m.ha m.hr a.AhB a.chB a.nhB m.hB a.AhP a.chP a.nhP m.hP _ rfl HI.out.zhB (HIN.out _ HB4.out).rhB (by have := HF.out.shB; omega) HI.out.zhP (HIN.out _ HB4.out).rhP (by have := HF.out.shP; omega)).mono ?_
      rintro e w5 ⟨rfl, hb5⟩
      cases hbt : wideB m.ha m.hr m.hB m.hP with
      | false =>
        have HN : Hid (putRaw m = none) := by show putRaw m = none; rw [HRW.out, hbt]; rfl
        clear hbt
        go_wp2_with fail
        go_meet
        exact ⟨.inl ⟨HN.out, rfl⟩, hb5⟩
      | true =>
        have HN : Hid (putRaw m = some (headBytes m.ha m.hr m.hB m.hP)) := by show putRaw m = _; rw [HRW.out, hbt]; rfl
        have HBT := Lib.hid hbt
        clear hbt
        clear x7 x8 x9 x10
        have x7 := ((HX.out _ (Touch.of hb5)).2 7 _ rfl).1
        have x8 := ((HX.out _ (Touch.of hb5)).2 8 _ rfl).1
        have x9 := ((HX.out _ (Touch.of hb5)).2 9 _ rfl).1
        have x10 := ((HX.out _ (Touch.of hb5)).2 10 _ rfl).1
        go_wp2_with fail
        refine (rheadBytes_any m.ha m.hr a.AhB a.chB a.nhB m.hB a.AhP a.chP a.nhP m.hP _ HBT.out HI.out.zhB (HIN.out _ (HB4.out.trans (hb5.mono HB4.out.size))).rhB HI.out.zhP (HIN.out _ (HB4.out.trans (hb5.mono HB4.out.size))).rhP).mono ?_
        rintro e w6 ⟨v6, rfl, ho6, hb6⟩
        go_wp2_with fail
        go_meet
        exact ⟨rawAt_some HN.out (headBytes_posP _ _ _ _) (own_more (own_cast ho6 rfl) (by have := HB4.out.size; have := hb5.size; omega)), hb5.trans (hb6.mono hb5.size)⟩
    have n4 := Lib.hid hk
    clear hk
    by_cases hk : m.k = 6
    · have e1 : (m.k == 1) = false := by simp [hk]
      have e3 : (m.k == 3) = false := by simp [hk]
      have e4 : (m.k == 4) = false := by simp [hk]
      have e6 : (m.k == 6) = true := by simp [hk]
      have hRW : putRaw m = if wideB m.ca m.cr m.cB m.cP = true then some (headBytes m.ca m.cr m.cB m.cP) else none := by unfold putRaw; rw [if_neg (by omega), if_neg (by omega), if_pos hk]
      have HRW := Lib.hid hRW
      clear hRW hk
      have x11 := ((HX.out _ (Touch.of (Below.refl _ _))).2 11 _ rfl).1
      have x12 := ((HX.out _ (Touch.of (Below.refl _ _))).2 12 _ rfl).1
      have x13 := ((HX.out _ (Touch.of (Below.refl _ _))).2 13 _ rfl).1
      have x14 := ((HX.out _ (Touch.of (Below.refl _ _))).2 14 _ rfl).1
      go_wp2_with fail
      refine (rwide_is (wideB m.ca m.cr m.cB m.cP) m.ca m.cr a.AcB a.ccB a.ncB m.cB a.AcP a.ccP a.ncP m.cP _ rfl HI.out.zcB (HIN.out _ HB4.out).rcB (by have := HF.out.scB; omega) HI.out.zcP (HIN.out _ HB4.out).rcP (by have := HF.out.scP; omega)).mono ?_
      rintro e w5 ⟨rfl, hb5⟩
      cases hbt : wideB m.ca m.cr m.cB m.cP with
      | false =>
        have HN : Hid (putRaw m = none) := by show putRaw m = none; rw [HRW.out, hbt]; rfl
        clear hbt
        go_wp2_with fail
        go_meet
        exact ⟨.inl ⟨HN.out, rfl⟩, hb5⟩
      | true =>
        have HN : Hid (putRaw m = some (headBytes m.ca m.cr m.cB m.cP)) := by show putRaw m = _; rw [HRW.out, hbt]; rfl
        have HBT := Lib.hid hbt
        clear hbt
        clear x11 x12 x13 x14
        have x11 := ((HX.out _ (Touch.of hb5)).2 11 _ rfl).1
        have x12 := ((HX.out _ (Touch.of hb5)).2 12 _ rfl).1
        have x13 := ((HX.out _ (Touch.of hb5)).2 13 _ rfl).1
        have x14 := ((HX.out _ (Touch.of hb5)).2 14 _ rfl).1
        go_wp2_with fail
        refine (rheadBytes_any m.ca m.cr a.AcB a.ccB a.ncB m.cB a.AcP a.ccP a.ncP m.cP _ HBT.out HI.out.zcB (HIN.out _ (HB4.out.trans (hb5.mono HB4.out.size))).rcB HI.out.zcP (HIN.out _ (HB4.out.trans (hb5.mono HB4.out.size))).rcP).mono ?_
        rintro e w6 ⟨v6, rfl, ho6, hb6⟩
        go_wp2_with fail
        go_meet
        exact ⟨rawAt_some HN.out (headBytes_posP _ _ _ _) (own_more (own_cast ho6 rfl) (by have := HB4.out.size; have := hb5.size; omega)), hb5.trans (hb6.mono hb5.size)⟩
    have n6 := Lib.hid hk
    clear hk
    have e1 : (m.k == 1) = false := by simp [n1.out]
    have e3 : (m.k == 3) = false := by simp [n3.out]
    have e4 : (m.k == 4) = false := by simp [n4.out]
    have e6 : (m.k == 6) = false := by simp [n6.out]
    have HN : Hid (putRaw m = none) := by show putRaw m = none; unfold putRaw; rw [if_neg (by rintro (h | h); exact n1.out h; exact n3.out h), if_neg n4.out, if_neg n6.out]
    go_wp2_with fail
    go_meet
    exact ⟨.inl ⟨HN.out, rfl⟩, Below.refl _ _⟩
  case rest =>
    obtain ⟨hraw, hb5⟩ := hcut
    rcases hraw with ⟨hr, rfl⟩ | ⟨g, c, nx, x, hr, hnx, rfl, ho⟩
    · have HR := Lib.hid hr
      have ht5 : Touch TT w4 wc := Touch.of hb5
      clear hr
      have hnil := u8_nil
      go_wp2_with (first
        | (refine wpList_load_box rfl 42 _ rfl gx rfl (msgC m a3) (HGX.out _ ht5) _ Try.underlying42 rfl size_mesP ?_)
        | (refine wpList_store_box rfl 42 _ _ rfl gz 0 (msgC m a3) (msgC zeroM zeroA) (msgC m a3) rfl rfl (HY.out _ ht5) (by simp [msgC]) rfl size_mesP rfl ?_))
      intro w6 by6 T6
      have t6 := T6 (fun k => k = gz) rfl
      have HBY6 := Lib.hid by6
      have hb56 := hb5
      have hz6 : Touch (fun k => k = gz) w4 w6 := (Touch.of hb56).trans t6 (fun k hk => .inl hk)
      have ht6 : Touch TT w w6 := (Touch.of (HB4.out.mono (Nat.le_refl _))).trans hz6 (fun k hk => .inr (by have := HGZ.out; omega))
      have hP6 : Pair I B gb gr F G L L S S' w6 := (HP.out.below K HB4.out).touch K hz6 (fun k hk => by
        subst hk
        exact ⟨fun h => by have := K.lt HP.out.1.1 _ h; have := HGZ.out; omega, fun h => by have := HP.out.2.1.1.lt _ h; have := HGZ.out; omega⟩)
      have hn6 : MsgNew w.heap.size w6 m a3 := (HNEW.out _ (Touch.refl _ _)).kept fun k hk hl => hz6.block k hl fun e => by
        have h := HASX.out k hk
        exact h.2 e
      clear T6 t6 by6 hz6
      go_wp2_with fail
      refine bodyPost_ret (v := .tuple #[msgV m a3, .bool true]) (pres _ _ gz m a3 true rfl rfl HBY6.out) rfl ⟨a3, F, G, ?_, ?_, ?_, fun k hk => .inl hk, fun k hk => .inl hk, ?_, fun k hk => ?_, HF3.out⟩
      · rw [putM, HR.out]
      · rw [putLB, HR.out]
        exact hP6
      · rw [← HTT.out]; exact ht6
      · rw [putM, HR.out]
        exact hn6
      · have h := HHAS.out k hk
        exact ⟨fun e => by have := K.lt HP.out.1.1 _ e; omega, fun e => by have := HP.out.2.1.1.lt _ e; omega⟩
    · have HR := Lib.hid hr
      have HNX := Lib.hid hnx
      have hsm := putRaw_small hr
      rw [hnx] at hsm
      have HBY := Lib.hid (putRaw_byts hr)
      obtain ⟨_, _, hv, hcn, hcm, hrx, _, _⟩ := own_val ho
      cases hv
      have hglt := own_lt ho (g := g) rfl
      have hbw5 : Below w.heap.size w wc := HB4.out.trans (hb5.mono HB4.out.size)
      have hP5 := HP.out.below K hbw5
      have HG : Hid (Given wc F (some ⟨g, 0, none⟩) c nx x) := ⟨hnx, hrx, putRaw_byts hr, hcn, hcm, by omega, fun a ha _ hf => by cases ha; have := K.lt HP.out.1.1 _ hf; have := hglt.2; simp only at *; omega⟩
      obtain ⟨dd, hdd⟩ : ∃ dd : Int, ((digL L x : Nat) : Int) = dd := ⟨_, rfl⟩
      have HDD := Lib.hid hdd
      clear hr hnx hdd
      have hsom := u8_some
      go_wp2_with fail
      refine (digest_all K gb L S _ c nx x _ hP5.1.1 HG.out (by omega)).mono ?_
      rintro e w6 ⟨rfl, F6, hI6, ht6, hf6⟩
      rw [HDD.out]
      have hP6 := hP5.left (Nat.le_trans hB hbw5.size) hI6 ht6 hf6
      have ho6 : w6.ownsRow w.heap.size 5 1 (.slice (some ⟨g, 0, none⟩) nx c) nx (u8s x) := own_kept ho fun j hj hl => ht6.block j hl fun hf => by
        have e : g = j := by simpa [Value.ownBlock] using hj
        subst e
        have := K.lt HP.out.1.1 _ hf
        have := hglt.2
        omega
      obtain ⟨_, _, hv, _, _, hrx6, _, _⟩ := own_val ho6
      cases hv
      go_wp2_with fail
      refine (num8_any _ _).mono ?_
      rintro e w' ⟨rfl, rfl⟩
      go_wp2_with fail
      refine (rdigest_all gr L S' _ c nx x _ hP6.2.1.1 HNX.out hrx6 hcn (by omega) (by omega) (fun y hy => by have := HSM.out y hy; omega)).mono ?_
      rintro e w7 ⟨rfl, G7, hR7, ht7, hf7⟩
      rw [HDD.out]
      have hP7 := hP6.right K (Nat.le_trans (Nat.le_trans hB hbw5.size) ht6.size) hR7 ht7 hf7
      have hF6 : ∀ k, F6 k → F k ∨ w4.heap.size ≤ k := fun k hk => (hf6 k hk).imp id fun e => Nat.le_trans hb5.size e
      have hG7 : ∀ k, G7 k → G k ∨ w4.heap.size ≤ k := fun k hk => (hf7 k hk).imp id fun e => Nat.le_trans (Nat.le_trans hb5.size ht6.size) e
      have h57 : Touch TT wc w7 := by
        rw [HTT.out]
        exact (ht6.mono fun _ h => .inl h).trans (ht7.mono fun _ h => .inr h) fun k hk => .inl hk
      have h47 : Touch TT w4 w7 := (Touch.of hb5).trans h57 fun k hk => .inl hk
      have HP7 := Lib.hid hP7
      have H47 := Lib.hid h47
      have HF6 := Lib.hid hF6
      have HG7 := Lib.hid hG7
      clear ho ho6 hP5 hP6 hI6 hR7 ht6 ht7 hf6 hf7 h57 hrx hrx6
      have j1 : (dd != dd) = false := by simp
      have x0 := ((HX.out _ H47.out).2 0 _ rfl).1
      by_cases h6 : m.k = 6
      · have e6 : (m.k == 6) = true := by simp [h6]
        have hM : putM L m = { m with cd := dd } := by rw [putM, HR.out]; show (if m.k = 6 then _ else _) = _; rw [if_pos h6, HDD.out]
        have HM := Lib.hid hM
        clear hM h6
        have kk := ((HGX.out _ H47.out).2 15 _ rfl)
        have ka := kk.1
        have kf := kk.2
        clear kk
        obtain ⟨w8, hw8⟩ : ∃ w8, w8 = w7.setCell ⟨gx, 15, none⟩ (.int .i64 dd) := ⟨_, rfl⟩
        have bx8 : Box w8 gx (msgC { m with cd := dd } a3) := by rw [hw8]; exact (HGX.out _ H47.out).set (j := 15) (by simp [msgC])
        have by8 : Box w8 gz (msgC zeroM zeroA) := by rw [hw8]; exact (HY.out _ H47.out).far (by have := HGX2.out; have := HGZ.out; omega)
        have t78 : Touch (fun k => k = gx ∨ k = gz) w7 w8 := by rw [hw8]; exact (Touch.refl _ _).set (.inl (.inl rfl)) _
        go_upto_region 22 with fail
        rw [← hw8]
        clear hw8 ka kf x0
        go_wp2_with (first
          | (refine wpList_load_box rfl 42 _ rfl gx rfl (msgC { m with cd := dd } a3) bx8 _ Try.underlying42 rfl size_mesP ?_)
          | (refine wpList_store_box rfl 42 _ _ rfl gz 0 (msgC { m with cd := dd } a3) (msgC zeroM zeroA) (msgC { m with cd := dd } a3) rfl rfl by8 (by simp [msgC]) rfl size_mesP rfl ?_))
        intro w9 by9 T9
        have t79 : Touch (fun k => k = gx ∨ k = gz) w7 w9 := t78.trans (T9 (fun k => k = gz) rfl) fun k hk => .inl (.inr hk)
        have HBY9 := Lib.hid by9
        have T79 := Lib.hid t79
        clear T9 t78 bx8 by8 by9 t79
        go_wp2_with fail
        have hfar : ∀ k, (k = gx ∨ k = gz) → w.heap.size ≤ k := fun k hk => by
          have := HGX2.out
          have := HGZ.out
          omega
        have hgx4 : gx < w4.heap.size := (HGX.out _ (Touch.refl _ _)).1
        have hgz4 : gz < w4.heap.size := (HY.out _ (Touch.refl _ _)).1
        have hn9 : MsgNew w.heap.size w9 m a3 := (HNEW.out _ H47.out).kept fun k hk hl => T79.out.block k hl fun e => by
          have h := HASX.out k hk
          rcases e with e | e
          · exact h.1 e
          · exact h.2 e
        refine bodyPost_ret (v := .tuple #[msgV ({ m with cd := dd }) a3, .bool true]) (pres _ _ gz ({ m with cd := dd }) a3 true rfl rfl HBY9.out) rfl ⟨a3, F6, G7, ?_, ?_, ?_, fun k hk => (HF6.out k hk).imp id fun e => Nat.le_trans HB4.out.size e, fun k hk => (HG7.out k hk).imp id fun e => Nat.le_trans HB4.out.size e, putM_new L hn9, fun k hk => ?_, HF3.out⟩
        · rw [HM.out]
        · have e : putLB L m = addB L x := by rw [putLB, HR.out]
          rw [e]
          exact HP7.out.touch K T79.out fun k hk => ⟨fun h => by
            have h1 := hfar k hk
            rcases HF6.out k h with h2 | h2
            · have := K.lt HP.out.1.1 _ h2; omega
            · omega, fun h => by
            have h1 := hfar k hk
            rcases HG7.out k h with h2 | h2
            · have := HP.out.2.1.1.lt _ h2; omega
            · omega⟩
        · rw [← HTT.out]
          exact ((Touch.of HB4.out).trans H47.out fun k hk => .inl hk).trans T79.out fun k hk => .inr (hfar k hk)
        · have h := HHAS.out k hk
          exact ⟨fun e => by
            rcases HF6.out k e with h2 | h2
            · have := K.lt HP.out.1.1 _ h2; omega
            · omega, fun e => by
            rcases HG7.out k e with h2 | h2
            · have := HP.out.2.1.1.lt _ h2; omega
            · omega⟩
      · have e6 : (m.k == 6) = false := by simp [h6]
        have hM : putM L m = { m with d := dd } := by rw [putM, HR.out]; show (if m.k = 6 then _ else _) = _; rw [if_neg h6, HDD.out]
        have HM := Lib.hid hM
        clear hM h6
        have kk := ((HGX.out _ H47.out).2 3 _ rfl)
        have ka := kk.1
        have kf := kk.2
        clear kk
        obtain ⟨w8, hw8⟩ : ∃ w8, w8 = w7.setCell ⟨gx, 3, none⟩ (.int .i64 dd) := ⟨_, rfl⟩
        have bx8 : Box w8 gx (msgC { m with d := dd } a3) := by rw [hw8]; exact (HGX.out _ H47.out).set (j := 3) (by simp [msgC])
        have by8 : Box w8 gz (msgC zeroM zeroA) := by rw [hw8]; exact (HY.out _ H47.out).far (by have := HGX2.out; have := HGZ.out; omega)
        have t78 : Touch (fun k => k = gx ∨ k = gz) w7 w8 := by rw [hw8]; exact (Touch.refl _ _).set (.inl (.inl rfl)) _
        go_upto_region 22 with fail
        rw [← hw8]
        clear hw8 ka kf x0
        go_wp2_with (first
          | (refine wpList_load_box rfl 42 _ rfl gx rfl (msgC { m with d := dd } a3) bx8 _ Try.underlying42 rfl size_mesP ?_)
          | (refine wpList_store_box rfl 42 _ _ rfl gz 0 (msgC { m with d := dd } a3) (msgC zeroM zeroA) (msgC { m with d := dd } a3) rfl rfl by8 (by simp [msgC]) rfl size_mesP rfl ?_))
        intro w9 by9 T9
        have t79 : Touch (fun k => k = gx ∨ k = gz) w7 w9 := t78.trans (T9 (fun k => k = gz) rfl) fun k hk => .inl (.inr hk)
        have HBY9 := Lib.hid by9
        have T79 := Lib.hid t79
        clear T9 t78 bx8 by8 by9 t79
        go_wp2_with fail
        have hfar : ∀ k, (k = gx ∨ k = gz) → w.heap.size ≤ k := fun k hk => by
          have := HGX2.out
          have := HGZ.out
          omega
        have hgx4 : gx < w4.heap.size := (HGX.out _ (Touch.refl _ _)).1
        have hgz4 : gz < w4.heap.size := (HY.out _ (Touch.refl _ _)).1
        have hn9 : MsgNew w.heap.size w9 m a3 := (HNEW.out _ H47.out).kept fun k hk hl => T79.out.block k hl fun e => by
          have h := HASX.out k hk
          rcases e with e | e
          · exact h.1 e
          · exact h.2 e
        refine bodyPost_ret (v := .tuple #[msgV ({ m with d := dd }) a3, .bool true]) (pres _ _ gz ({ m with d := dd }) a3 true rfl rfl HBY9.out) rfl ⟨a3, F6, G7, ?_, ?_, ?_, fun k hk => (HF6.out k hk).imp id fun e => Nat.le_trans HB4.out.size e, fun k hk => (HG7.out k hk).imp id fun e => Nat.le_trans HB4.out.size e, putM_new L hn9, fun k hk => ?_, HF3.out⟩
        · rw [HM.out]
        · have e : putLB L m = addB L x := by rw [putLB, HR.out]
          rw [e]
          exact HP7.out.touch K T79.out fun k hk => ⟨fun h => by
            have h1 := hfar k hk
            rcases HF6.out k h with h2 | h2
            · have := K.lt HP.out.1.1 _ h2; omega
            · omega, fun h => by
            have h1 := hfar k hk
            rcases HG7.out k h with h2 | h2
            · have := HP.out.2.1.1.lt _ h2; omega
            · omega⟩
        · rw [← HTT.out]
          exact ((Touch.of HB4.out).trans H47.out fun k hk => .inl hk).trans T79.out fun k hk => .inr (hfar k hk)
        · have h := HHAS.out k hk
          exact ⟨fun e => by
            rcases HF6.out k e with h2 | h2
            · have := K.lt HP.out.1.1 _ h2; omega
            · omega, fun e => by
            rcases HG7.out k e with h2 | h2
            · have := HP.out.2.1.1.lt _ h2; omega
            · omega⟩

end Go.Proofs.Ytcfnomnhameleaa
