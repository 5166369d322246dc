/-
  The walk of 'BookExact', out of what it asks of package book.
-/
import Derived.Test.YtnooippbdfobdaaBookQuiet
import Derived.Deep.CutBlock
namespace Go.Proofs.Ytnooippbdfobdaa
open Go.RowKit

/-- what a signature is answered with, of both books -/
theorem sign_both {I : BookIs} (K : BookC I) (gb gr : Nat) (L : List (List Int)) (S : List (Int × Int)) (who d : Int) (hL : L.length ≤ 1000) (hS : S.length ≤ 1000) : ∃ (cd : Int) (S2 : List (Int × Int)), S2.length ≤ S.length + 1 ∧
    (∀ (w : World) (F : Nat → Prop), I w gb F L S → Calls Try.prog 16 #[.pointer (some ⟨gb, 0, none⟩), .int .i64 who, .int .i64 d] w fun e w' => e = .returned (.int .i64 cd) ∧ BookTo I gb F L S2 w w') ∧
    (∀ (w : World) (G : Nat → Prop), IsRef w gr G L S → Calls Try.prog 17 #[.pointer (some ⟨gr, 0, none⟩), .int .i64 who, .int .i64 d] w fun e w' => e = .returned (.int .i64 cd) ∧ RefTo gr G L S2 w w') := by
  by_cases hw : 1 ≤ who ∧ who ≤ 16
  · by_cases hd : 1 ≤ d ∧ d ≤ (L.length : Int)
    · exact ⟨0, S ++ [(who, d)], by simp, fun w F h => K.sign_ok gb L S who d w h hL hS hw hd, fun w G h => rsign_ok gr L S who d w h hw hd hS⟩
    · exact ⟨3, S, by omega, fun w F h => K.sign_none gb L S who d w h hL hS hw hd, fun w G h => rsign_none gr L S who d w h hw hd⟩
  · exact ⟨1, S, by omega, fun w F h => K.sign_form gb L S who d w h hL hS hw, fun w G h => rsign_form gr L S who d w h hw⟩

/-- an act in a variable of its own -/
def Box4 (w : World) (g : Nat) (k who d : Int) (v : Value) : Prop :=
  w.cell? ⟨g, 0, none⟩ = some (.int .i64 k) ∧ w.cell? ⟨g, 1, none⟩ = some (.int .i64 who) ∧ w.cell? ⟨g, 2, none⟩ = some (.int .i64 d) ∧ w.cell? ⟨g, 3, none⟩ = some v
theorem Box4.new (w : World) (k who d : Int) (v : Value) (t : TypeId) : Box4 (w.alloc (.cells #[.int .i64 k, .int .i64 who, .int .i64 d, v] t)) w.heap.size k who d v := by
  refine ⟨?_, ?_, ?_, ?_⟩
  all_goals
    rw [World.cell?_alloc_at _ _ _ _ rfl]
    rfl
theorem Box4.touch {T : Nat → Prop} {w w' : World} {g : Nat} {k who d : Int} {v : Value} (h : Box4 w g k who d v) (ht : Touch T w w') (hg : g < w.heap.size) (hn : ¬ T g) : Box4 w' g k who d v :=
  ⟨(ht.cell hg hn).trans h.1, (ht.cell hg hn).trans h.2.1, (ht.cell hg hn).trans h.2.2.1, (ht.cell hg hn).trans h.2.2.2⟩
theorem Box4.below {w w' : World} {g : Nat} {k who d : Int} {v : Value} (h : Box4 w g k who d v) (hb : Below w.heap.size w w') (hg : g < w.heap.size) : Box4 w' g k who d v := h.touch (T := fun _ => False) (Touch.of hb) hg id

/-- one of the page's list, as it lies -/
theorem ref_at {w : World} {g : Nat} {F : Nat → Prop} {L : List (List Int)} {S : List (Int × Int)} (h : IsRef w g F L S) {n m : Nat} {x : List Int} (hn : L.length = n) (hx : L[m]? = some x) :
    ∃ b off cL Ae ce, w.cell? ⟨g, 0, none⟩ = some (.slice (some ⟨b, off, none⟩) n cL) ∧ w.cell? ⟨b, off + m, none⟩ = some (.slice Ae x.length ce) ∧ Rd w Ae (u8s x) ∧ m < n := by
  obtain ⟨vL, vW, vD, es, h⟩ := h
  obtain ⟨A, c, rfl, _, _, hr, _, hl⟩ := own_val h.rL
  have hm : m < L.length := by
    rcases Nat.lt_or_ge m L.length with h' | h'
    · exact h'
    · rw [List.getElem?_eq_none h'] at hx; cases hx
  obtain ⟨b, off, rfl, _, hc⟩ := hr.open_ (by omega)
  obtain ⟨v, hv⟩ : ∃ v, es[m]? = some v := ⟨es[m]'(by omega), by simp [hl, hm]⟩
  obtain ⟨Ae, ce, rfl, _, hre, _⟩ := h.el m v x hv hx
  exact ⟨b, off, c, Ae, ce, by rw [h.c0, hn], hc m _ hv, hre, by omega⟩
/-- the page's list, as it lies -/
theorem ref_list {w : World} {g : Nat} {F : Nat → Prop} {L : List (List Int)} {S : List (Int × Int)} (h : IsRef w g F L S) {n : Nat} (hn : L.length = n) : ∃ A c, w.cell? ⟨g, 0, none⟩ = some (.slice A n c) := by
  obtain ⟨vL, vW, vD, es, h⟩ := h
  obtain ⟨A, c, rfl, _⟩ := own_val h.rL
  exact ⟨A, c, by rw [h.c0, hn]⟩


set_option maxRecDepth 100000 in
set_option maxHeartbeats 100000000 in
theorem bookExact_walk {I : BookIs} (K : BookC I) (a : Option Addr) (len cap : Nat) (w : World) (ha : Acts w a len cap) :
    Calls Try.prog 3 #[.slice a len cap] w fun e w' => e = .returned (.bool true) ∧ Below w.heap.size w w' := by
  have HA0 := Lib.hid ha
  obtain ⟨hl, hm, hi⟩ := ha
  have HI := Lib.hid hi
  clear hi
  go_enter Try.func3, Try.ntmps3
  go_wp2_with fail
  refine (aheavy_any a len cap _ HA0.out).mono ?_
  rintro e w' ⟨hv, rfl, rfl, hfew⟩
  cases hv with
  | true =>
    go_wp2_with fail
    go_ret
    exact ⟨rfl, Below.refl _ _⟩
  | false =>
    have HFEW := Lib.hid (hfew rfl)
    clear hfew
    go_wp2_with fail
    refine (K.new _).mono ?_
    rintro e w1 ⟨gb, F0, rfl, hI, hF, hb1⟩
    obtain ⟨gr, hgr⟩ : ∃ gr, gr = w1.heap.size := ⟨_, rfl⟩
    obtain ⟨w2, hw2⟩ : ∃ w2, w2 = w1.alloc (.cells #[.slice none 0 0, .slice none 0 0, .slice none 0 0] 30) := ⟨_, rfl⟩
    have hb2 : Below w1.heap.size w1 w2 := by rw [hw2]; exact (Below.refl _ _).alloc (Nat.le_refl _) _
    have hP2 : Pair I w.heap.size gb gr F0 (fun k => k = gr) [] [] [] [] w2 := by
      refine ⟨⟨K.kept hI hb2.size fun k hk => hb2.block k (K.lt hI k hk), hF⟩, ⟨by rw [hw2, hgr]; exact ref_new w1, fun k hk => by have := hb1.size; omega⟩, fun k hk e => ?_⟩
      have := K.lt hI k hk
      omega
    have HP2 := Lib.hid hP2
    have HB2 := Lib.hid (hb1.trans (hb2.mono hb1.size))
    clear hI hF hb1 hb2 hP2
    go_upto_region 7 with fail
    rw [← hw2, ← hgr]
    clear hw2 hgr
    go_wp2_with fail
    go_loopw [5] (fun i wr => ∃ (k : Nat) (L : List (List Int)) (S : List (Int × Int)) (F G : Nat → Prop), i = .int .i64 k ∧ k ≤ len ∧ k ≤ 40 ∧ L.length ≤ k ∧ S.length ≤ k ∧ Hid (∀ y ∈ L, y.length ≤ 10000) ∧ Hid (Pair I w.heap.size gb gr F G L L S S wr) ∧ Below w.heap.size w wr) (fun i _ => 40 - (intOf i).toNat)
    case atStart => exact ⟨0, [], [], _, _, rfl, by omega, by omega, by simp, by simp, fun y hy => by simp at hy, HP2.out, HB2.out⟩
    case round =>
      obtain ⟨k, L, S, F, G, rfl, hk, hk40, hLk, hSk, HLS, HP, hb⟩ := hrel
      by_cases hlt : k < len
      · by_cases hlt40 : k < 40
        · obtain ⟨b, off, q, nB, rfl, hqB, hnc, hcm, hzb, hbl, HA⟩ := (HI.out k hlt).all
          have hfw : nB ≤ 10000 := HFEW.out k hlt hlt40 b off nB _ _ rfl (HA w (Below.refl _ _)).2.2.2.2
          have HQ : Hid (∀ wX, Below w.heap.size w wX → ActOk wX q) := fun wX h => (HA wX h).1
          obtain ⟨_, c0, c1, c2, c3⟩ := HA _ hb
          obtain ⟨qk, qw, qd, AB, cB, B⟩ := q
          simp only at hqB hnc hcm c0 c1 c2 c3
          have i0 : (0 : Int) ≤ (k : Int) := by omega
          have i1 : (k : Int) < (len : Int) := by omega
          have i2 : (k : Int) < 40 := by omega
          have HQB := Lib.hid hqB
          clear HA hqB hzb
          obtain ⟨gA, hgA⟩ : ∃ gA, gA = wr.heap.size := ⟨_, rfl⟩
          obtain ⟨w3, hw3⟩ : ∃ w3, w3 = wr.alloc (.cells #[.int .i64 qk, .int .i64 qw, .int .i64 qd, .slice AB nB cB] 33) := ⟨_, rfl⟩
          have hb3 : Below wr.heap.size wr w3 := by rw [hw3]; exact (Below.refl _ _).alloc (Nat.le_refl _) _
          have hP3 := HP.out.below K hb3
          have hbw3 : Below w.heap.size w w3 := hb.trans (hb3.mono hb.size)
          have hX3 : Box4 w3 gA qk qw qd (.slice AB nB cB) := by rw [hw3, hgA]; exact Box4.new wr _ _ _ _ _
          have hg3 : gA < w3.heap.size := by rw [hw3, hgA]; simp
          have hap3 : ¬ F gA ∧ ¬ G gA := ⟨fun h => by have := K.lt HP.out.1.1 _ h; omega, fun h => by have := HP.out.2.1.1.lt _ h; omega⟩
          go_upto_region 11 with fail
          rw [← hw3, ← hgA]
          clear hw3 hgA hb3 c0 c1 c2 c3
          obtain ⟨c0, c1, c2, c3⟩ := hX3
          go_wp2_with fail
          refine (copyBytes_any AB cB nB B _ HQB.out (HQ.out _ hbw3).rB hnc (by omega)).mono ?_
          rintro e w4 ⟨vi, rfl, hoi, hb4⟩
          have hoi2 := own_cast hoi ((u8s_length _).trans HQB.out)
          obtain ⟨Ai, ci, rfl, hci, hmi, hri, _, _⟩ := own_val hoi2
          have hP4 := hP3.below K hb4
          have hbw4 := hbw3.trans (hb4.mono hbw3.size)
          have hX4 : Box4 w4 gA qk qw qd (.slice AB nB cB) := Box4.below ⟨c0, c1, c2, c3⟩ hb4 hg3
          have hg4 : gA < w4.heap.size := Nat.lt_of_lt_of_le hg3 hb4.size
          have hlow : ∀ x, Ai = some x → w3.heap.size ≤ x.block := fun x hx => (own_lt hoi2 (g := x.block) (by rw [hx]; rfl)).2
          have hGi : Given w4 F Ai ci nB B := ⟨HQB.out, hri, (HQ.out _ hbw4).sB, hci, hmi, by omega, fun x hx _ hf => by have := K.lt hP3.1.1 _ hf; have := hlow x hx; omega⟩
          have HOI := Lib.hid hoi2
          have HX4 := Lib.hid hX4
          have HP4 := Lib.hid hP4
          have HGI := Lib.hid hGi
          have HLOW := Lib.hid hlow
          have HB34 := Lib.hid hb4
          have HLT3 : Hid ((∀ j, F j → j < w3.heap.size) ∧ ∀ j, G j → j < w3.heap.size) := ⟨fun j hj => K.lt hP3.1.1 j hj, fun j hj => hP3.2.1.1.lt j hj⟩
          clear hoi hoi2 hP3 hP4 hX4 hGi hri hlow hb4 c0 c1 c2 c3
          obtain ⟨c0, c1, c2, c3⟩ := HX4.out
          go_wp2_with fail
          refine (within_any qk 8 _ (by omega) (by omega)).mono ?_
          rintro e w' ⟨⟨r, hr, rfl⟩, rfl⟩
          go_upto_block 2 with fail
          go_cut [8, 9, 10, 11, 12, 13, 14] from 42 to 173 (fun _ _ _ _ _ _ _ wx => ∃ (L2 : List (List Int)) (S2 : List (Int × Int)) (F2 G2 : Nat → Prop), L2.length ≤ k + 1 ∧ S2.length ≤ k + 1 ∧ Hid (∀ y ∈ L2, y.length ≤ 10000) ∧ Hid (Pair I w.heap.size gb gr F2 G2 L2 L2 S2 S2 wx) ∧ Below w.heap.size w wx)
          case first =>
            have hcase : r = 3 ∨ r = 4 ∨ (r = 5 ∨ r = 6) ∨ r = 7 ∨ (r = 0 ∨ r = 1 ∨ r = 2) := by omega
            rcases hcase with rfl | rfl | hcase | rfl | hcase
            · have hLe : L.length ≤ 1000 := by omega
              cases hf : findB L B with
              | zero =>
                have HF := Lib.hid hf
                clear hf
                go_wp2_with fail
                refine (K.find_no gb L S Ai ci nB B _ HP4.out.1.1 HGI.out hLe HF.out).mono ?_
                rintro e w5 ⟨rfl, F5, hI5, ht5, hf5⟩
                have hP5 := HP4.out.left hbw4.size hI5 ht5 hf5
                have hbw5 : Below w.heap.size w w5 := hbw4.trans (ht5.below HP4.out.1.2 hbw4.size)
                clear c0 c1 c2 c3
                obtain ⟨c0, c1, c2, c3⟩ := HX4.out.touch ht5 hg4 hap3.1
                go_wp2_with fail
                refine (rfind_any gr L S AB cB nB B _ hP5.2.1.1 HQB.out (HQ.out _ hbw5).rB (by omega) hLe (fun y hy => by have := HLS.out y hy; omega)).mono ?_
                rintro e w6 ⟨rfl, d6, rfl⟩
                rw [HF.out]
                have hP6 := hP5.drewN K d6
                have hbw6 : Below w.heap.size w (w5.drewN d6) := below_n hbw5 d6
                go_wp2_with fail
                refine (num5_any _ _).mono ?_
                rintro e w' ⟨rfl, rfl⟩
                go_wp2_with fail
                refine (num5_any _ _).mono ?_
                rintro e w' ⟨rfl, rfl⟩
                go_wp2_with fail
                go_meet
                exact ⟨_, _, _, _, by omega, by omega, HLS.out, hP6, hbw6⟩
              | succ m =>
                have HF := Lib.hid hf
                have m1 : (0 : Int) < (m : Int) + 1 := by omega
                have m2 : ((m : Int) + 1 == 0) = false := by simp; omega
                clear hf
                go_wp2_with fail
                refine (K.find_yes gb L S Ai ci nB m B _ HP4.out.1.1 HGI.out hLe HF.out).mono ?_
                rintro e w5 ⟨rfl, F5, hI5, ht5, hf5⟩
                have hP5 := HP4.out.left hbw4.size hI5 ht5 hf5
                have hbw5 : Below w.heap.size w w5 := hbw4.trans (ht5.below HP4.out.1.2 hbw4.size)
                clear c0 c1 c2 c3
                obtain ⟨c0, c1, c2, c3⟩ := HX4.out.touch ht5 hg4 hap3.1
                go_wp2_with fail
                refine (rfind_any gr L S AB cB nB B _ hP5.2.1.1 HQB.out (HQ.out _ hbw5).rB (by omega) hLe (fun y hy => by have := HLS.out y hy; omega)).mono ?_
                rintro e w6 ⟨rfl, d6, rfl⟩
                rw [HF.out]
                have hP6 := hP5.drewN K d6
                have hbw6 : Below w.heap.size w (w5.drewN d6) := below_n hbw5 d6
                go_wp2_with fail
                refine (num5_any _ _).mono ?_
                rintro e w' ⟨rfl, rfl⟩
                go_wp2_with fail
                go_meet
                exact ⟨_, _, _, _, by omega, by omega, HLS.out, hP6, hbw6⟩
            · have hLe : L.length ≤ 1000 := by omega
              by_cases hno : 1 ≤ qd ∧ qd ≤ (L.length : Int)
              · obtain ⟨m, rfl⟩ : ∃ m : Nat, qd = (m : Int) + 1 := ⟨(qd - 1).toNat, by omega⟩
                have hmL : m < L.length := by omega
                have hm10 : m < 1000 := by omega
                obtain ⟨x, hx⟩ : ∃ x, L[m]? = some x := ⟨L[m], by simp [hmL]⟩
                have HX := Lib.hid hx
                have hxl := HLS.out x (List.mem_of_getElem? hx)
                obtain ⟨nx, hnx⟩ : ∃ nx, x.length = nx := ⟨_, rfl⟩
                rw [hnx] at hxl
                have HNX := Lib.hid hnx
                obtain ⟨nR, hnR⟩ : ∃ nR, L.length = nR := ⟨_, rfl⟩
                have HNR := Lib.hid hnR
                rw [hnR] at hmL
                have d1 : ¬ ((m : Int) + 1 < 1) := by omega
                have d2 : ¬ ((nR : Int) < (m : Int) + 1) := by omega
                clear hx hnx hnR hno
                go_wp2_with fail
                refine (K.bytes_yes gb L S m nx x _ HP4.out.1.1 HX.out HNX.out hLe).mono ?_
                rintro e w5 ⟨gY, c5, rfl, hW5, hgY, F5, hI5, ht5, hf5, hnv⟩
                obtain ⟨A5, hA5⟩ : ∃ A : Option Addr, A = some ⟨gY, 0, none⟩ := ⟨_, rfl⟩
                rw [← hA5]
                have hr5 : Rd w5 A5 (u8s x) := by rw [hA5]; exact hW5.rd
                have HA5 := Lib.hid hA5
                have hP5 := HP4.out.left hbw4.size hI5 ht5 hf5
                have hbw5 : Below w.heap.size w w5 := hbw4.trans (ht5.below HP4.out.1.2 hbw4.size)
                clear c0 c1 c2 c3
                obtain ⟨c0, c1, c2, c3⟩ := HX4.out.touch ht5 hg4 hap3.1
                obtain ⟨bR, oR, cR, _, _, kR, _, _, _⟩ := ref_at hP5.2.1.1 HNR.out HX.out
                have HO5 := Lib.hid hW5
                have HGY := Lib.hid hgY
                have HNV := Lib.hid hnv
                have HLT4 : Hid (∀ j, G j → j < w4.heap.size) := fun j hj => HP4.out.2.1.1.lt j hj
                have s1 : IntKind.i64.wrap ((m : Int) + 1 - 1) = (m : Int) := by rw [IntWalk.i64_in _ (by omega)]; omega
                have m0 : (0 : Int) ≤ (m : Int) := by omega
                have m1 : (m : Int) < (nR : Int) := by omega
                have hg5 : gA < w5.heap.size := Nat.lt_of_lt_of_le hg4 ht5.size
                clear hA5 hW5 hgY hnv
                go_wp2_with fail
                go_quiet (fail)
                go_wp2_with fail
                generalize hw6 : World.drewN w5 _ = w6
                have hb56 : Below w5.heap.size w5 w6 := by rw [← hw6]; exact drewN_below _ _
                have hP6 := hP5.below K hb56
                have hbw6 : Below w.heap.size w w6 := hbw5.trans (hb56.mono hbw5.size)
                have hX6 : Box4 w6 gA qk qw ((m : Int) + 1) (.slice AB nB cB) := Box4.below ⟨c0, c1, c2, c3⟩ hb56 hg5
                have hO6 := HO5.out.below hb56
                obtain ⟨bR', oR', cR', Ae, ce, kR', ke, hre, _⟩ := ref_at hP6.2.1.1 HNR.out HX.out
                rw [HNX.out] at ke
                have heq : ∀ j, Calls Try.prog 14 #[.slice A5 nx c5, .slice Ae nx ce] (w6.drewN j) fun e w' => e = .returned (.bool true) ∧ ∃ d, w' = (w6.drewN j).drewN d := fun j =>
                  eqBytes_b true A5 Ae c5 ce nx nx x x _ (by simp) HNX.out HNX.out ((hr5.below hb56).drewN j) (hre.drewN j) (by omega) (by omega)
                have HO6 := Lib.hid hO6
                clear c0 c1 c2 c3 kR hw6 hO6
                obtain ⟨c0, c1, c2, c3⟩ := hX6
                go_quiet ((first | (go_at_call 12; exact quiet_left (num5_any _ _)) | (go_at_call 14; exact quiet_more (heq _))))
                clear heq kR' ke c0 c1 c2 c3
                go_wp2_with fail
                refine (spoil_wr A5 gY c5 nx x _ HA5.out (HO6.out.drewN _) (by omega)).mono ?_
                rintro e w7 ⟨rfl, ht7⟩
                have hlow5 : ∀ j, j = gY → w4.heap.size ≤ j := fun j hj => by rw [hj]; exact HGY.out
                have hP7 := (hP6.drewN K _).touch K ht7 fun j hj => ⟨by rw [hj]; exact HNV.out, fun h => by
                  have h1 := hlow5 j hj
                  have h2 := HLT4.out j h
                  omega⟩
                have hbw7 : Below w.heap.size w w7 := (below_n hbw6 _).trans (ht7.below (fun j hj => by have := hlow5 j hj; have := hbw4.size; omega) (below_n hbw6 _).size)
                go_wp2_with fail
                go_meet
                exact ⟨_, _, _, _, by omega, by omega, HLS.out, hP7, hbw7⟩
              · have HNO := Lib.hid hno
                go_wp2_with fail
                refine (K.bytes_no gb L S qd _ HP4.out.1.1 HNO.out hLe).mono ?_
                rintro e w5 ⟨rfl, F5, hI5, ht5, hf5⟩
                have hP5 := HP4.out.left hbw4.size hI5 ht5 hf5
                have hbw5 : Below w.heap.size w w5 := hbw4.trans (ht5.below HP4.out.1.2 hbw4.size)
                clear c0 c1 c2 c3
                obtain ⟨c0, c1, c2, c3⟩ := HX4.out.touch ht5 hg4 hap3.1
                obtain ⟨nR, hnR⟩ : ∃ nR, L.length = nR := ⟨_, rfl⟩
                obtain ⟨AR, cR, kR⟩ := ref_list hP5.2.1.1 hnR
                have HNR := Lib.hid hnR
                rw [hnR] at hno
                clear hnR
                by_cases d1 : qd < 1
                · clear hno
                  go_wp2_with fail
                  go_quiet (fail)
                  go_wp2_with fail
                  refine (num5_any _ _).mono ?_
                  rintro e w' ⟨rfl, rfl⟩
                  go_wp2_with fail
                  refine (spoil_far 0 (.slice none 0 0) 0 [] _ (World.ownsRow_nil _ _ _ _) (by omega)).mono ?_
                  rintro e w6 ⟨rfl, ht6⟩
                  have hP6 := (hP5.drewN K _).touch K ht6 fun j hj => by simp [Value.ownBlock] at hj
                  have hbw6 : Below w.heap.size w w6 := (below_n hbw5 _).trans (ht6.below (fun j hj => by simp [Value.ownBlock] at hj) (below_n hbw5 _).size)
                  go_wp2_with fail
                  go_meet
                  exact ⟨_, _, _, _, by omega, by omega, HLS.out, hP6, hbw6⟩
                · have d2 : (nR : Int) < qd := by omega
                  clear hno
                  go_wp2_with fail
                  go_quiet (fail)
                  go_wp2_with fail
                  refine (num5_any _ _).mono ?_
                  rintro e w' ⟨rfl, rfl⟩
                  go_wp2_with fail
                  refine (spoil_far 0 (.slice none 0 0) 0 [] _ (World.ownsRow_nil _ _ _ _) (by omega)).mono ?_
                  rintro e w6 ⟨rfl, ht6⟩
                  have hP6 := (hP5.drewN K _).touch K ht6 fun j hj => by simp [Value.ownBlock] at hj
                  have hbw6 : Below w.heap.size w w6 := (below_n hbw5 _).trans (ht6.below (fun j hj => by simp [Value.ownBlock] at hj) (below_n hbw5 _).size)
                  go_wp2_with fail
                  go_meet
                  exact ⟨_, _, _, _, by omega, by omega, HLS.out, hP6, hbw6⟩
            · have hLe : L.length ≤ 1000 := by omega
              have hSe : S.length ≤ 1000 := by omega
              obtain ⟨cd, S2, hS2, hsk, hsr⟩ := sign_both K gb gr L S qw qd hLe hSe
              rcases hcase with rfl | rfl
              all_goals
                go_wp2_with fail
                go_region_held3 (fun w' => w'.cell? ⟨gA, 1, none⟩ = some (.int .i64 qw) ∧ w'.cell? ⟨gA, 2, none⟩ = some (.int .i64 qd))
                  (first | assumption | go_keep)
                  (first
                    | (go_at_call 16; refine (hsk _ _ (by first | exact HP4.out.1.1 | exact BookC.drew K HP4.out.1.1)).mono ?_; rintro e w5 ⟨rfl, F5, hI5, ht5, hf5⟩; have ht5' : Touch F w4 w5 := ⟨ht5.os, ht5.tape, ht5.output, ht5.size, ht5.block⟩; have hP5 := HP4.out.left hbw4.size hI5 ht5' hf5; have hbw5 : Below w.heap.size w w5 := hbw4.trans (ht5'.below HP4.out.1.2 hbw4.size); have hX5 := HX4.out.touch ht5' hg4 hap3.1; have hS5 : w5.cell? ⟨gA, 1, none⟩ = some (.int .i64 qw) ∧ w5.cell? ⟨gA, 2, none⟩ = some (.int .i64 qd) := ⟨hX5.2.1, hX5.2.2.1⟩; have hg5 : gA < w5.heap.size := Nat.lt_of_lt_of_le hg4 ht5'.size; have hap5 : ¬ G gA := hap3.2)
                    | (go_at_call 17; refine (hsr _ _ hP5.2.1.1).mono ?_; rintro e w6 ⟨rfl, G6, hR6, ht6, hf6⟩; have hP6 := hP5.right K hbw5.size hR6 ht6 hf6; have hbw6 : Below w.heap.size w w6 := hbw5.trans (ht6.below hP5.2.1.2 hbw5.size); have hX6 := hX5.touch ht6 hg5 hap5; have hS6 : w6.cell? ⟨gA, 1, none⟩ = some (.int .i64 qw) ∧ w6.cell? ⟨gA, 2, none⟩ = some (.int .i64 qd) := ⟨hX6.2.1, hX6.2.2.1⟩)
                    | (go_at_call 12; refine (num5_any _ _).mono ?_; rintro e w' ⟨rfl, rfl⟩))
                clear hS5 hS6 hX5 hX6 c0 c1 c2 c3
                go_wp2_with fail
                go_meet
                exact ⟨_, _, _, _, by omega, by omega, HLS.out, hP6, hbw6⟩
            
            · have hLe : L.length ≤ 1000 := by omega
              have hSe : S.length ≤ 1000 := by omega
              have hq4 := HQ.out _ hbw4
              have hww := hq4.ww
              have hwd := hq4.wd
              simp only at hww hwd
              obtain ⟨sv, hsv⟩ : ∃ sv, signedB S qw qd = sv := ⟨_, rfl⟩
              have hs1 : ∀ j, Calls Try.prog 18 #[.pointer (some ⟨gb, 0, none⟩), .int .i64 qw, .int .i64 qd] (w4.drewN j) fun e w' => e = .returned (.bool sv) ∧ ∃ d, w' = (w4.drewN j).drewN d := fun j => by
                have := K.signed gb L S qw qd _ (K.drewN HP4.out.1.1 j) hLe hSe hww hwd
                rwa [hsv] at this
              have hs2 : ∀ j, Calls Try.prog 19 #[.pointer (some ⟨gr, 0, none⟩), .int .i64 qw, .int .i64 qd] (w4.drewN j) fun e w' => e = .returned (.bool sv) ∧ w4.drewN j = w' := fun j => by
                have := rsigned_any gr L S qw qd _ (HP4.out.2.1.1.drewN j) hSe
                rwa [hsv] at this
              clear hq4 hww hwd hsv
              go_wp2_with fail
              go_quiet ((first | (go_at_call 18; exact quiet_more (hs1 _)) | (go_at_call 19; exact quiet_left (hs2 _))))
              generalize hw6 : World.drewN w4 _ = w6
              have hb46 : Below w4.heap.size w4 w6 := by rw [← hw6]; exact drewN_below _ _
              have hP6 := HP4.out.below K hb46
              have hbw6 : Below w.heap.size w w6 := hbw4.trans (hb46.mono hbw4.size)
              clear hs1 hs2 hw6 hb46 c0 c1 c2 c3
              go_wp2_with fail
              go_meet
              exact ⟨_, _, _, _, by omega, by omega, HLS.out, hP6, hbw6⟩
            · have hLe : L.length ≤ 1000 := by omega
              have r3 : ((r : Int) == 3) = false := by simp; omega
              have r4 : ((r : Int) == 4) = false := by simp; omega
              have r5 : ((r : Int) == 5) = false := by simp; omega
              have r6 : ((r : Int) == 6) = false := by simp; omega
              have r7 : ((r : Int) == 7) = false := by simp; omega
              clear hcase
              cases hf : findB L B with
              | zero =>
                have HF := Lib.hid hf
                clear hf
                go_wp2_with fail
                refine (K.digest_new gb L S Ai ci nB B _ HP4.out.1.1 HGI.out hLe HF.out).mono ?_
                rintro e w5 ⟨rfl, F5, hI5, ht5, hf5⟩
                have hP5 := HP4.out.left hbw4.size hI5 ht5 hf5
                have hbw5 : Below w.heap.size w w5 := hbw4.trans (ht5.below HP4.out.1.2 hbw4.size)
                have hob : ∀ j, (Value.slice Ai nB ci).ownBlock = some j → w3.heap.size ≤ j := fun j hj => (own_lt HOI.out hj).2
                have hg34 : w3.heap.size ≤ w4.heap.size := by have := HB34.out.size; omega
                have ho5 : w5.ownsRow w3.heap.size 5 1 (.slice Ai nB ci) nB (u8s B) := own_kept HOI.out fun j hj hlj => ht5.block j hlj fun hf => by
                  have h1 := hob j hj
                  have h2 := HLT3.out.1 j hf
                  omega
                have hX5 := HX4.out.touch ht5 hg4 hap3.1
                have hg5 : gA < w5.heap.size := Nat.lt_of_lt_of_le hg4 ht5.size
                clear c0 c1 c2 c3
                go_wp2_with fail
                refine (spoil_far w3.heap.size _ nB B _ ho5 (by omega)).mono ?_
                rintro e w6 ⟨rfl, ht6⟩
                have hP6 := hP5.touch K ht6 fun j hj => ⟨fun h => by
                  have h1 := hob j hj
                  rcases hf5 j h with h2 | h2
                  · have := HLT3.out.1 j h2; omega
                  · have := (own_lt HOI.out hj).1; omega, fun h => by
                  have h1 := hob j hj
                  have := HLT3.out.2 j h
                  omega⟩
                have hbw6 : Below w.heap.size w w6 := hbw5.trans (ht6.below (fun j hj => by have := hob j hj; have := hbw3.size; omega) hbw5.size)
                obtain ⟨c0, c1, c2, c3⟩ := hX5.touch ht6 hg5 (fun hj => by have := hob _ hj; omega)
                go_wp2_with fail
                refine (num5_any _ _).mono ?_
                rintro e w' ⟨rfl, rfl⟩
                go_wp2_with fail
                refine (rdigest_new gr L S AB cB nB B _ hP6.2.1.1 HQB.out (HQ.out _ hbw6).rB hnc (by omega) hLe (fun y hy => by have := HLS.out y hy; omega) HF.out).mono ?_
                rintro e w7 ⟨rfl, G7, hR7, ht7, hf7⟩
                have hP7 := hP6.right K hbw6.size hR7 ht7 hf7
                have hbw7 : Below w.heap.size w w7 := hbw6.trans (ht7.below hP6.2.1.2 hbw6.size)
                go_wp2_with fail
                go_meet
                exact ⟨_, _, _, _, by simp; omega, by omega, (fun y hy => by rcases List.mem_append.1 hy with h | h; exact HLS.out y h; simp at h; subst h; rw [HQB.out]; exact hfw), hP7, hbw7⟩
              | succ m =>
                have HF := Lib.hid hf
                clear hf
                go_wp2_with fail
                refine (K.digest_old gb L S Ai ci nB m B _ HP4.out.1.1 HGI.out hLe HF.out).mono ?_
                rintro e w5 ⟨rfl, F5, hI5, ht5, hf5⟩
                have hP5 := HP4.out.left hbw4.size hI5 ht5 hf5
                have hbw5 : Below w.heap.size w w5 := hbw4.trans (ht5.below HP4.out.1.2 hbw4.size)
                have hob : ∀ j, (Value.slice Ai nB ci).ownBlock = some j → w3.heap.size ≤ j := fun j hj => (own_lt HOI.out hj).2
                have hg34 : w3.heap.size ≤ w4.heap.size := by have := HB34.out.size; omega
                have ho5 : w5.ownsRow w3.heap.size 5 1 (.slice Ai nB ci) nB (u8s B) := own_kept HOI.out fun j hj hlj => ht5.block j hlj fun hf => by
                  have h1 := hob j hj
                  have h2 := HLT3.out.1 j hf
                  omega
                have hX5 := HX4.out.touch ht5 hg4 hap3.1
                have hg5 : gA < w5.heap.size := Nat.lt_of_lt_of_le hg4 ht5.size
                clear c0 c1 c2 c3
                go_wp2_with fail
                refine (spoil_far w3.heap.size _ nB B _ ho5 (by omega)).mono ?_
                rintro e w6 ⟨rfl, ht6⟩
                have hP6 := hP5.touch K ht6 fun j hj => ⟨fun h => by
                  have h1 := hob j hj
                  rcases hf5 j h with h2 | h2
                  · have := HLT3.out.1 j h2; omega
                  · have := (own_lt HOI.out hj).1; omega, fun h => by
                  have h1 := hob j hj
                  have := HLT3.out.2 j h
                  omega⟩
                have hbw6 : Below w.heap.size w w6 := hbw5.trans (ht6.below (fun j hj => by have := hob j hj; have := hbw3.size; omega) hbw5.size)
                obtain ⟨c0, c1, c2, c3⟩ := hX5.touch ht6 hg5 (fun hj => by have := hob _ hj; omega)
                go_wp2_with fail
                refine (num5_any _ _).mono ?_
                rintro e w' ⟨rfl, rfl⟩
                go_wp2_with fail
                refine (rdigest_old gr L S AB cB nB m B _ hP6.2.1.1 HQB.out (HQ.out _ hbw6).rB (by omega) hLe (fun y hy => by have := HLS.out y hy; omega) HF.out).mono ?_
                rintro e w7 ⟨rfl, G7, hR7, ht7, hf7⟩
                have hP7 := hP6.right K hbw6.size hR7 ht7 hf7
                have hbw7 : Below w.heap.size w w7 := hbw6.trans (ht7.below hP6.2.1.2 hbw6.size)
                go_wp2_with fail
                go_meet
                exact ⟨_, _, _, _, by omega, by omega, HLS.out, hP7, hbw7⟩
          case rest =>
            obtain ⟨L2, S2, F2, G2, hL2, hS2, HLS2, HPC, hbc⟩ := hcut
            have hPC := HPC.out
            obtain ⟨w9, hw9⟩ : ∃ w9, w9 = wc := ⟨_, rfl⟩
            rw [← hw9] at hPC hbc ⊢
            clear hw9
            obtain ⟨nL, hnL⟩ : ∃ nL, (L2).length = nL := ⟨_, rfl⟩
            obtain ⟨AL, cL, kL⟩ := ref_list hPC.2.1.1 hnL
            have hcount : ∀ n, Calls Try.prog 22 #[.pointer (some ⟨gb, 0, none⟩)] (w9.drewN n) fun e w' => e = .returned (.int .i64 nL) ∧ ∃ d, w' = (w9.drewN n).drewN d := fun n => by
              have := K.count gb _ _ _ (K.drewN hPC.1.1 n) (by rw [hnL]; have := hL2; omega)
              rwa [hnL] at this
            have HNL := Lib.hid hnL
            have HP9 := Lib.hid hPC
            clear hnL
            go_wp2_with fail
            go_quiet ((go_at_call 22; exact quiet_more (hcount _)))
            go_wp2_with fail
            go_roundw
            case rel => exact ⟨k + 1, _, _, _, _, by go_num, by omega, by omega, by omega, by omega, HLS2.out, HP9.out.drewN K _, below_n hbc _⟩
            case measure => simp [intOf]; omega
        · have i1 : (k : Int) < (len : Int) := by omega
          have i2 : ¬ ((k : Int) < 40) := by omega
          go_wp2_with fail
          refine (wakes5_any K _).mono ?_
          rintro e w' ⟨rfl, hbw⟩
          go_wp2_with fail
          go_ret
          exact ⟨rfl, hb.trans (hbw.mono hb.size)⟩
      · have i1 : ¬ ((k : Int) < (len : Int)) := by omega
        go_wp2_with fail
        refine (wakes5_any K _).mono ?_
        rintro e w' ⟨rfl, hbw⟩
        go_wp2_with fail
        go_ret
        exact ⟨rfl, hb.trans (hbw.mono hb.size)⟩

end Go.Proofs.Ytnooippbdfobdaa
