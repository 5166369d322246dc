/-
  Whatever is done to a net, each call answers what the page says: the walk of 'NetExact'.
-/
import Derived.Test.YtbffaaljommoeaaNBoth
import Derived.Test.YtbffaaljommoeaaSpoil
import Derived.Deep.MidRow
namespace Go.Proofs.Ytbffaaljommoeaa
open Go.RowKit

theorem rnet_zero (w : World) : (zeroValue 29).run Try.prog w = .ok (.agg #[.slice none 0 0]) w := by kernel_rfl
theorem ref_new (w : World) : IsRefN (w.alloc (.cells #[.slice none 0 0] 29)) w.heap.size (fun k => k = w.heap.size) nNone 0 :=
  ⟨.slice none 0 0, [], ⟨heap_alloc_new w _, World.ownsRow_nil _ _ _ _, fun W hW => by simp at hW, fun W hW => by simp at hW, fun i j W X hi => by simp at hi, rfl, fun b hb => by simp [Value.ownBlock] at hb, fun W hW => by simp at hW, fun W hW => by simp at hW, fun k hk => by rw [hk]; simp, fun W hW => by simp at hW, fun W hW => by simp at hW⟩, Nat.le_refl _, fun f t => by
    show [] = PN.at_ nNone f t
    unfold PN.at_ nNone
    split <;> rfl⟩

set_option maxRecDepth 100000 in
set_option maxHeartbeats 16000000 in
theorem netExact_is (A : Option Addr) (n c : Nat) (L : List ActN) (w : World) (h : ScrN w A n c L) : Calls Try.prog 3 #[.slice A n c] w (Tells w.heap.size w (.bool true)) := by
  have HI : Hid (∀ wX, Below w.heap.size w wX → ScrN wX A n c L) := fun wX hX => h.below hX
  have HH := Lib.hid (heavy12_any A n c L w h)
  have hz := fun w => rnet_zero w
  clear h
  go_enter Try.func3, Try.ntmps3
  go_wp2_with fail
  refine HH.out.mono ?_
  rintro e w' ⟨b, rfl, rfl, hlight⟩
  cases b with
  | true =>
    go_wp2_with fail
    go_ret
    exact ⟨rfl, Below.refl _ _⟩
  | false =>
    have HLI := Lib.hid (hlight rfl)
    clear hlight HH
    go_wp2_with fail
    refine (netg_new _).mono ?_
    rintro e w1 ⟨g, rfl, hg, hb1⟩
    obtain ⟨w2, hw2⟩ : ∃ w2, w2 = w1.alloc (.cells #[.slice none 0 0] 29) := ⟨_, rfl⟩
    obtain ⟨gr, hgr⟩ : ∃ gr, gr = w1.heap.size := ⟨_, rfl⟩
    have hb2 : Below w1.heap.size w1 w2 := by rw [hw2]; exact (Below.refl _ _).alloc (Nat.le_refl _) _
    have hz2 : w2.heap.size = gr + 1 := by rw [hw2, hgr]; simp
    have hr2 : IsRefN w2 gr (fun k => k = gr) nNone 0 := by rw [hw2, hgr]; exact ref_new w1
    have hbw2 := hb1.trans (hb2.mono hb1.size)
    have HBO : Hid (BothN w.heap.size g gr nNone 0 w2) := ⟨fun k => k < w.heap.size ∨ (w1.heap.size ≤ k ∧ k < w2.heap.size), fun k => k = gr, ⟨hg.wide hb2, hr2, fun k hk => ⟨.inr ⟨by omega, by omega⟩, by have := hb1.size; omega⟩, fun k hk => .inl hk⟩⟩
    have HW2 := Lib.hid hw2
    have HGR := Lib.hid hgr
    clear hg hr2 hw2 hb2 hz2 hgr
    go_wp2_with fail
    rw [← HW2.out, ← HGR.out]
    clear HW2 HGR hb1
    go_loopw [5] (fun i wr => ∃ (k : Nat) (N : PN), i = .int .i64 k ∧ k ≤ 60 ∧ Hid (BothN w.heap.size g gr N k wr) ∧ Below w.heap.size w wr) (fun i _ => 60 - (intOf i).toNat)
    case atStart => exact ⟨0, nNone, rfl, by omega, HBO.out, hbw2⟩
    case round =>
      obtain ⟨k, N, rfl, hk60, HB, hb⟩ := hrel
      clear HBO hbw2
      have i0 : (0 : Int) ≤ (k : Int) := by omega
      by_cases hlt : k < n
      · have i1 : (k : Int) < (n : Int) := by omega
        by_cases h60 : k < 60
        · have i2 : (k : Int) < 60 := by omega
          obtain ⟨bl, off, a, hAL, hbl, hx, hmem, hrg⟩ := (HI.out _ hb).at_ (k := k) hlt
          subst hAL
          have hfB := HLI.out k a h60 hx
          have hin := (HI.out _ hb).act a hmem
          obtain ⟨nB, hnB⟩ : ∃ nB, a.n = nB := ⟨_, rfl⟩
          rw [hnB] at hfB
          have hrg2 : wr.rangeAt bl (off + k * 5) [.int .i64 a.Do, .int .i64 a.f, .int .i64 a.t, .int .i64 a.k, .slice a.A nB a.c] := by rw [← hnB]; exact hrg
          have HRG := Lib.hid hrg2
          obtain ⟨gb, hgb⟩ : ∃ gb, gb = wr.heap.size := ⟨_, rfl⟩
          obtain ⟨w3, hw3⟩ : ∃ w3, w3 = wr.alloc (.cells #[.int .i64 a.Do, .int .i64 a.f, .int .i64 a.t, .int .i64 a.k, .slice a.A nB a.c] 32) := ⟨_, rfl⟩
          have hb3 : Below wr.heap.size wr w3 := by rw [hw3]; exact (Below.refl _ _).alloc (Nat.le_refl _) _
          have hbx : BoxN w3 gb [.int .i64 a.Do, .int .i64 a.f, .int .i64 a.t, .int .i64 a.k, .slice a.A nB a.c] := by rw [hw3, hgb]; exact boxN_new wr [.int .i64 a.Do, .int .i64 a.f, .int .i64 a.t, .int .i64 a.k, .slice a.A nB a.c] _
          have hb03 := hb.trans (hb3.mono hb.size)
          have HW3 := Lib.hid hw3
          have HGB := Lib.hid hgb
          have HBX := Lib.hid hbx
          have HMEM := Lib.hid hmem
          clear hrg hrg2 hx hmem hw3 hbx hgb
          go_wp2_with (first | (refine wpList_load_mid rfl 32 _ rfl bl (off + k * 5) rfl [.int .i64 a.Do, .int .i64 a.f, .int .i64 a.t, .int .i64 a.k, .slice a.A nB a.c] _ HRG.out Try.underlying32 rfl size_actN ?_))
          rw [← HW3.out, ← HGB.out]
          refine (within_any a.Do 10 _ (by omega) (by omega)).mono ?_
          rintro e w' ⟨⟨r, hr, rfl⟩, rfl⟩
          obtain ⟨G0, F, hp0⟩ := HB.out
          have hp3 := hp0.wide hb3
          have HNF : Hid (¬ F gb) := fun hf => by have := hp0.rf.lt gb hf; have := HGB.out; omega
          obtain ⟨G3, hG3⟩ : ∃ G3 : Nat → Prop, (fun q => G0 q ∨ (wr.heap.size ≤ q ∧ q < w3.heap.size)) = G3 := ⟨_, rfl⟩
          have HGb : Hid (G3 gb) := by
            show G3 gb
            rw [← hG3]
            exact .inr ⟨by have := HGB.out; omega, HBX.out.1⟩
          rw [hG3] at hp3
          have HIN := Lib.hid hin
          have HNB := Lib.hid hnB
          have HRA := Lib.hid (hin.r.below hb3)
          have HRW := Lib.hid (((HI.out w (Below.refl _ _)).act a HMEM.out).r)
          have k1 := HBX.out.2 1 _ rfl
          have k2 := HBX.out.2 2 _ rfl
          have k3 := HBX.out.2 3 _ rfl
          have k4 := HBX.out.2 4 _ rfl
          clear hG3 hp0 hin hnB HB HRG HW3 HGB hb3
          go_upto_block 2 with fail
          go_cut [7, 8, 9, 10, 11, 12, 13, 14] from 40 to 153 (fun _ _ _ _ _ _ _ _ wx => ∃ N' : PN, Hid (BothN w.heap.size g gr N' (k + 1) wx) ∧ Below w.heap.size w wx ∧ Hid (BoxN wx gb [.int .i64 a.Do, .int .i64 a.f, .int .i64 a.t, .int .i64 a.k, .slice a.A nB a.c]))
          case first =>
            -- ACTS
            have hcase : r = 5 ∨ r = 6 ∨ r = 7 ∨ r = 8 ∨ r = 9 ∨ r < 5 := by omega
            rcases hcase with rfl | rfl | rfl | rfl | rfl | hr5
            · cases hkk : hasK N a.f a.t a.k with
              | false =>
                have hnt := netg_none hp3.hd a.f a.t a.k HIN.out.wf HIN.out.wt hkk
                have hrt := rtake_no gr a.f a.t a.k w3 hp3.rf (by omega) hkk
                have heq : Calls Try.prog 12 #[.slice none 0 0, .slice none 0 0] w3 fun e w' => e = .returned (.bool true) ∧ ∃ d, w' = w3.drewN d := by
                  have := eqBytes_any none none 0 0 0 0 [] [] w3 rfl rfl (Rd.nil _ _) (Rd.nil _ _) (by omega) (by omega)
                  simpa using this
                have HNT := Lib.hid hnt
                have HRT := Lib.hid hrt
                have HEQ := Lib.hid heq
                have HP3 := Lib.hid hp3
                clear hnt hrt heq hkk hp3
                go_wp2_with fail
                refine HNT.out.mono ?_
                rintro e w' ⟨rfl, rfl⟩
                go_wp2_with fail
                refine HRT.out.mono ?_
                rintro e w' ⟨rfl, rfl⟩
                go_wp2_with fail
                refine (num12_any _ _).mono ?_
                rintro e w' ⟨rfl, rfl⟩
                go_wp2_with fail
                refine HEQ.out.mono ?_
                rintro e w4 ⟨rfl, d, rfl⟩
                have hbd : Below w3.heap.size w3 (w3.drewN d) := below_n (Below.refl _ _) d
                go_wp2_with fail
                refine (spoilBytes_any (w3.drewN d).heap.size (.slice none 0 0) 0 [] (w3.drewN d) (World.ownsRow_nil _ _ _ _) (Nat.le_refl _) (by omega)).mono ?_
                rintro e w5 ⟨rfl, hb5⟩
                have hb35 : Below w3.heap.size w3 w5 := hbd.trans hb5
                have HP5 : Hid (BothN w.heap.size g gr N (k + 1) w5) := ((HP3.out.below hb35).more (Nat.le_succ k)).both
                have hb05 := hb03.trans (hb35.mono hb03.size)
                have bx5 := HBX.out.below hb35
                clear hbd hb5 k1 k2 k3
                go_wp2_with fail
                go_meet
                exact ⟨_, HP5.out, hb05, bx5⟩
              | true =>
                have hbo := hasK_both hkk
                have hki := hasK_iff.1 hkk
                rw [at_yes hbo] at hki
                obtain ⟨j, hj⟩ : ∃ j : Nat, a.k = j := ⟨a.k.toNat, by omega⟩
                rw [hj] at hki
                obtain ⟨x, hx⟩ : ∃ x, (N (wayN a.f a.t))[j]? = some x := ⟨(N (wayN a.f a.t))[j]'(by omega), by simp [show j < (N (wayN a.f a.t)).length by omega]⟩
                have hxz : x.length ≤ 1048576 := by
                  have h1 := (hp3.hd.okA a.f a.t).2 x (by rw [at_yes hbo]; exact List.mem_of_getElem? hx)
                  exact h1.2
                obtain ⟨nx, hz⟩ : ∃ nx, x.length = nx := ⟨_, rfl⟩
                rw [hz] at hxz
                obtain ⟨N', hN'⟩ : ∃ N', N.put (wayN a.f a.t) (delN (N (wayN a.f a.t)) j) = N' := ⟨_, rfl⟩
                have HTK := Lib.hid (netg_take hp3.hd j nx x a.f a.t HIN.out.wf HIN.out.wt hbo hx hz hN')
                have HRT : Hid (∀ (wX : World) (FX : Nat → Prop), IsRefN wX gr FX N k → Calls Try.prog 10 #[.pointer (some ⟨gr, 0, none⟩), .int .i64 a.f, .int .i64 a.t, .int .i64 j] wX (RTakeTo gr FX N' k nx x wX)) := fun wX FX hX => by
                  have := rtake_yes gr j nx x a.f a.t wX hX (by omega) hbo hx hz
                  rwa [hN'] at this
                rw [hj] at k3
                have HJ := Lib.hid hj
                have HZ := Lib.hid hz
                have HP3 := Lib.hid hp3
                clear hkk hki hbo hx hz hN' hj hp3
                go_wp2_with fail
                refine HTK.out.mono ?_
                rintro e w4 ⟨g4, c4, rfl, hwr4, hg4, hn4, ht4⟩
                have hb04 := hb03.trans (touch_low ht4 HP3.out.low hb03.size)
                have bx4 := HBX.out.touch ht4 (fun h => h HGb.out)
                have hp4 : PairN w.heap.size (fun q => G3 q ∨ q = g4) F g gr N' N k w4 := ⟨hn4, HP3.out.rf.kept ht4.size fun q hq => ht4.block q (HP3.out.rf.lt q hq) fun hn => hn (HP3.out.sub q hq).1, fun q hq => ⟨.inl (HP3.out.sub q hq).1, (HP3.out.sub q hq).2⟩, fun q hq => .inl (HP3.out.low q hq)⟩
                have HR4 := Lib.hid (HRT.out w4 F hp4.rf)
                have HP4 := Lib.hid hp4
                have HWR4 := Lib.hid hwr4
                have HBX4 := Lib.hid bx4
                have k14 := bx4.2 1 _ rfl
                have k24 := bx4.2 2 _ rfl
                have k34 := bx4.2 3 _ rfl
                rw [HJ.out] at k34
                have hnF4 : ¬ F g4 := fun hf => by have := HP3.out.rf.lt g4 hf; omega
                clear hn4 ht4 bx4 hp4 hwr4 HTK HRT k1 k2 k3
                go_wp2_with fail
                refine HR4.out.mono ?_
                rintro e w5 ⟨A5, c5, rfl, ho5, hto5⟩
                obtain ⟨G5, F5, hp5, hb5, hGG5, hFF5⟩ := HP4.out.page hto5
                have hwr5 : Wr w5 g4 c4 nx x := by
                  obtain ⟨F', _, htt, _⟩ := hto5
                  exact HWR4.out.kept htt.size (htt.block g4 HWR4.out.lt hnF4)
                have bx5 := hto5.box HBX4.out HNF.out
                have hb05 := hb04.trans hb5
                obtain ⟨A5', c5', e5, _, _, hr5, _, _⟩ := own_val ho5
                cases e5
                have heq : Calls Try.prog 12 #[.slice (some ⟨g4, 0, none⟩) nx c4, .slice A5 nx c5] w5 fun e w' => e = .returned (.bool true) ∧ ∃ d, w' = w5.drewN d := by
                  have := eqBytes_any (some ⟨g4, 0, none⟩) A5 c4 c5 nx nx x x w5 HZ.out HZ.out hwr5.rd hr5 (by omega) (by omega)
                  simpa using this
                have HEQ := Lib.hid heq
                have HWR5 := Lib.hid hwr5
                have HP5 := Lib.hid hp5
                have HBX5 := Lib.hid bx5
                have HG5 := Lib.hid (hGG5 g4 (.inr rfl))
                have HF5 : Hid (¬ F5 g4) := fun hf => by
                  rcases hFF5 g4 hf with e | e
                  · exact hnF4 e
                  · have := HWR4.out.lt; omega
                clear ho5 hto5 hp5 hb5 hGG5 hFF5 hwr5 bx5 hr5 heq HR4 k14 k24 k34 hnF4
                go_wp2_with fail
                refine (num12_any _ _).mono ?_
                rintro e w' ⟨rfl, rfl⟩
                go_wp2_with fail
                refine HEQ.out.mono ?_
                rintro e w6 ⟨rfl, d, rfl⟩
                have hbd : Below w5.heap.size w5 (w5.drewN d) := below_n (Below.refl _ _) d
                have HSP := Lib.hid (spoil_wr (some ⟨g4, 0, none⟩) g4 c4 nx x (w5.drewN d) rfl (HWR5.out.drewN d) (by omega))
                go_wp2_with fail
                refine HSP.out.mono ?_
                rintro e w7 ⟨rfl, ht7⟩
                obtain ⟨hp7, hb7⟩ := (HP5.out.below hbd).spoil ht7 (fun q hq => by subst hq; exact ⟨HG5.out, HF5.out, by have := hb03.size; omega⟩)
                have HP7 : Hid (BothN w.heap.size g gr N' (k + 1) w7) := (hp7.more (Nat.le_succ k)).both
                have hb07 := (hb05.trans (hbd.mono hb05.size)).trans hb7
                have bx7 := (HBX5.out.below hbd).touch ht7 (fun e => by have := HBX.out.1; omega)
                clear hp7 hb7 ht7 hbd HSP
                go_wp2_with fail
                go_meet
                exact ⟨_, HP7.out, hb07, bx7⟩
            · cases hkk : hasK N a.f a.t a.k with
              | false =>
                have hnt := netg_none hp3.hd a.f a.t a.k HIN.out.wf HIN.out.wt hkk
                have hrt := rtake_no gr a.f a.t a.k w3 hp3.rf (by omega) hkk
                have heq : Calls Try.prog 12 #[.slice none 0 0, .slice none 0 0] w3 fun e w' => e = .returned (.bool true) ∧ ∃ d, w' = w3.drewN d := by
                  have := eqBytes_any none none 0 0 0 0 [] [] w3 rfl rfl (Rd.nil _ _) (Rd.nil _ _) (by omega) (by omega)
                  simpa using this
                have HNT := Lib.hid hnt
                have HRT := Lib.hid hrt
                have HEQ := Lib.hid heq
                have HP3 := Lib.hid hp3
                clear hnt hrt heq hkk hp3
                go_wp2_with fail
                refine HNT.out.mono ?_
                rintro e w' ⟨rfl, rfl⟩
                go_wp2_with fail
                refine HRT.out.mono ?_
                rintro e w' ⟨rfl, rfl⟩
                go_wp2_with fail
                refine (num12_any _ _).mono ?_
                rintro e w' ⟨rfl, rfl⟩
                go_wp2_with fail
                refine HEQ.out.mono ?_
                rintro e w4 ⟨rfl, d, rfl⟩
                have hbd : Below w3.heap.size w3 (w3.drewN d) := below_n (Below.refl _ _) d
                go_wp2_with fail
                refine (spoilBytes_any (w3.drewN d).heap.size (.slice none 0 0) 0 [] (w3.drewN d) (World.ownsRow_nil _ _ _ _) (Nat.le_refl _) (by omega)).mono ?_
                rintro e w5 ⟨rfl, hb5⟩
                have hb35 : Below w3.heap.size w3 w5 := hbd.trans hb5
                have HP5 : Hid (BothN w.heap.size g gr N (k + 1) w5) := ((HP3.out.below hb35).more (Nat.le_succ k)).both
                have hb05 := hb03.trans (hb35.mono hb03.size)
                have bx5 := HBX.out.below hb35
                clear hbd hb5 k1 k2 k3
                go_wp2_with fail
                go_meet
                exact ⟨_, HP5.out, hb05, bx5⟩
              | true =>
                have hbo := hasK_both hkk
                have hki := hasK_iff.1 hkk
                rw [at_yes hbo] at hki
                obtain ⟨j, hj⟩ : ∃ j : Nat, a.k = j := ⟨a.k.toNat, by omega⟩
                rw [hj] at hki
                obtain ⟨x, hx⟩ : ∃ x, (N (wayN a.f a.t))[j]? = some x := ⟨(N (wayN a.f a.t))[j]'(by omega), by simp [show j < (N (wayN a.f a.t)).length by omega]⟩
                have hxz : x.length ≤ 1048576 := by
                  have h1 := (hp3.hd.okA a.f a.t).2 x (by rw [at_yes hbo]; exact List.mem_of_getElem? hx)
                  exact h1.2
                obtain ⟨nx, hz⟩ : ∃ nx, x.length = nx := ⟨_, rfl⟩
                rw [hz] at hxz
                obtain ⟨N', hN'⟩ : ∃ N', N.put (wayN a.f a.t) (delN (N (wayN a.f a.t)) j) = N' := ⟨_, rfl⟩
                have HTK := Lib.hid (netg_take hp3.hd j nx x a.f a.t HIN.out.wf HIN.out.wt hbo hx hz hN')
                have HRT : Hid (∀ (wX : World) (FX : Nat → Prop), IsRefN wX gr FX N k → Calls Try.prog 10 #[.pointer (some ⟨gr, 0, none⟩), .int .i64 a.f, .int .i64 a.t, .int .i64 j] wX (RTakeTo gr FX N' k nx x wX)) := fun wX FX hX => by
                  have := rtake_yes gr j nx x a.f a.t wX hX (by omega) hbo hx hz
                  rwa [hN'] at this
                rw [hj] at k3
                have HJ := Lib.hid hj
                have HZ := Lib.hid hz
                have HP3 := Lib.hid hp3
                clear hkk hki hbo hx hz hN' hj hp3
                go_wp2_with fail
                refine HTK.out.mono ?_
                rintro e w4 ⟨g4, c4, rfl, hwr4, hg4, hn4, ht4⟩
                have hb04 := hb03.trans (touch_low ht4 HP3.out.low hb03.size)
                have bx4 := HBX.out.touch ht4 (fun h => h HGb.out)
                have hp4 : PairN w.heap.size (fun q => G3 q ∨ q = g4) F g gr N' N k w4 := ⟨hn4, HP3.out.rf.kept ht4.size fun q hq => ht4.block q (HP3.out.rf.lt q hq) fun hn => hn (HP3.out.sub q hq).1, fun q hq => ⟨.inl (HP3.out.sub q hq).1, (HP3.out.sub q hq).2⟩, fun q hq => .inl (HP3.out.low q hq)⟩
                have HR4 := Lib.hid (HRT.out w4 F hp4.rf)
                have HP4 := Lib.hid hp4
                have HWR4 := Lib.hid hwr4
                have HBX4 := Lib.hid bx4
                have k14 := bx4.2 1 _ rfl
                have k24 := bx4.2 2 _ rfl
                have k34 := bx4.2 3 _ rfl
                rw [HJ.out] at k34
                have hnF4 : ¬ F g4 := fun hf => by have := HP3.out.rf.lt g4 hf; omega
                clear hn4 ht4 bx4 hp4 hwr4 HTK HRT k1 k2 k3
                go_wp2_with fail
                refine HR4.out.mono ?_
                rintro e w5 ⟨A5, c5, rfl, ho5, hto5⟩
                obtain ⟨G5, F5, hp5, hb5, hGG5, hFF5⟩ := HP4.out.page hto5
                have hwr5 : Wr w5 g4 c4 nx x := by
                  obtain ⟨F', _, htt, _⟩ := hto5
                  exact HWR4.out.kept htt.size (htt.block g4 HWR4.out.lt hnF4)
                have bx5 := hto5.box HBX4.out HNF.out
                have hb05 := hb04.trans hb5
                obtain ⟨A5', c5', e5, _, _, hr5, _, _⟩ := own_val ho5
                cases e5
                have heq : Calls Try.prog 12 #[.slice (some ⟨g4, 0, none⟩) nx c4, .slice A5 nx c5] w5 fun e w' => e = .returned (.bool true) ∧ ∃ d, w' = w5.drewN d := by
                  have := eqBytes_any (some ⟨g4, 0, none⟩) A5 c4 c5 nx nx x x w5 HZ.out HZ.out hwr5.rd hr5 (by omega) (by omega)
                  simpa using this
                have HEQ := Lib.hid heq
                have HWR5 := Lib.hid hwr5
                have HP5 := Lib.hid hp5
                have HBX5 := Lib.hid bx5
                have HG5 := Lib.hid (hGG5 g4 (.inr rfl))
                have HF5 : Hid (¬ F5 g4) := fun hf => by
                  rcases hFF5 g4 hf with e | e
                  · exact hnF4 e
                  · have := HWR4.out.lt; omega
                clear ho5 hto5 hp5 hb5 hGG5 hFF5 hwr5 bx5 hr5 heq HR4 k14 k24 k34 hnF4
                go_wp2_with fail
                refine (num12_any _ _).mono ?_
                rintro e w' ⟨rfl, rfl⟩
                go_wp2_with fail
                refine HEQ.out.mono ?_
                rintro e w6 ⟨rfl, d, rfl⟩
                have hbd : Below w5.heap.size w5 (w5.drewN d) := below_n (Below.refl _ _) d
                have HSP := Lib.hid (spoil_wr (some ⟨g4, 0, none⟩) g4 c4 nx x (w5.drewN d) rfl (HWR5.out.drewN d) (by omega))
                go_wp2_with fail
                refine HSP.out.mono ?_
                rintro e w7 ⟨rfl, ht7⟩
                obtain ⟨hp7, hb7⟩ := (HP5.out.below hbd).spoil ht7 (fun q hq => by subst hq; exact ⟨HG5.out, HF5.out, by have := hb03.size; omega⟩)
                have HP7 : Hid (BothN w.heap.size g gr N' (k + 1) w7) := (hp7.more (Nat.le_succ k)).both
                have hb07 := (hb05.trans (hbd.mono hb05.size)).trans hb7
                have bx7 := (HBX5.out.below hbd).touch ht7 (fun e => by have := HBX.out.1; omega)
                clear hp7 hb7 ht7 hbd HSP
                go_wp2_with fail
                go_meet
                exact ⟨_, HP7.out, hb07, bx7⟩
            · obtain ⟨⟨N', x⟩, hR⟩ : ∃ R, nDouble N a.f a.t a.k = R := ⟨_, rfl⟩
              have HND : Hid (∀ wX, NetG G3 wX g N → Calls Try.prog 14 #[.pointer (some ⟨g, 0, none⟩), .int .i64 a.f, .int .i64 a.t, .int .i64 a.k] wX fun e w' => e = .returned (.int .i64 x) ∧ NetG G3 w' g N' ∧ Touch (fun q => ¬ G3 q) wX w') := fun wX hX => netg_double hX a.f a.t a.k HIN.out.wf HIN.out.wt hR
              have HRD : Hid (∀ wX FX, IsRefN wX gr FX N k → Calls Try.prog 15 #[.pointer (some ⟨gr, 0, none⟩), .int .i64 a.f, .int .i64 a.t, .int .i64 a.k] wX fun e w' => e = .returned (.int .i64 x) ∧ RefNTo gr FX N' (k + 1) wX w') := fun wX FX hX => by
                have := rdouble_is gr a.f a.t a.k wX hX (by omega)
                rwa [hR] at this
              have HP3 := Lib.hid hp3
              clear hR hp3 k1 k2 k3 k4
              go_upto_region 25 with fail
              have hpd := HP3.out.below (w' := w3.drew) (Below.refl _ _).drew
              have bxd : BoxN w3.drew gb [.int .i64 a.Do, .int .i64 a.f, .int .i64 a.t, .int .i64 a.k, .slice a.A nB a.c] := HBX.out.below (Below.refl _ _).drew
              refine wp_region_held_drew (S := fun w' => BoxN w' gb [.int .i64 a.Do, .int .i64 a.f, .int .i64 a.t, .int .i64 a.k, .slice a.A nB a.c]) (by kernel_rfl) bxd (fun _ => ?_)
              refine ytake_0 (v := ?vv1) (by kernel_rfl) (by kernel_rfl) (by kernel_rfl) (fun _ _ _ h => h) (Or.inl ⟨by rfl, ?hy1⟩) bxd ?_
              case hy1 =>
                intro wX hSw
                have c1 := hSw.2 1 _ rfl
                have c2 := hSw.2 2 _ rfl
                have c3 := hSw.2 3 _ rfl
                go_simp
                try with_reducible rfl
              try simp only [Act.put, List.setIfInBounds_toArray, List.set_cons_zero, List.set_cons_succ]
              refine ytake_1 (v := ?vv2) (by kernel_rfl) (by kernel_rfl) (by kernel_rfl) (fun _ _ _ h => h) (Or.inl ⟨by rfl, ?hy2⟩) bxd ?_
              case hy2 =>
                intro wX hSw
                have c1 := hSw.2 1 _ rfl
                have c2 := hSw.2 2 _ rfl
                have c3 := hSw.2 3 _ rfl
                go_simp
                try with_reducible rfl
              try simp only [Act.put, List.setIfInBounds_toArray, List.set_cons_zero, List.set_cons_succ]
              refine ytake_2 (v := ?vv3) (by kernel_rfl) (by kernel_rfl) (by kernel_rfl) (fun _ _ _ h => h) (Or.inl ⟨by rfl, ?hy3⟩) bxd ?_
              case hy3 =>
                intro wX hSw
                have c1 := hSw.2 1 _ rfl
                have c2 := hSw.2 2 _ rfl
                have c3 := hSw.2 3 _ rfl
                go_simp
                try with_reducible rfl
              try simp only [Act.put, List.setIfInBounds_toArray, List.set_cons_zero, List.set_cons_succ]
              refine ytake_3 (v := ?vv4) (by kernel_rfl) (by kernel_rfl) (by kernel_rfl) (fun _ _ _ h => h) (Or.inl ⟨by rfl, ?hy4⟩) bxd ?_
              case hy4 =>
                intro wX hSw
                have c1 := hSw.2 1 _ rfl
                have c2 := hSw.2 2 _ rfl
                have c3 := hSw.2 3 _ rfl
                go_simp
                try with_reducible rfl
              try simp only [Act.put, List.setIfInBounds_toArray, List.set_cons_zero, List.set_cons_succ]
              refine ytake_4 (v := ?vv5) (by kernel_rfl) (by kernel_rfl) (by kernel_rfl) (fun _ _ _ h => h) (Or.inl ⟨by rfl, ?hy5⟩) bxd ?_
              case hy5 =>
                intro wX hSw
                have c1 := hSw.2 1 _ rfl
                have c2 := hSw.2 2 _ rfl
                have c3 := hSw.2 3 _ rfl
                go_simp
                try with_reducible rfl
              try simp only [Act.put, List.setIfInBounds_toArray, List.set_cons_zero, List.set_cons_succ]
              refine ytake_5 (v := ?vv6) (by kernel_rfl) (by kernel_rfl) (by kernel_rfl) (fun _ _ _ h => h) (Or.inl ⟨by rfl, ?hy6⟩) bxd ?_
              case hy6 =>
                intro wX hSw
                have c1 := hSw.2 1 _ rfl
                have c2 := hSw.2 2 _ rfl
                have c3 := hSw.2 3 _ rfl
                go_simp
                try with_reducible rfl
              try simp only [Act.put, List.setIfInBounds_toArray, List.set_cons_zero, List.set_cons_succ]
              refine ytake_6 (v := ?vv7) (by kernel_rfl) (by kernel_rfl) (by kernel_rfl) (fun _ _ _ h => h) (Or.inl ⟨by rfl, ?hy7⟩) bxd ?_
              case hy7 =>
                intro wX hSw
                have c1 := hSw.2 1 _ rfl
                have c2 := hSw.2 2 _ rfl
                have c3 := hSw.2 3 _ rfl
                go_simp
                try with_reducible rfl
              try simp only [Act.put, List.setIfInBounds_toArray, List.set_cons_zero, List.set_cons_succ]
              refine ytake_9 (v := ?vv8) (by kernel_rfl) (by kernel_rfl) (by kernel_rfl) (fun _ _ _ h => h) (Or.inl ⟨by rfl, ?hy8⟩) bxd ?_
              case hy8 =>
                intro wX hSw
                have c1 := hSw.2 1 _ rfl
                have c2 := hSw.2 2 _ rfl
                have c3 := hSw.2 3 _ rfl
                go_simp
                try with_reducible rfl
              try simp only [Act.put, List.setIfInBounds_toArray, List.set_cons_zero, List.set_cons_succ]
              refine ytake_10 (v := ?vv9) (by kernel_rfl) (by kernel_rfl) (by kernel_rfl) (fun _ _ _ h => h) (Or.inl ⟨by rfl, ?hy9⟩) bxd ?_
              case hy9 =>
                intro wX hSw
                have c1 := hSw.2 1 _ rfl
                have c2 := hSw.2 2 _ rfl
                have c3 := hSw.2 3 _ rfl
                go_simp
                try with_reducible rfl
              try simp only [Act.put, List.setIfInBounds_toArray, List.set_cons_zero, List.set_cons_succ]
              refine ytake_11 (v := ?vv10) (by kernel_rfl) (by kernel_rfl) (by kernel_rfl) (fun _ _ _ h => h) (Or.inl ⟨by rfl, ?hy10⟩) bxd ?_
              case hy10 =>
                intro wX hSw
                have c1 := hSw.2 1 _ rfl
                have c2 := hSw.2 2 _ rfl
                have c3 := hSw.2 3 _ rfl
                go_simp
                try with_reducible rfl
              try simp only [Act.put, List.setIfInBounds_toArray, List.set_cons_zero, List.set_cons_succ]
              refine ytake_12 (v := ?vv11) (by kernel_rfl) (by kernel_rfl) (by kernel_rfl) (fun _ _ _ h => h) (Or.inl ⟨by rfl, ?hy11⟩) bxd ?_
              case hy11 =>
                intro wX hSw
                have c1 := hSw.2 1 _ rfl
                have c2 := hSw.2 2 _ rfl
                have c3 := hSw.2 3 _ rfl
                go_simp
                try with_reducible rfl
              try simp only [Act.put, List.setIfInBounds_toArray, List.set_cons_zero, List.set_cons_succ]
              refine ytake_13 (v := ?vv12) (by kernel_rfl) (by kernel_rfl) (by kernel_rfl) (fun _ _ _ h => h) (Or.inl ⟨by rfl, ?hy12⟩) bxd ?_
              case hy12 =>
                intro wX hSw
                have c1 := hSw.2 1 _ rfl
                have c2 := hSw.2 2 _ rfl
                have c3 := hSw.2 3 _ rfl
                go_simp
                try with_reducible rfl
              try simp only [Act.put, List.setIfInBounds_toArray, List.set_cons_zero, List.set_cons_succ]
              refine ytake_14 (v := ?vv13) (by kernel_rfl) (by kernel_rfl) (by kernel_rfl) (fun _ _ _ h => h) (Or.inl ⟨by rfl, ?hy13⟩) bxd ?_
              case hy13 =>
                intro wX hSw
                have c1 := hSw.2 1 _ rfl
                have c2 := hSw.2 2 _ rfl
                have c3 := hSw.2 3 _ rfl
                go_simp
                try with_reducible rfl
              try simp only [Act.put, List.setIfInBounds_toArray, List.set_cons_zero, List.set_cons_succ]
              refine ytake_15 (v := ?vv14) (by kernel_rfl) (by kernel_rfl) (by kernel_rfl) (fun _ _ _ h => h) (Or.inl ⟨by rfl, ?hy14⟩) bxd ?_
              case hy14 =>
                intro wX hSw
                have c1 := hSw.2 1 _ rfl
                have c2 := hSw.2 2 _ rfl
                have c3 := hSw.2 3 _ rfl
                go_simp
                try with_reducible rfl
              try simp only [Act.put, List.setIfInBounds_toArray, List.set_cons_zero, List.set_cons_succ]
              refine yready_7 (by kernel_rfl) ?_
              intro KQ hK
              rw [if_pos (by rfl)]
              try go_simp
              refine (HND.out _ hpd.hd).mono ?_
              rintro e w4 ⟨rfl, hk4⟩
              obtain ⟨hp4, hb4⟩ := hpd.land hk4
              have bx4 := bxd.touch hk4.2 (fun h => h HGb.out)
              refine hK.out _ _ bx4 (fun _ => ?_)
              clear hK KQ
              try simp only [Act.put, List.setIfInBounds_toArray, List.set_cons_zero, List.set_cons_succ]
              refine yready_8 (by kernel_rfl) ?_
              intro KQ hK
              rw [if_pos (by rfl)]
              try go_simp
              refine (num12_any _ _).mono ?_
              rintro e w' ⟨rfl, rfl⟩
              refine hK.out _ _ bx4 (fun _ => ?_)
              clear hK KQ
              try simp only [Act.put, List.setIfInBounds_toArray, List.set_cons_zero, List.set_cons_succ]
              refine yready_16 (by kernel_rfl) ?_
              intro KQ hK
              rw [if_pos (by rfl)]
              try go_simp
              refine (HRD.out _ _ hp4.rf).mono ?_
              rintro e w5 ⟨rfl, hr5⟩
              obtain ⟨G5, F5, hp5, hb5, _, _⟩ := hp4.page hr5
              have bx5 := hr5.box bx4 HNF.out
              refine hK.out _ _ bx5 (fun _ => ?_)
              clear hK KQ
              try simp only [Act.put, List.setIfInBounds_toArray, List.set_cons_zero, List.set_cons_succ]
              refine ytake_17 (v := ?vv15) (by kernel_rfl) (by kernel_rfl) (by kernel_rfl) (fun _ _ _ h => h) (Or.inl ⟨by rfl, ?hy15⟩) bx5 ?_
              case hy15 =>
                intro wX hSw
                go_simp
                try with_reducible rfl
              try simp only [Act.put, List.setIfInBounds_toArray, List.set_cons_zero, List.set_cons_succ]
              refine wpAnyH_done (by kernel_rfl) ?_ _
              have HP5 : Hid (BothN w.heap.size g gr N' (k + 1) w5) := hp5.both
              have hb05 : Below w.heap.size w w5 := (hb03.trans ((Below.refl w3.heap.size w3).drew.mono hb03.size)).trans (hb4.trans hb5)
              have HBX5 := Lib.hid bx5
              clear hpd bxd bx4 bx5 hp4 hp5 hb4 hb5 hr5 hk4
              go_wp2_with fail
              go_meet
              exact ⟨_, HP5.out, hb05, HBX5.out⟩
            · cases hkk : hasK N a.f a.t a.k with
              | false =>
                have HND : Hid (Calls Try.prog 16 #[.pointer (some ⟨g, 0, none⟩), .int .i64 a.f, .int .i64 a.t, .int .i64 a.k] w3 fun e w' => e = .returned (.int .i64 3) ∧ NetG G3 w' g N ∧ Touch (fun q => ¬ G3 q) w3 w') := netg_drop hp3.hd a.f a.t a.k HIN.out.wf HIN.out.wt (by rw [nDrop, if_pos hkk])
                have HRT := Lib.hid (rtake_no gr a.f a.t a.k w3 hp3.rf (by omega) hkk)
                have HP3 := Lib.hid hp3
                clear hkk hp3
                go_wp2_with fail
                refine HRT.out.mono ?_
                rintro e w' ⟨rfl, rfl⟩
                go_wp2_with fail
                refine HND.out.mono ?_
                rintro e w4 ⟨rfl, hk4⟩
                obtain ⟨hp4, hb4⟩ := HP3.out.land hk4
                have HP4 : Hid (BothN w.heap.size g gr N (k + 1) w4) := (hp4.more (Nat.le_succ k)).both
                have hb04 := hb03.trans hb4
                have bx4 := HBX.out.touch hk4.2 (fun h => h HGb.out)
                clear hp4 hb4 hk4 k1 k2 k3
                go_wp2_with fail
                refine (num12_any _ _).mono ?_
                rintro e w' ⟨rfl, rfl⟩
                go_wp2_with fail
                go_meet
                exact ⟨_, HP4.out, hb04, bx4⟩
              | true =>
                have hbo := hasK_both hkk
                have hki := hasK_iff.1 hkk
                rw [at_yes hbo] at hki
                obtain ⟨j, hj⟩ : ∃ j : Nat, a.k = j := ⟨a.k.toNat, by omega⟩
                rw [hj] at hki
                obtain ⟨x, hx⟩ : ∃ x, (N (wayN a.f a.t))[j]? = some x := ⟨(N (wayN a.f a.t))[j]'(by omega), by simp [show j < (N (wayN a.f a.t)).length by omega]⟩
                obtain ⟨nx, hz⟩ : ∃ nx, x.length = nx := ⟨_, rfl⟩
                obtain ⟨N', hN'⟩ : ∃ N', N.put (wayN a.f a.t) (delN (N (wayN a.f a.t)) j) = N' := ⟨_, rfl⟩
                have HND : Hid (∀ wX GX, NetG GX wX g N → Calls Try.prog 16 #[.pointer (some ⟨g, 0, none⟩), .int .i64 a.f, .int .i64 a.t, .int .i64 j] wX fun e w' => e = .returned (.int .i64 0) ∧ NetG GX w' g N' ∧ Touch (fun q => ¬ GX q) wX w') := fun wX GX hX => netg_drop hX a.f a.t j HIN.out.wf HIN.out.wt (by rw [← hj, nDrop, if_neg (by rw [hkk]; decide), hj, Int.toNat_natCast, hN'])
                have HRT : Hid (Calls Try.prog 10 #[.pointer (some ⟨gr, 0, none⟩), .int .i64 a.f, .int .i64 a.t, .int .i64 j] w3 (RTakeTo gr F N' k nx x w3)) := by
                  have := rtake_yes gr j nx x a.f a.t w3 hp3.rf (by omega) hbo hx hz
                  rwa [hN'] at this
                rw [hj] at k3
                have HJ := Lib.hid hj
                have HP3 := Lib.hid hp3
                clear hkk hki hbo hx hz hN' hj hp3
                go_wp2_with fail
                refine HRT.out.mono ?_
                rintro e w4 ⟨A4, c4, rfl, _, hto4⟩
                obtain ⟨G4, F4, hp4, hb4, hGG4, hFF4⟩ := HP3.out.page hto4
                have bx4 := hto4.box HBX.out HNF.out
                have hb04 := hb03.trans hb4
                have HD4 := Lib.hid (HND.out w4 G4 hp4.hd)
                have HP4 := Lib.hid hp4
                have HBX4 := Lib.hid bx4
                have HG4 := Lib.hid (hGG4 gb HGb.out)
                have k14 := bx4.2 1 _ rfl
                have k24 := bx4.2 2 _ rfl
                have k34 := bx4.2 3 _ rfl
                rw [HJ.out] at k34
                clear hto4 hp4 hb4 bx4 hGG4 hFF4 HND HRT k1 k2 k3
                go_wp2_with fail
                refine HD4.out.mono ?_
                rintro e w5 ⟨rfl, hk5⟩
                obtain ⟨hp5, hb5⟩ := HP4.out.land hk5
                have HP5 : Hid (BothN w.heap.size g gr N' (k + 1) w5) := (hp5.more (Nat.le_succ k)).both
                have hb05 := hb04.trans hb5
                have bx5 := HBX4.out.touch hk5.2 (fun h => h HG4.out)
                clear hp5 hb5 hk5 k14 k24 k34
                go_wp2_with fail
                refine (num12_any _ _).mono ?_
                rintro e w' ⟨rfl, rfl⟩
                go_wp2_with fail
                go_meet
                exact ⟨_, HP5.out, hb05, bx5⟩
            · have HND := Lib.hid (netg_clear hp3.hd a.t HIN.out.wt rfl)
              have HP3 := Lib.hid hp3
              clear hp3
              go_wp2_with fail
              refine HND.out.mono ?_
              rintro e w4 ⟨rfl, hk4⟩
              obtain ⟨hp4, hb4⟩ := HP3.out.land hk4
              have hb04 := hb03.trans hb4
              have bx4 := HBX.out.touch hk4.2 (fun h => h HGb.out)
              have HR4 := Lib.hid (rclear_is gr a.t w4 hp4.rf (by omega))
              have HP4 := Lib.hid hp4
              have HBX4 := Lib.hid bx4
              have k24 := bx4.2 2 _ rfl
              clear hp4 hb4 hk4 bx4 HND k1 k2 k3
              go_wp2_with fail
              refine HR4.out.mono ?_
              rintro e w5 ⟨rfl, hto5⟩
              obtain ⟨G5, F5, hp5, hb5, _, _⟩ := HP4.out.page hto5
              have HP5 : Hid (BothN w.heap.size g gr (nClear N a.t) (k + 1) w5) := (hp5.more (Nat.le_succ k)).both
              have hb05 := hb04.trans hb5
              have bx5 := hto5.box HBX4.out HNF.out
              clear hp5 hb5 hto5 k24
              go_wp2_with fail
              go_meet
              exact ⟨_, HP5.out, hb05, bx5⟩
            · have j5 : ((r : Int) == 5) = false := by simp; omega
              have j6 : ((r : Int) == 6) = false := by simp; omega
              have j7 : ((r : Int) == 7) = false := by simp; omega
              have j8 : ((r : Int) == 8) = false := by simp; omega
              have j9 : ((r : Int) == 9) = false := by simp; omega
              have hzB : a.bs.length = nB := by rw [HIN.out.z, HNB.out]
              have hcB : nB ≤ a.c := by rw [← HNB.out]; exact HIN.out.kc
              obtain ⟨⟨N', x⟩, hR⟩ : ∃ R, nPut N a.f a.t a.bs = R := ⟨_, rfl⟩
              have HCP := Lib.hid (copyBytes_any a.A a.c nB a.bs w3 hzB HRA.out hcB (by omega))
              have HPUT : Hid (∀ wX GX A' c', NetG GX wX g N → Rd wX A' (u8s a.bs) → Calls Try.prog 20 #[.pointer (some ⟨g, 0, none⟩), .int .i64 a.f, .int .i64 a.t, .slice A' nB c'] wX fun e w' => e = .returned (.int .i64 x) ∧ NetG GX w' g N' ∧ Touch (fun q => ¬ GX q) wX w') := fun wX GX A' c' hX hA' => netg_put hX a.f a.t A' nB c' a.bs HIN.out.wf HIN.out.wt hzB hA' HIN.out.y (by omega) hR
              have HRP : Hid (∀ wX, Below w.heap.size w wX → IsRefN wX gr F N k → Calls Try.prog 21 #[.pointer (some ⟨gr, 0, none⟩), .int .i64 a.f, .int .i64 a.t, .slice a.A nB a.c] wX fun e w' => e = .returned (.int .i64 x) ∧ RefNTo gr F N' (k + 1) wX w') := fun wX hX hF => by
                have := rput_is gr a.f a.t a.A nB a.c a.bs wX hF (by omega) hzB (HRW.out.below hX) HIN.out.y (by omega) hcB (.inr fun ad had h0 hf => by
                  obtain ⟨b, o, e, hbl', _⟩ := HRW.out.open_ (by rw [u8s_length, hzB]; exact h0)
                  rw [e] at had
                  cases had
                  have := (hp3.sub _ hf).2
                  have h1 : b < w.heap.size := hbl'
                  simp only at this
                  omega)
                rwa [hR] at this
              have HP3 := Lib.hid hp3
              have HZB := Lib.hid hzB
              clear hR hzB hcB hp3
              go_wp2_with fail
              refine HCP.out.mono ?_
              rintro e w4 ⟨v4, rfl, ho4, hb4⟩
              have ho4b := own_cast ho4 ((u8s_length _).trans HZB.out)
              obtain ⟨A4, c4, rfl, _, _, hr4, _, _⟩ := own_val ho4b
              have hp4 := HP3.out.wide hb4
              have bx4 := HBX.out.below hb4
              have hb04 := hb03.trans (hb4.mono hb03.size)
              have HP5 := Lib.hid (HPUT.out w4 _ A4 c4 hp4.hd hr4)
              have HP4 := Lib.hid hp4
              have HO4 := Lib.hid ho4b
              have HBX4 := Lib.hid bx4
              have HB4 := Lib.hid hb4
              have k14 := bx4.2 1 _ rfl
              have k24 := bx4.2 2 _ rfl
              clear ho4 ho4b hp4 bx4 hr4 hb4 HPUT HCP k1 k2 k3 k4
              go_wp2_with fail
              refine HP5.out.mono ?_
              rintro e w5 ⟨rfl, hk5⟩
              obtain ⟨hp5, hb5⟩ := HP4.out.land hk5
              have hb05 := hb04.trans hb5
              have bx5 := HBX4.out.touch hk5.2 (fun h => h (.inl HGb.out))
              have ho5 : w5.ownsRow w3.heap.size 5 1 (.slice A4 nB c4) nB (u8s a.bs) := own_kept HO4.out fun q hq hl => hk5.2.block q hl fun hn => hn (.inr ((own_lt HO4.out hq).symm))
              have HSP := Lib.hid (spoil_far w3.heap.size (.slice A4 nB c4) nB a.bs w5 ho5 (by omega))
              have HPP5 := Lib.hid hp5
              have HBX5 := Lib.hid bx5
              have HO5 := Lib.hid ho5
              clear hp5 hb5 hk5 bx5 ho5 HP5 k14 k24
              go_wp2_with fail
              refine (num12_any _ _).mono ?_
              rintro e w' ⟨rfl, rfl⟩
              go_wp2_with fail
              refine HSP.out.mono ?_
              rintro e w6 ⟨rfl, ht6⟩
              obtain ⟨hp6, hb6⟩ := HPP5.out.spoil ht6 (fun q hq => ⟨.inr ((own_lt HO4.out hq).symm), fun hf => by have := HP3.out.rf.lt q hf; have := (own_lt HO4.out hq).2; omega, by have := (own_lt HO4.out hq).2; have := hb03.size; omega⟩)
              have hb06 := hb05.trans hb6
              have bx6 := HBX5.out.touch ht6 (fun e => by have := (own_lt HO4.out e).2; have := HBX.out.1; omega)
              have HR6 := Lib.hid (HRP.out w6 hb06 hp6.rf)
              have HP6 := Lib.hid hp6
              have HBX6 := Lib.hid bx6
              have k16 := bx6.2 1 _ rfl
              have k26 := bx6.2 2 _ rfl
              have k46 := bx6.2 4 _ rfl
              clear hp6 hb6 ht6 bx6 HSP HRP
              go_wp2_with fail
              refine HR6.out.mono ?_
              rintro e w7 ⟨rfl, hto7⟩
              obtain ⟨G7, F7, hp7, hb7, _, _⟩ := HP6.out.page hto7
              have HP7 : Hid (BothN w.heap.size g gr N' (k + 1) w7) := hp7.both
              have hb07 := hb06.trans hb7
              have bx7 := hto7.box HBX6.out HNF.out
              clear hp7 hb7 hto7 k16 k26 k46
              go_wp2_with fail
              go_meet
              exact ⟨_, HP7.out, hb07, bx7⟩
          case rest =>
            obtain ⟨N', HBO, hbc, HBXC⟩ := hcut
            have HFT : Hid (Fit a.f ∧ Fit a.t) := ⟨HIN.out.wf, HIN.out.wt⟩
            clear HNF hp3 HGb HIN HNB HRA HRW k1 k2 k3 k4 HBX hb03 hr HMEM
            go_wp2_with fail
            go_loopw [15] (fun q wz => ∃ j d : Nat, q = .int .i64 j ∧ j ≤ 5 ∧ wz = wc.drewN d) (fun q _ => 5 - (intOf q).toNat)
            case atStart => exact ⟨0, 0, rfl, by omega, rfl⟩
            case round =>
              obtain ⟨j, d, rfl, hj, hwz⟩ := hrel
              obtain ⟨wy, rfl⟩ : ∃ wy, wy = wr := ⟨_, rfl⟩
              have hbz : Below wc.heap.size wc wy := by rw [hwz]; exact below_n (Below.refl _ _) d
              have HWZ := Lib.hid hwz
              have hbx := HBXC.out.below hbz
              have hboth : BothN w.heap.size g gr N' (k + 1) wy := by
                obtain ⟨G, F, hp⟩ := HBO.out
                exact ⟨G, F, hp.below hbz⟩
              clear hwz
              by_cases hlt4 : j < 5
              · have i4 : (j : Int) ≤ 4 := by omega
                have hfj : Fit (j : Int) := ⟨by omega, by omega⟩
                obtain ⟨n1, hn1⟩ : ∃ n1, (N'.at_ a.f j).length = n1 := ⟨_, rfl⟩
                obtain ⟨n2, hn2⟩ : ∃ n2, (N'.at_ j a.t).length = n2 := ⟨_, rfl⟩
                have hcs : (∀ m, Calls Try.prog 22 #[.pointer (some ⟨g, 0, none⟩), .int .i64 a.f, .int .i64 j] (wy.drewN m) fun e w' => e = .returned (.int .i64 (n1 : Nat)) ∧ wy.drewN m = w') ∧
                    (∀ m, Calls Try.prog 22 #[.pointer (some ⟨g, 0, none⟩), .int .i64 j, .int .i64 a.t] (wy.drewN m) fun e w' => e = .returned (.int .i64 (n2 : Nat)) ∧ wy.drewN m = w') ∧
                    (∀ m, Calls Try.prog 23 #[.pointer (some ⟨gr, 0, none⟩), .int .i64 a.f, .int .i64 j] (wy.drewN m) fun e w' => e = .returned (.int .i64 (n1 : Nat)) ∧ wy.drewN m = w') ∧
                    (∀ m, Calls Try.prog 23 #[.pointer (some ⟨gr, 0, none⟩), .int .i64 j, .int .i64 a.t] (wy.drewN m) fun e w' => e = .returned (.int .i64 (n2 : Nat)) ∧ wy.drewN m = w') := by
                  obtain ⟨G, F, hp⟩ := hboth
                  refine ⟨fun m => ?_, fun m => ?_, fun m => ?_, fun m => ?_⟩
                  · exact netg_count (hp.below (below_n (Below.refl _ _) m)).hd a.f j HFT.out.1 hfj hn1
                  · exact netg_count (hp.below (below_n (Below.refl _ _) m)).hd j a.t hfj HFT.out.2 hn2
                  · have := rcount_is a.f j (wy.drewN m) (hp.below (below_n (Below.refl _ _) m)).rf (by omega)
                    rwa [hn1] at this
                  · have := rcount_is j a.t (wy.drewN m) (hp.below (below_n (Below.refl _ _) m)).rf (by omega)
                    rwa [hn2] at this
                obtain ⟨hc1, hc2, hc3, hc4⟩ := hcs
                have HC1 := Lib.hid hc1
                have HC2 := Lib.hid hc2
                have HC3 := Lib.hid hc3
                have HC4 := Lib.hid hc4
                have k1 := hbx.2 1 _ rfl
                have k2 := hbx.2 2 _ rfl
                clear hc1 hc2 hc3 hc4 hn1 hn2 hboth hbx hfj
                go_wp2_with fail
                go_quiet ((first
                  | (go_at_call 22; first | (with_reducible exact quiet_leftK (HC1.out _)) | (with_reducible exact quiet_leftK (HC2.out _)))
                  | (go_at_call 23; first | (with_reducible exact quiet_leftK (HC3.out _)) | (with_reducible exact quiet_leftK (HC4.out _)))))
                go_wp2_with fail
                go_roundw
                case rel => exact ⟨j + 1, _, by go_num, by omega, by rw [HWZ.out]; exact World.drewN_drewN _ _ _⟩
                case measure => simp [intOf]; omega
              · have i4 : ¬ ((j : Int) ≤ 4) := by omega
                have HBY := Lib.hid hboth
                have hb0 := hbc.trans (hbz.mono hbc.size)
                clear hboth hbx
                go_wp2_with fail
                go_roundw
                case rel => exact ⟨k + 1, N', by go_num, by omega, HBY.out, hb0⟩
                case measure => simp [intOf]; omega
        · have i2 : ¬ ((k : Int) < 60) := by omega
          go_wp2_with fail
          refine (wakes12_any _).mono ?_
          rintro e w4 ⟨rfl, hb4⟩
          have hb04 := hb.trans (hb4.mono hb.size)
          go_wp2_with fail
          go_ret
          exact ⟨rfl, hb04⟩
      · have i1 : ¬ ((k : Int) < (n : Int)) := by omega
        go_wp2_with fail
        refine (wakes12_any _).mono ?_
        rintro e w4 ⟨rfl, hb4⟩
        have hb04 := hb.trans (hb4.mono hb.size)
        go_wp2_with fail
        go_ret
        exact ⟨rfl, hb04⟩

end Go.Proofs.Ytbffaaljommoeaa
