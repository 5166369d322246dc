/-
  The walk of 'BookOnce', out of what it asks of package book.
-/
import Derived.Test.YtnooippbdfobdaaBookQuiet
namespace Go.Proofs.Ytnooippbdfobdaa
open Go.RowKit

theorem find_zero {x : List Int} : ∀ {L : List (List Int)}, findB L x = 0 → ∀ (i : Nat) (y : List Int), L[i]? = some y → y ≠ x
  | [], _, i, y, hy => by simp at hy
  | z :: L, h, i, y, hy => by
    unfold findB at h
    by_cases h0 : z = x
    · rw [if_pos h0] at h; cases h
    · rw [if_neg h0] at h
      cases i with
      | zero => simp at hy; rw [← hy]; exact h0
      | succ i =>
        refine find_zero ?_ i y (by simpa using hy)
        cases hf : findB L x with
        | zero => rfl
        | succ n => rw [hf] at h; cases h
theorem find_new {L : List (List Int)} {x : List Int} (h : findB L x = 0) : findB (L ++ [x]) x = L.length + 1 :=
  find_hit (by simp) fun i y hi hy => find_zero h i y (by rwa [List.getElem?_append_left hi] at hy)
theorem find_app {x z : List Int} : ∀ {L : List (List Int)} {m : Nat}, findB L x = m + 1 → findB (L ++ [z]) x = m + 1
  | [], m, h => by simp [findB] at h
  | y :: L, m, h => by
    unfold findB at h
    show (if y = x then 1 else match findB (L ++ [z]) x with | 0 => 0 | n + 1 => n + 2) = m + 1
    by_cases h0 : y = x
    · rw [if_pos h0] at h ⊢; exact h
    · rw [if_neg h0] at h ⊢
      cases hf : findB L x with
      | zero => rw [hf] at h; cases h
      | succ n => rw [hf] at h; rw [find_app hf]; exact h


set_option maxRecDepth 100000 in
set_option maxHeartbeats 100000000 in
theorem bookOnce_walk {I : BookIs} (K : BookC I) (a : Option Addr) (len cap : Nat) (w : World) (ha : Acts w a len cap) :
    Calls Try.prog 4 #[.slice a len cap] w fun e w' => e = .returned (.bool true) ∧ Below w.heap.size w w' := by
  have HA0 := Lib.hid ha
  obtain ⟨Q, hQl, hQ⟩ := act_list ha
  have HQL := Lib.hid hQl
  have HQ := Lib.hid hQ
  obtain ⟨hl, hm, _⟩ := ha
  clear hQl hQ
  go_enter Try.func4, Try.ntmps4
  go_wp2_with fail
  refine (aheavy_any a len cap _ HA0.out).mono ?_
  rintro e w' ⟨hv, rfl, rfl, hfew⟩
  cases hv with
  | true =>
    go_wp2_with fail
    go_ret
    exact ⟨rfl, Below.refl _ _⟩
  | false =>
    have HFEW := Lib.hid (hfew rfl)
    clear hfew
    go_wp2_with fail
    refine (K.new _).mono ?_
    rintro e w1 ⟨gb, F0, rfl, hI, hF, hb1⟩
    have HI1 := Lib.hid hI
    have HF1 := Lib.hid hF
    clear hI hF
    go_wp2_with fail
    go_loopw [4] (fun i wr => ∃ (k : Nat) (L : List (List Int)) (F : Nat → Prop), i = .int .i64 k ∧ k ≤ len ∧ k ≤ 40 ∧ L.length ≤ k ∧ Hid (∀ (j : Nat) (q : ActD), j < k → Q[j]? = some q → ∃ m, findB L q.B = m + 1) ∧ Hid (I wr gb F L []) ∧ Hid (∀ j, F j → w.heap.size ≤ j) ∧ Below w.heap.size w wr) (fun i _ => 40 - (intOf i).toNat)
    case atStart => exact ⟨0, [], F0, rfl, by omega, by omega, by simp, fun j q hj => absurd hj (by omega), HI1.out, HF1.out, hb1⟩
    case round =>
      obtain ⟨k, L, F, rfl, hk, hk40, hLk, HSEEN, HIB, HFB, hb⟩ := hrel
      clear hb1
      by_cases hlt : k < len
      · by_cases hlt40 : k < 40
        · obtain ⟨q, hq⟩ : ∃ q, Q[k]? = some q := ⟨Q[k]'(by rw [HQL.out]; exact hlt), by simp [HQL.out, hlt]⟩
          obtain ⟨b, off, nB, rfl, hqB, hnc, hcm, hbl, HA⟩ := (HQ.out k q hq).all
          have hfw : nB ≤ 10000 := HFEW.out k hlt hlt40 b off nB _ _ rfl (HA w (Below.refl _ _)).2.2.2.2
          have HOK : Hid (∀ wX, Below w.heap.size w wX → ActOk wX q ∧ wX.cell? ⟨b, off + k * 4 + 3, none⟩ = some (.slice q.AB nB q.cB)) := fun wX h => ⟨(HA wX h).1, (HA wX h).2.2.2.2⟩
          have HQK := Lib.hid hq
          have HQB := Lib.hid hqB
          have hLe : L.length ≤ 900 := by omega
          obtain ⟨nL, hnL⟩ : ∃ nL, L.length = nL := ⟨_, rfl⟩
          have HNL := Lib.hid hnL
          have hap : ∀ wX F', Below w.heap.size w wX → (∀ j, F' j → w.heap.size ≤ j) → Given wX F' q.AB q.cB nB q.B := fun wX F' hX hF' => by
            refine ⟨HQB.out, (HA wX hX).1.rB, (HA wX hX).1.sB, hnc, hcm, by omega, fun x hx hn0 hf => ?_⟩
            have hlow := (HA w (Below.refl _ _)).1
            exact absurd (hF' _ hf) (by have := hlow.lowB hx (by rw [HQB.out]; exact hn0); omega)
          have HG := Lib.hid hap
          have i0 : (0 : Int) ≤ (k : Int) := by omega
          have i1 : (k : Int) < (len : Int) := by omega
          have i2 : (k : Int) < 40 := by omega
          have c3 := (HOK.out _ hb).2
          have s1 : IntKind.i64.wrap ((nL : Int) + 1) = (nL : Int) + 1 := IntWalk.i64_in _ (by omega)
          clear HA hq hqB hap
          go_wp2_with fail
          refine (K.count gb L [] _ HIB.out (by omega)).mono ?_
          rintro e w2 ⟨rfl, d2, rfl⟩
          rw [hnL]
          obtain ⟨w3, hw3⟩ : ∃ w3, w3 = wr.drewN d2 := ⟨_, rfl⟩
          have hI3 : I w3 gb F L [] := by rw [hw3]; exact K.drewN HIB.out d2
          have hb3 : Below w.heap.size w w3 := by rw [hw3]; exact below_n hb d2
          rw [← hw3]
          clear hw3 c3
          have c3 := (HOK.out _ hb3).2
          cases hf : findB L q.B with
          | zero =>
            have HF0 := Lib.hid hf
            go_wp2_with fail
            refine (K.find_no gb L [] _ _ nB q.B _ hI3 (HG.out _ _ hb3 HFB.out) (by omega) HF0.out).mono ?_
            rintro e w4 ⟨rfl, F4, hI4, ht4, hf4⟩
            have hb4 : Below w.heap.size w w4 := hb3.trans (ht4.below HFB.out hb3.size)
            have hF4 : ∀ j, F4 j → w.heap.size ≤ j := fun j hj => by rcases hf4 j hj with h | h; exact HFB.out j h; have := hb3.size; omega
            clear c3
            have c3 := (HOK.out _ hb4).2
            go_wp2_with fail
            refine (K.digest_new gb L [] _ _ nB q.B _ hI4 (HG.out _ _ hb4 hF4) (by omega) HF0.out).mono ?_
            rintro e w5 ⟨rfl, F5, hI5, ht5, hf5⟩
            have hb5 : Below w.heap.size w w5 := hb4.trans (ht5.below hF4 hb4.size)
            have hF5 : ∀ j, F5 j → w.heap.size ≤ j := fun j hj => by rcases hf5 j hj with h | h; exact hF4 j h; have := hb4.size; omega
            have HF2 := Lib.hid (find_new hf)
            have HS2 : Hid (∀ (j : Nat) (p : ActD), j < k + 1 → Q[j]? = some p → ∃ m, findB (L ++ [q.B]) p.B = m + 1) := fun j p hj hp => by
              by_cases hjk : j = k
              · subst hjk
                have := HQK.out
                rw [hp] at this
                cases this
                exact ⟨_, find_new hf⟩
              · obtain ⟨m, hm⟩ := HSEEN.out j p (by omega) hp
                exact ⟨m, find_app hm⟩
            have hL2 : (L ++ [q.B]).length = nL + 1 := by simp [hnL]
            rw [hnL] at HF2
            rw [hnL]
            obtain ⟨L2, hLL⟩ : ∃ L2, L ++ [q.B] = L2 := ⟨_, rfl⟩
            rw [hLL] at hI5 HF2 HS2 hL2
            have HL2 := Lib.hid hL2
            have hL2e : L2.length ≤ 1000 := by omega
            have hLk2 : L2.length ≤ k + 1 := by omega
            clear hLL hL2 hf c3 hnL ht4 ht5
            go_wp2_with fail
            refine (num5_any _ _).mono ?_
            rintro e w' ⟨rfl, rfl⟩
            go_wp2_with fail
            refine (num5_any _ _).mono ?_
            rintro e w' ⟨rfl, rfl⟩
            go_wp2_with fail
            refine (num5_any _ _).mono ?_
            rintro e w' ⟨rfl, rfl⟩
            go_wp2_with fail
            refine (K.count gb L2 [] _ hI5 hL2e).mono ?_
            rintro e w6 ⟨rfl, d6, rfl⟩
            rw [HL2.out]
            obtain ⟨w7, hw7⟩ : ∃ w7, w7 = w5.drewN d6 := ⟨_, rfl⟩
            have hI7 : I w7 gb F5 L2 [] := by rw [hw7]; exact K.drewN hI5 d6
            have hb7 : Below w.heap.size w w7 := by rw [hw7]; exact below_n hb5 d6
            rw [← hw7]
            clear hw7 hI5 hb5
            go_wp2_with fail
            refine (K.bytes_yes gb L2 [] nL nB q.B _ hI7 (find_some HF2.out) HQB.out hL2e).mono ?_
            rintro e w8 ⟨g8, c8, rfl, hW8, hg8, F8, hI8, ht8, hf8, hn8a⟩
            obtain ⟨A8, hA8⟩ : ∃ A : Option Addr, A = some ⟨g8, 0, none⟩ := ⟨_, rfl⟩
            rw [← hA8]
            have hc8 := hW8.hc
            have hm8 := hW8.hm
            have hr8 : Rd w8 A8 (u8s q.B) := by rw [hA8]; exact hW8.rd
            have hn8 : ∀ k, (Value.slice A8 nB c8).ownBlock = some k → ¬ F8 k := fun k hk => by rw [hA8] at hk; cases hk; exact hn8a
            have hb8 : Below w.heap.size w w8 := hb7.trans (ht8.below hF5 hb7.size)
            have hF8 : ∀ j, F8 j → w.heap.size ≤ j := fun j hj => by rcases hf8 j hj with h | h; exact hF5 j h; have := hb7.size; omega
            have hG8 : Given w8 F8 A8 c8 nB q.B := ⟨HQB.out, hr8, (HOK.out _ hb8).1.sB, hc8, hm8, by omega, fun x hx _ hf => hn8 x.block (by rw [hx]; rfl) hf⟩
            have ho8c : ∀ x, A8 = some x → x.block < w8.heap.size ∧ w7.heap.size ≤ x.block := fun x hx => by rw [hA8] at hx; cases hx; exact ⟨hW8.lt, hg8⟩
            have HO8 := Lib.hid ho8c
            have HN8 := Lib.hid hn8
            clear hA8 hW8 hg8 hn8a ht8 ho8c hn8
            go_wp2_with fail
            refine (K.digest_old gb L2 [] A8 c8 nB nL q.B _ hI8 hG8 hL2e HF2.out).mono ?_
            rintro e w9 ⟨rfl, F9, hI9, ht9, hf9⟩
            have hb9 : Below w.heap.size w w9 := hb8.trans (ht9.below hF8 hb8.size)
            have hF9 : ∀ j, F9 j → w.heap.size ≤ j := fun j hj => by rcases hf9 j hj with h | h; exact hF8 j h; have := hb8.size; omega
            have hr9 : Rd w9 A8 (u8s q.B) := hr8.kept ht9.size fun x hx hl => ht9.block _ hl fun hf => HN8.out x.block (by rw [hx]; rfl) hf
            have hn9 : ∀ x, A8 = some x → ¬ F9 x.block := fun x hx hf => by
              rcases hf9 _ hf with h | h
              · exact HN8.out x.block (by rw [hx]; rfl) h
              · have := (HO8.out x hx).1; omega
            have hs89 := ht9.size
            have hG9 : Given w9 F9 A8 c8 nB q.B := ⟨HQB.out, hr9, (HOK.out _ hb9).1.sB, hc8, hm8, by omega, fun x hx _ hf => hn9 x hx hf⟩
            have HN9 := Lib.hid hn9
            clear ht9 hG8 hr8 hn9
            go_wp2_with fail
            refine (K.find_yes gb L2 [] A8 c8 nB nL q.B _ hI9 hG9 hL2e HF2.out).mono ?_
            rintro e w10 ⟨rfl, F10, hI10, ht10, hf10⟩
            have hb10 : Below w.heap.size w w10 := hb9.trans (ht10.below hF9 hb9.size)
            have hF10 : ∀ j, F10 j → w.heap.size ≤ j := fun j hj => by rcases hf10 j hj with h | h; exact hF9 j h; have := hb9.size; omega
            have hr10 : Rd w10 A8 (u8s q.B) := hr9.kept ht10.size fun x hx hl => ht10.block _ hl fun hf => HN9.out x hx hf
            have c3 := (HOK.out _ hb10).2
            have hrB := (HOK.out _ hb10).1.rB
            clear ht10 hG9 hr9
            go_wp2_with fail
            refine (num5_any _ _).mono ?_
            rintro e w' ⟨rfl, rfl⟩
            go_wp2_with fail
            refine (eqBytes_b true A8 q.AB c8 q.cB nB nB q.B q.B _ (by simp) HQB.out HQB.out hr10 hrB (by omega) (by omega)).mono ?_
            rintro e w11 ⟨rfl, d11, rfl⟩
            obtain ⟨w12, hw12⟩ : ∃ w12, w12 = w10.drewN d11 := ⟨_, rfl⟩
            have hI12 : I w12 gb F10 L2 [] := by rw [hw12]; exact K.drewN hI10 d11
            have hb12 : Below w.heap.size w w12 := by rw [hw12]; exact below_n hb10 d11
            rw [← hw12]
            clear hw12 hI10 hr10 hrB c3
            go_wp2_with fail
            refine (num5_any _ _).mono ?_
            rintro e w' ⟨rfl, rfl⟩
            go_wp2_with fail
            refine (num5_any _ _).mono ?_
            rintro e w' ⟨rfl, rfl⟩
            have HI12 := Lib.hid hI12
            have HF10 := Lib.hid hF10
            clear hI12 hF10 hI7 hI8 hI9
            go_wp2_with fail
            go_loopw [16] (fun i wz => ∃ (j : Nat) (F' : Nat → Prop), i = .int .i64 j ∧ j ≤ k ∧ Hid (I wz gb F' L2 []) ∧ Hid (∀ x, F' x → w.heap.size ≤ x) ∧ Below w.heap.size w wz) (fun i _ => k - (intOf i).toNat)
            case atStart => exact ⟨0, F10, rfl, by omega, HI12.out, HF10.out, hb12⟩
            case round =>
              obtain ⟨j, F', rfl, hj, HIJ, HFJ, hbz⟩ := hrel
              by_cases hjk : j < k
              · obtain ⟨p, hp⟩ : ∃ p, Q[j]? = some p := ⟨Q[j]'(by rw [HQL.out]; omega), by simp⟩
                obtain ⟨b', off', nP, hbb, hpB, hpc, hpm, hpl, HAP⟩ := (HQ.out j p hp).all
                cases hbb
                have hfp : nP ≤ 10000 := HFEW.out j (by omega) (by omega) b off nP _ _ rfl (HAP w (Below.refl _ _)).2.2.2.2
                obtain ⟨m', hm'⟩ := HS2.out j p (by omega) hp
                have HM' := Lib.hid hm'
                have HPB := Lib.hid hpB
                have c3 := (HAP _ hbz).2.2.2.2
                have hGp : Given wr F' p.AB p.cB nP p.B := ⟨HPB.out, (HAP _ hbz).1.rB, (HAP _ hbz).1.sB, hpc, hpm, by omega, fun x hx hn0 hf => absurd (HFJ.out _ hf) (by have := (HAP w (Below.refl _ _)).1.lowB hx (by rw [HPB.out]; exact hn0); omega)⟩
                have j0 : (0 : Int) ≤ (j : Int) := by omega
                have j1 : (j : Int) < (k : Int) := by omega
                have j2 : (j : Int) < (len : Int) := by omega
                have HAP' : Hid (∀ wX, Below w.heap.size w wX → ActOk wX p ∧ wX.cell? ⟨b, off + j * 4 + 3, none⟩ = some (.slice p.AB nP p.cB)) := fun wX h => ⟨(HAP wX h).1, (HAP wX h).2.2.2.2⟩
                clear hp hpB hm' HAP
                go_wp2_with fail
                refine (K.find_yes gb L2 [] p.AB p.cB nP m' p.B _ HIJ.out hGp hL2e HM'.out).mono ?_
                rintro e wf ⟨rfl, Ff, hIf, htf, hff⟩
                have hbf : Below w.heap.size w wf := hbz.trans (htf.below HFJ.out hbz.size)
                have hFf : ∀ x, Ff x → w.heap.size ≤ x := fun x hx => by rcases hff x hx with h | h; exact HFJ.out x h; have := hbz.size; omega
                clear c3 htf hGp
                have c3 := (HAP'.out _ hbf).2
                have c4 := (HOK.out _ hbf).2
                obtain ⟨bb, hbb⟩ : ∃ bb, decide (p.B = q.B) = bb := ⟨_, rfl⟩
                have heqs : ∀ n, Calls Try.prog 14 #[.slice p.AB nP p.cB, .slice q.AB nB q.cB] (wf.drewN n) fun e w' => e = .returned (.bool bb) ∧ ∃ d, w' = (wf.drewN n).drewN d := fun n =>
                  eqBytes_b bb p.AB q.AB p.cB q.cB nP nB p.B q.B _ hbb HPB.out HQB.out ((HAP'.out _ hbf).1.rB.drewN n) ((HOK.out _ hbf).1.rB.drewN n) (by omega) (by omega)
                have hmm : (((m' : Int) + 1) == ((nL : Int) + 1)) = bb := by
                  rw [← hbb]
                  by_cases he : p.B = q.B
                  · have h1 := HM'.out
                    rw [he, HF2.out] at h1
                    have : nL = m' := by omega
                    simp [he]
                    omega
                  · have : nL ≠ m' := fun e => he (by
                      have h1 := find_some HM'.out
                      have h2 := find_some HF2.out
                      rw [e, h1] at h2
                      exact Option.some.inj h2)
                    simp [he]
                    omega
                clear hbb
                go_wp2_with fail
                go_quiet ((first | (go_at_call 12; exact quiet_left (num5_any _ _)) | (go_at_call 14; exact quiet_more (heqs _))))
                have HBF := Lib.hid hbf
                have HIF := Lib.hid hIf
                clear heqs hmm c3 c4 hbf hIf
                cases bb
                all_goals
                  go_wp2_with fail
                  go_roundw
                  case rel => exact ⟨j + 1, Ff, by go_num, by omega, K.drewN HIF.out _, hFf, below_n HBF.out _⟩
                  case measure => simp [intOf]; omega
              · have j1 : ¬ ((j : Int) < (k : Int)) := by omega
                go_wp2_with fail
                go_roundw
                case rel => exact ⟨k + 1, L2, F', by go_num, by omega, by omega, hLk2, HS2.out, HIJ.out, HFJ.out, hbz⟩
                case measure => simp [intOf]; omega
          | succ m =>
            have HF2 := Lib.hid hf
            have HS2 : Hid (∀ (j : Nat) (p : ActD), j < k + 1 → Q[j]? = some p → ∃ m, findB L p.B = m + 1) := fun j p hj hp => by
              by_cases hjk : j = k
              · subst hjk
                have := HQK.out
                rw [hp] at this
                cases this
                exact ⟨_, hf⟩
              · exact HSEEN.out j p (by omega) hp
            have hL2e : L.length ≤ 1000 := by omega
            have hLk2 : L.length ≤ k + 1 := by omega
            have hml := find_le L q.B
            rw [hf, hnL] at hml
            clear hf hnL
            go_wp2_with fail
            refine (K.find_yes gb L [] _ _ nB m q.B _ hI3 (HG.out _ _ hb3 HFB.out) (by omega) HF2.out).mono ?_
            rintro e w4 ⟨rfl, F4, hI4, ht4, hf4⟩
            have hb4 : Below w.heap.size w w4 := hb3.trans (ht4.below HFB.out hb3.size)
            have hF4 : ∀ j, F4 j → w.heap.size ≤ j := fun j hj => by rcases hf4 j hj with h | h; exact HFB.out j h; have := hb3.size; omega
            clear c3
            have c3 := (HOK.out _ hb4).2
            go_wp2_with fail
            refine (K.digest_old gb L [] _ _ nB m q.B _ hI4 (HG.out _ _ hb4 hF4) (by omega) HF2.out).mono ?_
            rintro e w5 ⟨rfl, F5, hI5, ht5, hf5⟩
            have hb5 : Below w.heap.size w w5 := hb4.trans (ht5.below hF4 hb4.size)
            have hF5 : ∀ j, F5 j → w.heap.size ≤ j := fun j hj => by rcases hf5 j hj with h | h; exact hF4 j h; have := hb4.size; omega
            clear c3 ht4 ht5
            go_wp2_with fail
            refine (num5_any _ _).mono ?_
            rintro e w' ⟨rfl, rfl⟩
            go_wp2_with fail
            refine (num5_any _ _).mono ?_
            rintro e w' ⟨rfl, rfl⟩
            go_wp2_with fail
            refine (K.count gb L [] _ hI5 hL2e).mono ?_
            rintro e w6 ⟨rfl, d6, rfl⟩
            rw [HNL.out]
            go_wp2_with fail
            refine (num5_any _ _).mono ?_
            rintro e w' ⟨rfl, rfl⟩
            obtain ⟨w7, hw7⟩ : ∃ w7, w7 = w5.drewN d6 := ⟨_, rfl⟩
            have hI7 : I w7 gb F5 L [] := by rw [hw7]; exact K.drewN hI5 d6
            have hb7 : Below w.heap.size w w7 := by rw [hw7]; exact below_n hb5 d6
            rw [← hw7]
            clear hw7 hI5 hb5
            go_wp2_with fail
            refine (K.bytes_yes gb L [] m nB q.B _ hI7 (find_some HF2.out) HQB.out hL2e).mono ?_
            rintro e w8 ⟨g8, c8, rfl, hW8, hg8, F8, hI8, ht8, hf8, hn8a⟩
            obtain ⟨A8, hA8⟩ : ∃ A : Option Addr, A = some ⟨g8, 0, none⟩ := ⟨_, rfl⟩
            rw [← hA8]
            have hc8 := hW8.hc
            have hm8 := hW8.hm
            have hr8 : Rd w8 A8 (u8s q.B) := by rw [hA8]; exact hW8.rd
            have hn8 : ∀ k, (Value.slice A8 nB c8).ownBlock = some k → ¬ F8 k := fun k hk => by rw [hA8] at hk; cases hk; exact hn8a
            have hb8 : Below w.heap.size w w8 := hb7.trans (ht8.below hF5 hb7.size)
            have hF8 : ∀ j, F8 j → w.heap.size ≤ j := fun j hj => by rcases hf8 j hj with h | h; exact hF5 j h; have := hb7.size; omega
            have hG8 : Given w8 F8 A8 c8 nB q.B := ⟨HQB.out, hr8, (HOK.out _ hb8).1.sB, hc8, hm8, by omega, fun x hx _ hf => hn8 x.block (by rw [hx]; rfl) hf⟩
            have ho8c : ∀ x, A8 = some x → x.block < w8.heap.size ∧ w7.heap.size ≤ x.block := fun x hx => by rw [hA8] at hx; cases hx; exact ⟨hW8.lt, hg8⟩
            have HO8 := Lib.hid ho8c
            have HN8 := Lib.hid hn8
            clear hA8 hW8 hg8 hn8a ht8 ho8c hn8
            go_wp2_with fail
            refine (K.digest_old gb L [] A8 c8 nB m q.B _ hI8 hG8 hL2e HF2.out).mono ?_
            rintro e w9 ⟨rfl, F9, hI9, ht9, hf9⟩
            have hb9 : Below w.heap.size w w9 := hb8.trans (ht9.below hF8 hb8.size)
            have hF9 : ∀ j, F9 j → w.heap.size ≤ j := fun j hj => by rcases hf9 j hj with h | h; exact hF8 j h; have := hb8.size; omega
            have hr9 : Rd w9 A8 (u8s q.B) := hr8.kept ht9.size fun x hx hl => ht9.block _ hl fun hf => HN8.out x.block (by rw [hx]; rfl) hf
            have hn9 : ∀ x, A8 = some x → ¬ F9 x.block := fun x hx hf => by
              rcases hf9 _ hf with h | h
              · exact HN8.out x.block (by rw [hx]; rfl) h
              · have := (HO8.out x hx).1; omega
            have hs89 := ht9.size
            have hG9 : Given w9 F9 A8 c8 nB q.B := ⟨HQB.out, hr9, (HOK.out _ hb9).1.sB, hc8, hm8, by omega, fun x hx _ hf => hn9 x hx hf⟩
            have HN9 := Lib.hid hn9
            clear ht9 hG8 hr8 hn9
            go_wp2_with fail
            refine (K.find_yes gb L [] A8 c8 nB m q.B _ hI9 hG9 hL2e HF2.out).mono ?_
            rintro e w10 ⟨rfl, F10, hI10, ht10, hf10⟩
            have hb10 : Below w.heap.size w w10 := hb9.trans (ht10.below hF9 hb9.size)
            have hF10 : ∀ j, F10 j → w.heap.size ≤ j := fun j hj => by rcases hf10 j hj with h | h; exact hF9 j h; have := hb9.size; omega
            have hr10 : Rd w10 A8 (u8s q.B) := hr9.kept ht10.size fun x hx hl => ht10.block _ hl fun hf => HN9.out x hx hf
            have c3 := (HOK.out _ hb10).2
            have hrB := (HOK.out _ hb10).1.rB
            clear ht10 hG9 hr9
            go_wp2_with fail
            refine (num5_any _ _).mono ?_
            rintro e w' ⟨rfl, rfl⟩
            go_wp2_with fail
            refine (eqBytes_b true A8 q.AB c8 q.cB nB nB q.B q.B _ (by simp) HQB.out HQB.out hr10 hrB (by omega) (by omega)).mono ?_
            rintro e w11 ⟨rfl, d11, rfl⟩
            obtain ⟨w12, hw12⟩ : ∃ w12, w12 = w10.drewN d11 := ⟨_, rfl⟩
            have hI12 : I w12 gb F10 L [] := by rw [hw12]; exact K.drewN hI10 d11
            have hb12 : Below w.heap.size w w12 := by rw [hw12]; exact below_n hb10 d11
            rw [← hw12]
            clear hw12 hI10 hr10 hrB c3
            go_wp2_with fail
            refine (num5_any _ _).mono ?_
            rintro e w' ⟨rfl, rfl⟩
            go_wp2_with fail
            refine (num5_any _ _).mono ?_
            rintro e w' ⟨rfl, rfl⟩
            have HI12 := Lib.hid hI12
            have HF10 := Lib.hid hF10
            clear hI12 hF10 hI7 hI8 hI9
            go_wp2_with fail
            go_loopw [16] (fun i wz => ∃ (j : Nat) (F' : Nat → Prop), i = .int .i64 j ∧ j ≤ k ∧ Hid (I wz gb F' L []) ∧ Hid (∀ x, F' x → w.heap.size ≤ x) ∧ Below w.heap.size w wz) (fun i _ => k - (intOf i).toNat)
            case atStart => exact ⟨0, F10, rfl, by omega, HI12.out, HF10.out, hb12⟩
            case round =>
              obtain ⟨j, F', rfl, hj, HIJ, HFJ, hbz⟩ := hrel
              by_cases hjk : j < k
              · obtain ⟨p, hp⟩ : ∃ p, Q[j]? = some p := ⟨Q[j]'(by rw [HQL.out]; omega), by simp⟩
                obtain ⟨b', off', nP, hbb, hpB, hpc, hpm, hpl, HAP⟩ := (HQ.out j p hp).all
                cases hbb
                have hfp : nP ≤ 10000 := HFEW.out j (by omega) (by omega) b off nP _ _ rfl (HAP w (Below.refl _ _)).2.2.2.2
                obtain ⟨m', hm'⟩ := HS2.out j p (by omega) hp
                have HM' := Lib.hid hm'
                have HPB := Lib.hid hpB
                have c3 := (HAP _ hbz).2.2.2.2
                have hGp : Given wr F' p.AB p.cB nP p.B := ⟨HPB.out, (HAP _ hbz).1.rB, (HAP _ hbz).1.sB, hpc, hpm, by omega, fun x hx hn0 hf => absurd (HFJ.out _ hf) (by have := (HAP w (Below.refl _ _)).1.lowB hx (by rw [HPB.out]; exact hn0); omega)⟩
                have j0 : (0 : Int) ≤ (j : Int) := by omega
                have j1 : (j : Int) < (k : Int) := by omega
                have j2 : (j : Int) < (len : Int) := by omega
                have HAP' : Hid (∀ wX, Below w.heap.size w wX → ActOk wX p ∧ wX.cell? ⟨b, off + j * 4 + 3, none⟩ = some (.slice p.AB nP p.cB)) := fun wX h => ⟨(HAP wX h).1, (HAP wX h).2.2.2.2⟩
                clear hp hpB hm' HAP
                go_wp2_with fail
                refine (K.find_yes gb L [] p.AB p.cB nP m' p.B _ HIJ.out hGp hL2e HM'.out).mono ?_
                rintro e wf ⟨rfl, Ff, hIf, htf, hff⟩
                have hbf : Below w.heap.size w wf := hbz.trans (htf.below HFJ.out hbz.size)
                have hFf : ∀ x, Ff x → w.heap.size ≤ x := fun x hx => by rcases hff x hx with h | h; exact HFJ.out x h; have := hbz.size; omega
                clear c3 htf hGp
                have c3 := (HAP'.out _ hbf).2
                have c4 := (HOK.out _ hbf).2
                obtain ⟨bb, hbb⟩ : ∃ bb, decide (p.B = q.B) = bb := ⟨_, rfl⟩
                have heqs : ∀ n, Calls Try.prog 14 #[.slice p.AB nP p.cB, .slice q.AB nB q.cB] (wf.drewN n) fun e w' => e = .returned (.bool bb) ∧ ∃ d, w' = (wf.drewN n).drewN d := fun n =>
                  eqBytes_b bb p.AB q.AB p.cB q.cB nP nB p.B q.B _ hbb HPB.out HQB.out ((HAP'.out _ hbf).1.rB.drewN n) ((HOK.out _ hbf).1.rB.drewN n) (by omega) (by omega)
                have hmm : (((m' : Int) + 1) == ((m : Int) + 1)) = bb := by
                  rw [← hbb]
                  by_cases he : p.B = q.B
                  · have h1 := HM'.out
                    rw [he, HF2.out] at h1
                    have : m = m' := by omega
                    simp [he]
                    omega
                  · have : m ≠ m' := fun e => he (by
                      have h1 := find_some HM'.out
                      have h2 := find_some HF2.out
                      rw [e, h1] at h2
                      exact Option.some.inj h2)
                    simp [he]
                    omega
                clear hbb
                go_wp2_with fail
                go_quiet ((first | (go_at_call 12; exact quiet_left (num5_any _ _)) | (go_at_call 14; exact quiet_more (heqs _))))
                have HBF := Lib.hid hbf
                have HIF := Lib.hid hIf
                clear heqs hmm c3 c4 hbf hIf
                cases bb
                all_goals
                  go_wp2_with fail
                  go_roundw
                  case rel => exact ⟨j + 1, Ff, by go_num, by omega, K.drewN HIF.out _, hFf, below_n HBF.out _⟩
                  case measure => simp [intOf]; omega
              · have j1 : ¬ ((j : Int) < (k : Int)) := by omega
                go_wp2_with fail
                go_roundw
                case rel => exact ⟨k + 1, L, F', by go_num, by omega, by omega, hLk2, HS2.out, HIJ.out, HFJ.out, hbz⟩
                case measure => simp [intOf]; omega
        · have i1 : (k : Int) < (len : Int) := by omega
          have i2 : ¬ ((k : Int) < 40) := by omega
          go_wp2_with fail
          refine (wakes5_any K _).mono ?_
          rintro e w' ⟨rfl, hbw⟩
          go_wp2_with fail
          go_ret
          exact ⟨rfl, hb.trans (hbw.mono hb.size)⟩
      · have i1 : ¬ ((k : Int) < (len : Int)) := by omega
        go_wp2_with fail
        refine (wakes5_any K _).mono ?_
        rintro e w' ⟨rfl, hbw⟩
        go_wp2_with fail
        go_ret
        exact ⟨rfl, hb.trans (hbw.mono hb.size)⟩

end Go.Proofs.Ytnooippbdfobdaa
