/-
  A store tells just what was put and dropped; synced and opened anew it is the same: the walk.
-/
import Derived.Test.YtaccmjgnggepjaaKHeavy
import Derived.Test.YtaccmjgnggepjaaKNext
namespace Go.Proofs.Ytaccmjgnggepjaa
open Go.RowKit

theorem nextK_good {l : List PP} {m : Nat} {a : ActW} (h : GoodP l) (hz : sizeP l ≤ 200000) : GoodP (nextK l m a).1 ∧ sizeP (nextK l m a).1 ≤ sizeP l + 4096 := by
  unfold nextK
  split
  · split
    · rename_i h0
      have hh : hasP l a.S = true := by
        unfold dropE at h0
        split at h0
        · cases h0
        · split at h0
          · cases h0
          · rename_i h; simpa using h
      obtain ⟨u, hu⟩ := hasP_at hh
      have e : delP l a.S = l.take (posP l a.S) ++ l.drop (posP l a.S + 1) := by rw [delP, if_pos hh]
      have h2 := (delP_yes hh hu).2
      have h3 := delP_good (k := a.S) h
      rw [e] at h2 h3
      exact ⟨h3, by show sizeP (l.take (posP l a.S) ++ l.drop (posP l a.S + 1)) ≤ _; omega⟩
    · exact ⟨h, by show sizeP l ≤ _; omega⟩
  · split
    · exact ⟨h, by show sizeP l ≤ _; omega⟩
    · split
      · exact ⟨h, by show sizeP l ≤ _; omega⟩
      · rename_i hok
        have hok2 : OkP (a.S, a.V) := by unfold OkP; simp only [Decidable.not_not] at hok; exact hok
        have hs : sizeP (setP l a.S a.V) ≤ sizeP l + 4096 := by
          have h3 := hok2.2.2
          simp only at h3
          cases hh : hasP l a.S with
          | false => have := (setP_no (v := a.V) hh).2; omega
          | true =>
            obtain ⟨u, hu⟩ := hasP_at hh
            have := (setP_yes (v := a.V) hh hu).2
            omega
        exact ⟨setP_good h (checkP_of (k := a.S) (v := a.V) hok2 (by omega)), hs⟩
/-- the store and the row beside it, at the head of a round -/
def ModelO {K : LogK} (hP : LogP K) (w1 : World) (gk gd : Nat) (A : Option Addr) (n c k : Nat) (w : World) : Prop :=
  ∃ (F : Nat → Prop) (cc : Nat) (l : List PP), LiveF hP F gk gd cc l w ∧ cc ≤ 100 + k * 100 ∧ PrIn w A n c l ∧ (A = none → c = 0) ∧ (∀ a, A = some a → 0 < n → ¬ F a.block) ∧ GoodP l ∧ sizeP l ≤ k * 4096 ∧ (∀ k, F k → w1.heap.size ≤ k) ∧ Below w1.heap.size w1 w
/-- a row stands, whatever the store does -/
theorem PrIn.touch {w w' : World} {F : Nat → Prop} {A : Option Addr} {n c : Nat} {l : List PP} (h : PrIn w A n c l) (hf : ∀ a, A = some a → 0 < n → ¬ F a.block) (ht : Touch F w w') : PrIn w' A n c l := by
  refine ⟨h.hz, ?_, h.hc, h.hm⟩
  rcases Nat.eq_zero_or_pos n with h0 | h0
  · have : l = [] := List.eq_nil_of_length_eq_zero (by rw [h.hz]; exact h0)
    subst this
    exact Rd.nil _ _
  · exact h.rd.kept ht.size fun a ha hl => ht.block _ hl (hf a ha h0)
theorem far_new {w : World} {F F' : Nat → Prop} {A : Option Addr} {n c : Nat} {l : List PP} (h : PrIn w A n c l) (hf : ∀ a, A = some a → 0 < n → ¬ F a.block) (hF : ∀ k, F' k → F k ∨ w.heap.size ≤ k) : ∀ a, A = some a → 0 < n → ¬ F' a.block := fun a ha h0 hx => by
  rcases hF _ hx with h' | h'
  · exact hf a ha h0 h'
  · obtain ⟨b, off, e, hb, _⟩ := h.open_ h0
    rw [e] at ha
    cases ha
    exact absurd hb (Nat.not_lt.2 h')

set_option maxRecDepth 100000 in
set_option maxHeartbeats 8000000 in
theorem keepModel_walk {K : LogK} (hK : LogC K) (hE : LogE K) (hP : LogP K) (s : ScrW) (w : World) (h : ScrWIn w s) : Calls Try.prog 3 #[scrVW s] w (Tells w.heap.size w (.bool true)) := by
  obtain ⟨w1, hw1⟩ : ∃ w1, w1 = w.alloc (.cells #[.slice s.AL s.nL s.cL, .slice s.AO s.nO s.cO] 25) := ⟨_, rfl⟩
  have hb1 : Below w.heap.size w w1 := by rw [hw1]; exact (Below.refl _ _).alloc (Nat.le_refl _) _
  have bx1 : Box w1 w.heap.size (scrCW s) := by rw [hw1]; exact box_new w (scrCW s) 25
  have HW := Lib.hid hw1
  have HX := Lib.hid bx1
  have HI : Hid (∀ wX, Below w1.heap.size w1 wX → ScrWIn wX s) := fun wX hX => h.below (hb1.trans (hX.mono hb1.size))
  have HI1 := Lib.hid (h.below hb1)
  obtain ⟨nL, hnL⟩ : ∃ nL, s.nL = nL := ⟨_, rfl⟩
  have HNL := Lib.hid hnL
  have HC0 : Hid (∀ wX, Below w1.heap.size w1 wX → wX.cell? ⟨w.heap.size, 0, none⟩ = some (.slice s.AL nL s.cL)) := fun wX h => by rw [← hnL]; exact (bx1.below h bx1.1).2 0 _ rfl
  have fin : ∀ wX, Below w1.heap.size w1 wX → Calls Try.prog 17 #[] wX (Tells w.heap.size w (.bool true)) := fun wX hX => (wakesK_any hK hE hP wX).mono fun e w' hh => ⟨hh.1, hb1.trans ((hX.trans (hh.2.mono hX.size)).mono hb1.size)⟩
  have HFIN := Lib.hid fin
  clear hw1 bx1 h hnL fin
  unfold scrVW
  go_enter Try.func3, Try.ntmps3
  go_upto_region 1 with fail
  rw [← HW.out]
  go_wp2_with (refine wpList_load_box rfl 25 _ rfl w.heap.size rfl (scrCW s) HX.out _ Try.underlying25 rfl size_scrW ?_)
  refine (heavy11_any s _ HI1.out).mono ?_
  rintro e w2 ⟨b, rfl, hb2⟩
  cases b with
  | true =>
    go_wp2_with fail
    go_ret
    exact ⟨rfl, hb1.trans (hb2.mono hb1.size)⟩
  | false =>
    go_wp2_with fail
    refine (diskG_any _).mono ?_
    rintro e w3 ⟨gd, rfl, hd3, hb3⟩
    obtain ⟨_, F3, hi3, hn3⟩ := hd3
    have HI3 := Lib.hid hi3
    have z2 := hb2.size
    have HF3 : Hid (∀ k, F3 k → w1.heap.size ≤ k) := fun k hk => by have := hn3 k hk; omega
    have HB3 := Lib.hid (hb2.trans (hb3.mono z2))
    clear hi3 hn3 hb3
    go_wp2_with fail
    refine (livef_open (hP := hP) hK hE HI3.out (ready_new hP) rfl).mono ?_
    rintro e w4 ⟨gk, F4, rfl, hl4, ht4, hF4⟩
    have HMO : Hid (ModelO hP w1 gk gd none 0 0 0 w4) := by
      refine ⟨F4, 4, [], hl4, by omega, ⟨rfl, Rd.nil _ _, by omega, by simp [maxLen]⟩, fun _ => rfl, fun a ha => (by cases ha), goodP_nil, (by decide), fun k hk => ?_, HB3.out.trans (ht4.below HF3.out HB3.out.size)⟩
      rcases hF4 k hk with h | h
      · exact HF3.out k h
      · exact Nat.le_trans HB3.out.size h
    clear hl4 ht4 hF4
    go_wp2_with fail
    refine (num11_any _ _).mono ?_
    rintro e w' ⟨rfl, rfl⟩
    go_wp2_with fail
    go_loopw [3, 4, 6, 7] (fun d kp r i wr => ∃ (k gd gk : Nat) (Ar : Option Addr) (nr cr : Nat), i = .int .i64 k ∧ d = .pointer (some ⟨gd, 0, none⟩) ∧ kp = .pointer (some ⟨gk, 0, none⟩) ∧ r = .slice Ar nr cr ∧ k ≤ 24 ∧ Hid (ModelO hP w1 gk gd Ar nr cr k wr)) (fun _ _ _ i _ => 24 - (intOf i).toNat)
    case atStart => exact ⟨0, gd, gk, none, 0, 0, rfl, rfl, rfl, rfl, by omega, HMO.out⟩
    case round =>
      obtain ⟨k, gd, gk, Ar, nr, cr, rfl, rfl, rfl, rfl, hk24, HMO⟩ := hrel
      obtain ⟨F, cc, l, hl, hcc, hpr, hnil, hfar, hgood, hsz, hFB, hb⟩ := HMO.out
      have c0 := HC0.out _ hb
      have i0 : (0 : Int) ≤ (k : Int) := by omega
      by_cases hgo : k < nL ∧ k < 24
      · obtain ⟨hlt, h24⟩ := hgo
        have i1 : (k : Int) < (nL : Int) := by omega
        have i2 : (k : Int) < 24 := by omega
        obtain ⟨bl, off, a, hAL, hbl, hx, hmem, hrg⟩ := (HI.out _ hb).at_ (k := k) (by rw [HNL.out]; exact hlt)
        rw [hAL] at c0
        obtain ⟨nK, hnK⟩ : ∃ nK, a.nK = nK := ⟨_, rfl⟩
        have hrg2 : wr.rangeAt bl (off + k * 4) [.int .i64 a.Do, .string a.S, .string a.V, .slice a.AK nK a.cK] := by rw [← hnK]; exact hrg
        have HRG := Lib.hid hrg2
        have HA : Hid (∀ wX, Below w1.heap.size w1 wX → ActWIn wX a) := fun wX hX => (HI.out wX hX).act a hmem
        have hain := HA.out _ hb
        obtain ⟨m, hm8, hwv⟩ := within_val a.Do 8 (by decide) (by decide)
        have HNK := Lib.hid hnK
        have HWV := Lib.hid hwv
        obtain ⟨w2', hw2⟩ : ∃ w2', w2' = wr.alloc (.cells #[.int .i64 a.Do, .string a.S, .string a.V, .slice a.AK nK a.cK] 36) := ⟨_, rfl⟩
        have hbA : Below wr.heap.size wr w2' := by rw [hw2]; exact (Below.refl _ _).alloc (Nat.le_refl _) _
        have bxA : Box w2' wr.heap.size [.int .i64 a.Do, .string a.S, .string a.V, .slice a.AK nK a.cK] := by rw [hw2]; exact box_new wr [.int .i64 a.Do, .string a.S, .string a.V, .slice a.AK nK a.cK] 36
        have HW2 := Lib.hid hw2
        have HBA := Lib.hid bxA
        have hlen := hgood.len
        rw [hpr.hz] at hlen
        have hszl : sizeP l ≤ 200000 := by omega
        obtain ⟨hgd2, hsz2⟩ := nextK_good (m := m) (a := a) hgood hszl
        have HNX := Lib.hid (nextK_is a nK m Ar cr nr l w2' hnK hwv hm8 hain.sS hain.sV (hpr.below hbA) hnil (by omega))
        have HL2 := Lib.hid (hl.below hK hbA)
        have HPR2 := Lib.hid (hpr.below hbA)
        have HFAR := Lib.hid hfar
        have HGA : Hid (¬ F wr.heap.size) := fun hf => by have := hl.lt _ hf; omega
        have HFB := Lib.hid hFB
        have HFLT := Lib.hid HL2.out.lt
        have hb12 : Below w1.heap.size w1 w2' := hb.trans (hbA.mono hb.size)
        have HB12 := Lib.hid hb12
        obtain ⟨R, hR⟩ : ∃ R, nextK l m a = R := ⟨_, rfl⟩
        rw [hR] at hgd2 hsz2 HNX
        have HDO : Hid (∀ wX, LiveF hP F gk gd cc l wX → Calls Try.prog 11 #[.pointer (some ⟨gk, 0, none⟩), .agg #[.int .i64 a.Do, .string a.S, .string a.V, .slice a.AK nK a.cK]] wX fun e w' => e = .returned (.int .i64 R.2) ∧ DoesK hP F gk gd (cc + 8) m R.1 wX w') := fun wX hX => by
          rw [← hR]
          exact doesK_is hK hE a nK m wX hX (by omega) hwv hm8 hain.sV hszl
        have HGD2 := Lib.hid hgd2
        obtain ⟨nR, hnR⟩ : ∃ nR, R.1.length = nR := ⟨_, rfl⟩
        have HNR := Lib.hid hnR
        have hnRm : nR ≤ 4096 := by rw [← hnR]; exact hgd2.len
        have hszR : sizeP R.1 ≤ (k + 1) * 4096 := by omega
        have HSZR := Lib.hid hszR
        have HLZ : Hid (R.1 = l → nr = nR) := fun e => by rw [← hpr.hz, ← hnR, e]
        clear hAL hmem hrg hrg2 hx hnK hwv hw2 hbA bxA hl hpr hnil hfar hgood hsz hFB hb hain hlen hszl hgd2 hsz2 hR hnR hb12 hszR HMO
        go_wp2_with (first | (refine wpList_load_mid rfl 36 _ rfl bl (off + k * 4) rfl [.int .i64 a.Do, .string a.S, .string a.V, .slice a.AK nK a.cK] _ HRG.out Try.underlying36 rfl size_actW ?_))
        rw [← HW2.out]
        refine HNX.out.mono ?_
        rintro e w3 ⟨A3, c3, rfl, hc3, hm3, hr3, hn3, hb3, hor⟩
        rw [HNR.out] at hc3 ⊢
        have HPR3 : Hid (PrIn w3 A3 nR c3 R.1) := ⟨HNR.out, hr3, hc3, hm3⟩
        have HN3 := Lib.hid hn3
        have HFAR3 : Hid (∀ b, A3 = some b → 0 < nR → ¬ F b.block) := fun b hbb h0 hf => by
          rcases hor with ⟨e, e'⟩ | e
          · subst e
            exact HFAR.out b hbb (by rw [HLZ.out e']; exact h0) hf
          · have h1 := e b hbb
            have h2 := HFLT.out _ hf
            omega
        have HL3 := Lib.hid (HL2.out.below hK hb3)
        have HB13 := Lib.hid (HB12.out.trans (hb3.mono HB12.out.size))
        have bx3 := HBA.out.below hb3 HBA.out.1
        have HBX3 := Lib.hid bx3
        have HDO3 := Lib.hid (HDO.out w3 HL3.out)
        clear hr3 hb3 hor bx3 c0 hc3 hm3 hn3
        go_wp2_with (first | (refine wpList_load_box rfl 36 _ rfl wr.heap.size rfl [.int .i64 a.Do, .string a.S, .string a.V, .slice a.AK nK a.cK] HBX3.out _ Try.underlying36 rfl size_actW ?_))
        refine HDO3.out.mono ?_
        rintro e w4 ⟨rfl, F4', hl4, hlast, ht4, hF4'⟩
        have HL4 := Lib.hid hl4
        have HLAST := Lib.hid hlast
        have HPR4 := Lib.hid (HPR3.out.touch HFAR3.out ht4)
        have HFAR4 := Lib.hid (far_new HPR3.out HFAR3.out hF4')
        have HB14 := Lib.hid (HB13.out.trans (ht4.below HFB.out HB13.out.size))
        have bx4 := box_touchG HBX3.out ht4 HGA.out
        have HBX4 : Hid (∀ wX, Below w4.heap.size w4 wX → wX.cell? ⟨wr.heap.size, 0, none⟩ = some (.int .i64 a.Do) ∧ wX.cell? ⟨wr.heap.size, 1, none⟩ = some (.string a.S) ∧ wX.cell? ⟨wr.heap.size, 3, none⟩ = some (.slice a.AK nK a.cK)) := fun wX hX => ⟨(bx4.below hX bx4.1).2 0 _ rfl, (bx4.below hX bx4.1).2 1 _ rfl, (bx4.below hX bx4.1).2 3 _ rfl⟩
        have HF4 : Hid (∀ k, F4' k → w1.heap.size ≤ k) := fun k hk => by
          rcases hF4' k hk with h | h
          · exact HFB.out k h
          · exact Nat.le_trans HB13.out.size h
        obtain ⟨_, k1, _⟩ := HBX4.out w4 (Below.refl _ _)
        have hfnd := find11_any A3 c3 nR R.1 a.S w4 HPR4.out (by omega)
        obtain ⟨th, hth⟩ : ∃ th, hasP R.1 a.S = th := ⟨_, rfl⟩
        obtain ⟨pp, hpp⟩ : ∃ pp, posP R.1 a.S = pp := ⟨_, rfl⟩
        obtain ⟨gv, gx, hgp⟩ : ∃ gv gx, getP R.1 a.S = (gv, gx) := ⟨_, _, rfl⟩
        rw [hth, hpp] at hfnd
        have HFND := Lib.hid hfnd
        have HGP := Lib.hid hgp
        have hgt : th = true → gx = 0 := fun e => by
          rw [getP, hth, if_pos e] at hgp
          exact (congrArg Prod.snd hgp).symm
        have hgf : th = false → gv = ByteArray.empty ∧ gx = 3 := fun e => by
          rw [getP, hth, e, if_neg (by decide)] at hgp
          exact ⟨(congrArg Prod.fst hgp).symm, (congrArg Prod.snd hgp).symm⟩
        have HSAME : Hid (∀ wX, Below w4.heap.size w4 wX → Calls Try.prog 14 #[.pointer (some ⟨gk, 0, none⟩), .slice A3 nR c3] wX fun e w' => e = .returned (.bool true) ∧ Below wX.heap.size wX w') := fun wX hX => same11_any hK A3 nR c3 wX (HL4.out.below hK hX).live (HPR4.out.below hX) (by omega)
        have HGT := Lib.hid hgt
        have HGF := Lib.hid hgf
        clear hfnd hth hpp hgp hgt hgf
        clear hl4 hlast ht4 hF4' bx4
        go_wp2_with fail
        refine HFND.out.mono ?_
        rintro e w5 ⟨rfl, d5, hw5⟩
        have hb45 : Below w4.heap.size w4 w5 := by rw [hw5]; exact below_n (Below.refl _ _) d5
        obtain ⟨_, k1, _⟩ := HBX4.out w5 hb45
        have HL5 := Lib.hid (HL4.out.below hK hb45)
        have HB45 := Lib.hid hb45
        clear hw5 hb45
        go_wp2_with fail
        refine (live_get hK a.S HL5.out.live).mono ?_
        rintro e w6 ⟨he, hb6⟩
        rw [HGP.out] at he
        subst he
        have HB46 := Lib.hid (HB45.out.trans (hb6.mono HB45.out.size))
        clear hb6
        go_upto_region 18 with fail
        go_cut [96] from 73 to 96 (fun tv wx => tv = .bool false ∧ Below w4.heap.size w4 wx)
        case first =>
          cases th with
          | true =>
            have hg := HGT.out rfl
            subst hg
            go_wp2_with fail
            refine (num11_any _ _).mono ?_
            rintro e w' ⟨rfl, rfl⟩
            go_wp2_with fail
            refine (HSAME.out _ HB46.out).mono ?_
            rintro e w7 ⟨rfl, hb7⟩
            have hb47 := HB46.out.trans (hb7.mono HB46.out.size)
            go_wp2_with fail
            go_meet
            exact ⟨rfl, hb47⟩
          | false =>
            obtain ⟨hg1, hg2⟩ := HGF.out rfl
            subst hg1 hg2
            have j1 : (ByteArray.empty.toList == []) = true := by rw [Lib.toList_data]; rfl
            have j2 : ByteArray.empty.toList = [] := by rw [Lib.toList_data]; rfl
            go_wp2_with fail
            refine (num11_any _ _).mono ?_
            rintro e w' ⟨rfl, rfl⟩
            go_wp2_with fail
            refine (num11_any _ _).mono ?_
            rintro e w' ⟨rfl, rfl⟩
            go_wp2_with fail
            refine (HSAME.out _ HB46.out).mono ?_
            rintro e w7 ⟨rfl, hb7⟩
            have hb47 := HB46.out.trans (hb7.mono HB46.out.size)
            go_wp2_with fail
            go_meet
            exact ⟨rfl, hb47⟩
        case rest =>
        obtain ⟨rfl, hb7⟩ := hcut
        obtain ⟨k0, _, k3⟩ := HBX4.out wc hb7
        clear k1
        have HL7 := Lib.hid (HL4.out.below hK hb7)
        have HPR7 := Lib.hid (HPR4.out.below hb7)
        have HB17 := Lib.hid (HB14.out.trans (hb7.mono HB14.out.size))
        have HLAST7 : Hid (m = 7 → LiveFL hP F4' gk gd (cc + 8) R.1 wc) := fun e => (HLAST.out e).below hK hb7
        clear hb7
        go_wp2_with fail
        refine (within_is a.Do 8 m _ HWV.out (by decide) (by decide)).mono ?_
        rintro e w' ⟨rfl, rfl⟩
        by_cases h7 : m = 7
        · subst h7
          have hAin := HA.out _ HB17.out
          have HAG := Lib.hid (live_again hK a.AK nK a.cK a.ps (HLAST7.out rfl).liveL (hAin.zK.trans HNK.out) hAin.rK (by have := hAin.kK; rw [HNK.out] at this; exact this) hAin.xK hAin.yK)
          clear hAin
          go_wp2_with fail
          refine HAG.out.mono ?_
          rintro e w8 ⟨gd', D8, rfl, hrd8, hc8, hd8, hb8⟩
          obtain ⟨_, F8, hi8, hn8⟩ := hd8
          have HI8 := Lib.hid hi8
          have HRD8 := Lib.hid hrd8
          have HC8 := Lib.hid hc8
          have HF8 : Hid (∀ k, F8 k → wc.heap.size ≤ k) := fun k hk => Nat.not_lt.1 (hn8 k hk)
          have HPR8 := Lib.hid (HPR7.out.below hb8)
          have HFAR8 : Hid (∀ a, A3 = some a → 0 < nR → ¬ F8 a.block) := fun a ha h0 hf => by
            obtain ⟨b, off, e, hb, _⟩ := HPR7.out.open_ h0
            rw [e] at ha
            cases ha
            exact absurd hb (Nat.not_lt.2 (HF8.out _ hf))
          have HB18 := Lib.hid (HB17.out.trans (hb8.mono HB17.out.size))
          have hz8 := hb8.size
          clear hi8 hn8 hb8 k0 k3 hrd8 hc8
          go_wp2_with fail
          refine (livef_open (hP := hP) hK hE HI8.out HRD8.out HC8.out).mono ?_
          rintro e w9 ⟨gk', F9, rfl, hl9, ht9, hF9⟩
          have HL9 := Lib.hid hl9
          have HPR9 := Lib.hid (HPR8.out.touch HFAR8.out ht9)
          have HFAR9 := Lib.hid (far_new HPR8.out HFAR8.out hF9)
          have HB19 := Lib.hid (HB18.out.trans (ht9.below (fun k hk => Nat.le_trans HB17.out.size (HF8.out k hk)) HB18.out.size))
          have HF9 : Hid (∀ k, F9 k → w1.heap.size ≤ k) := fun k hk => by
            rcases hF9 k hk with h | h
            · exact Nat.le_trans HB17.out.size (HF8.out k h)
            · exact Nat.le_trans HB18.out.size h
          have HSM := Lib.hid (same11_any hK A3 nR c3 w9 HL9.out.live HPR9.out (by omega))
          clear hl9 ht9 hF9
          go_wp2_with fail
          refine (num11_any _ _).mono ?_
          rintro e w' ⟨rfl, rfl⟩
          go_wp2_with fail
          refine HSM.out.mono ?_
          rintro e w10 ⟨rfl, hb10⟩
          have HMO2 : Hid (ModelO hP w1 gk' gd' A3 nR c3 (k + 1) w10) := ⟨F9, 4, R.1, HL9.out.below hK hb10, by omega, HPR9.out.below hb10, HN3.out, HFAR9.out, HGD2.out, HSZR.out, HF9.out, HB19.out.trans (hb10.mono HB19.out.size)⟩
          clear hb10
          go_wp2_with fail
          go_roundw
          case rel => exact ⟨k + 1, gd', gk', A3, nR, c3, by go_num, rfl, rfl, rfl, by omega, HMO2.out⟩
          case measure => simp [intOf]; omega
        · have e7 : (((m : Nat) : Int) == 7) = false := by simp; omega
          have e7' : ¬ ((m : Int) = 7) := by omega
          have HMO2 : Hid (ModelO hP w1 gk gd A3 nR c3 (k + 1) wc) := ⟨F4', cc + 8, R.1, HL7.out, by omega, HPR7.out, HN3.out, HFAR4.out, HGD2.out, HSZR.out, HF4.out, HB17.out⟩
          go_wp2_with fail
          go_roundw
          case rel => exact ⟨k + 1, gd, gk, A3, nR, c3, by go_num, rfl, rfl, rfl, by omega, HMO2.out⟩
          case measure => simp [intOf]; omega
      · have hcase : (¬ ((k : Int) < (nL : Int))) ∨ ((k : Int) < (nL : Int) ∧ ¬ ((k : Int) < 24)) := by
          by_cases hlt : k < nL
          · exact .inr ⟨by omega, fun h => hgo ⟨hlt, by omega⟩⟩
          · exact .inl (by omega)
        have HBB := Lib.hid hb
        clear hgo hl hpr hnil hfar hgood hsz hFB hb
        rcases hcase with i1 | ⟨i1, i2⟩
        all_goals
          go_wp2_with fail
          refine (kopenNil_is hK _).mono ?_
          rintro e w9 ⟨rfl, hb9⟩
          have hb19 := HBB.out.trans (hb9.mono HBB.out.size)
          go_wp2_with fail
          refine (num11_any _ _).mono ?_
          rintro e w' ⟨rfl, rfl⟩
          go_wp2_with fail
          refine (HFIN.out _ hb19).mono ?_
          rintro e w10 ⟨rfl, hb10⟩
          go_wp2_with fail
          go_ret
          exact ⟨rfl, hb10⟩

end Go.Proofs.Ytaccmjgnggepjaa
