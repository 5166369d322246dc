/-
  Wherever the power goes, what a log tells then is what it told behind some call: the walk.
-/
import Derived.Test.YtecgagfpckaieaaGCan
import Derived.Test.YtecgagfpckaieaaGZC
import Derived.Test.YtecgagfpckaieaaGZB
import Derived.Deep.CutBlock
namespace Go.Proofs.Ytecgagfpckaieaa
open Go.RowKit

theorem LogC.openN {K : LogK} (hK : LogC K) {gd : Nat} {F : Nat → Prop} {D D' : PD} {w : World} (hd : IsDisk w gd F D) (hc : D.calls ≤ 900000) (ho : K.openL D = (none, 9, D')) :
    Calls Try.prog 8 #[.pointer (some ⟨gd, 0, none⟩)] w fun e w' => e = .returned (.tuple #[.pointer none, .int .i64 9]) ∧ ∃ F' : Nat → Prop, IsDisk w' gd F' D' ∧ Touch F w w' ∧ ∀ k, F' k → F k ∨ w.heap.size ≤ k := by
  refine (hK.open_ hd hc).mono ?_
  rintro e w' ⟨F', ht, hF, ⟨S', gl, h1, h2, h3, h4⟩ | ⟨h1, h2, h3⟩⟩
  · rw [ho] at h1
    cases h1
  · rw [ho] at h2 h3
    exact ⟨h2, F', h3, ht, hF⟩
section
variable {w w' w3 : World} {F F' G : Nat → Prop} {B : Nat} {v v' : Value} {vs : List Value} {C : List (List ByteArray)} {A : Option Addr} {n c : Nat} {l : List ByteArray}
/-- all that came later is apart -/
theorem CanIn.fresh (h : CanIn w F B v vs C) (hb : Below w.heap.size w w') (hF : ∀ k, F' k → w.heap.size ≤ k) : CanIn w' F' B v vs C :=
  (h.less (F' := fun _ => False) (fun _ hk => hk.elim)).touch (Touch.of hb) fun k hk => .inr (hF k hk)
theorem TxtIn.row (h : TxtIn w (fun k => F k ∨ v.ownBlock = some k) A n c l) (hs : w.heap.size ≤ w'.heap.size) (hk : ∀ k, k < w.heap.size → v.ownBlock ≠ some k → w'.heap[k]? = w.heap[k]?) (hv : ∀ k, v'.ownBlock = some k → v.ownBlock = some k ∨ w.heap.size ≤ k) : TxtIn w' (fun k => F k ∨ v'.ownBlock = some k) A n c l := by
  have hlt : ∀ a, A = some a → 0 < n → a.block < w.heap.size := fun a ha h0 => by
    obtain ⟨b, off, e, hbl, _⟩ := h.rd.open_ (by rw [strs_length, h.hz]; exact h0)
    rw [e] at ha
    cases ha
    exact hbl
  refine ⟨h.hz, ?_, h.hc, h.hm, fun a ha h0 hf => ?_⟩
  · rcases Nat.eq_zero_or_pos n with h0 | h0
    · have : l = [] := List.eq_nil_of_length_eq_zero (by rw [h.hz]; exact h0)
      subst this
      exact Rd.nil _ _
    · exact h.rd.kept hs fun a ha hl => hk _ hl fun e => h.far a ha h0 (.inr e)
  · rcases hf with hf | hf
    · exact h.far a ha h0 (.inl hf)
    · rcases hv _ hf with e | e
      · exact h.far a ha h0 (.inr e)
      · have := hlt a ha h0
        omega
end
/-- behind the first opening -/
def StartR (K : LogK) (W : LogW K) (w1 : World) (gd gl : Nat) (F : Nat → Prop) (xe : Int) (pl : Option Addr) (wx : World) : Prop :=
  Below w1.heap.size w1 wx ∧ (∀ k, F k → w1.heap.size ≤ k) ∧ (∀ k, F k → k < wx.heap.size) ∧
    ((xe = 0 ∧ pl = some ⟨gl, 0, none⟩ ∧ ∃ S, K.IsLog wx gl gd F S ∧ W.Run S [[]] ∧ K.recs S = [] ∧ (K.dsk S).calls ≤ 40000) ∨
     (xe = 9 ∧ pl = none ∧ ∃ D, IsDisk wx gd F D ∧ W.Gone D [[]]))
def memC (x : List ByteArray) (C : List (List ByteArray)) : Bool := C.any fun y => decide (y = x)
theorem memC_yes {x : List ByteArray} {C : List (List ByteArray)} (h : x ∈ C) : memC x C = true := by
  rw [memC, List.any_eq_true]
  exact ⟨x, h, decide_eq_true rfl⟩
theorem memC_next {C : List (List ByteArray)} {j : Nat} {x y : List ByteArray} (h : C[j]? = some x) : memC y (C.take (j + 1)) = (memC y (C.take j) || decide (x = y)) := by
  rw [memC, memC, List.take_add_one, h, List.any_append]
  simp

set_option maxRecDepth 100000 in
set_option maxHeartbeats 8000000 in
theorem logCrashes_walk {K : LogK} (hK : LogC K) (hP : LogP K) (W : LogW K) (s : ScrG) (w : World) (h : ScrGIn w s) : Calls Try.prog 4 #[scrVG s] w (Tells w.heap.size w (.bool true)) := by
  obtain ⟨w1, hw1⟩ : ∃ w1, w1 = w.alloc (.cells #[.slice s.AL s.nL s.cL, .slice s.AO s.nO s.cO] 25) := ⟨_, rfl⟩
  have hb1 : Below w.heap.size w w1 := by rw [hw1]; exact (Below.refl _ _).alloc (Nat.le_refl _) _
  have bx1 : Box w1 w.heap.size (scrCG s) := by rw [hw1]; exact box_new w (scrCG s) 25
  have HW := Lib.hid hw1
  have HX := Lib.hid bx1
  have HI : Hid (∀ wX, Below w1.heap.size w1 wX → ScrGIn wX s) := fun wX hX => h.below (hb1.trans (hX.mono hb1.size))
  have HI1 := Lib.hid (h.below hb1)
  obtain ⟨nL, hnL⟩ : ∃ nL, s.nL = nL := ⟨_, rfl⟩
  obtain ⟨nO, hnO⟩ : ∃ nO, s.nO = nO := ⟨_, rfl⟩
  have HNL := Lib.hid hnL
  have HNO := Lib.hid hnO
  have HC0 : Hid (∀ wX, Below w1.heap.size w1 wX → wX.cell? ⟨w.heap.size, 0, none⟩ = some (.slice s.AL nL s.cL)) := fun wX h => by rw [← hnL]; exact (bx1.below h bx1.1).2 0 _ rfl
  have HC1 : Hid (∀ wX, Below w1.heap.size w1 wX → wX.cell? ⟨w.heap.size, 1, none⟩ = some (.slice s.AO nO s.cO)) := fun wX h => by rw [← hnO]; exact (bx1.below h bx1.1).2 1 _ rfl
  have fin : ∀ wX, Below w1.heap.size w1 wX → Calls Try.prog 17 #[] wX (Tells w.heap.size w (.bool true)) := fun wX hX => (wakesG_any hK hP wX).mono fun e w' hh => ⟨hh.1, hb1.trans ((hX.trans (hh.2.mono hX.size)).mono hb1.size)⟩
  have HFIN := Lib.hid fin
  clear hw1 bx1 h hnL hnO fin
  unfold scrVG
  go_enter Try.func4, Try.ntmps4
  go_upto_region 1 with fail
  rw [← HW.out]
  go_wp2_with (refine wpList_load_box rfl 25 _ rfl w.heap.size rfl (scrCG s) HX.out _ Try.underlying25 rfl size_scrG ?_)
  refine (heavyG_any s _ HI1.out).mono ?_
  rintro e w2 ⟨b, rfl, hb2, hlight⟩
  cases b with
  | true =>
    go_wp2_with fail
    go_ret
    exact ⟨rfl, hb1.trans (hb2.mono hb1.size)⟩
  | false =>
  have HLI := Lib.hid (hlight rfl)
  clear hlight
  go_wp2_with fail
  refine (diskG_any _).mono ?_
  rintro e w3 ⟨gd, rfl, hd3, hb3⟩
  have z2 := hb2.size
  have hd3' := hd3.less (G' := fun k => k < w1.heap.size) fun k hk => Nat.lt_of_lt_of_le hk z2
  have HD3 := Lib.hid hd3'
  have HB3 := Lib.hid (hb2.trans (hb3.mono z2))
  have c1 := HC1.out _ HB3.out
  clear hd3 hd3' hb3 hb2 z2
  go_upto_if 28 with fail
  go_cut [3] from 28 to 36 (fun dv wx => ∃ (D0 : PD) (F0 : Nat → Prop), dv = .pointer (some ⟨gd, 0, none⟩) ∧ Hid (D0 = dNew [] ∨ ∃ n : Int, 1 ≤ n ∧ n ≤ 40 ∧ D0 = dOff (dNew []) n) ∧ D0.calls = 0 ∧ Hid (IsDisk wx gd F0 D0) ∧ Hid (∀ k, F0 k → w1.heap.size ≤ k) ∧ Below w1.heap.size w1 wx)
  case first =>
    by_cases hO : 0 < nO
    · have j1 : (0 : Int) < (nO : Int) := by omega
      obtain ⟨x, hx⟩ : ∃ x, s.os[0]? = some x := ⟨s.os[0]'(by have := (HI1.out.zO).trans HNO.out; omega), by simp⟩
      have hi3 := HI.out _ HB3.out
      obtain ⟨bO, oO, hAO, _, hcO⟩ := hi3.rO.open_ (by rw [i64s_length, hi3.zO, HNO.out]; exact hO)
      have y0 : w3.cell? ⟨bO, oO + 0, none⟩ = some (.int .i64 x) := by rw [hcO 0 _ (i64s_at (by rw [hi3.zO, HNO.out]; exact hO)), hx]; rfl
      rw [Nat.add_zero] at y0
      rw [hAO] at c1
      obtain ⟨r, hr, hwv⟩ := within_val x 40 (by decide) (by decide)
      have HWV := Lib.hid hwv
      clear hi3 hAO hcO hx hwv
      go_wp2_with fail
      refine (within_is x 40 r _ HWV.out (by decide) (by decide)).mono ?_
      rintro e w' ⟨rfl, rfl⟩
      go_wp2_with fail
      refine (hd_off HD3.out (1 + (r : Int)) ⟨by omega, by omega⟩).mono ?_
      rintro e w4 ⟨rfl, hg4, ht4⟩
      obtain ⟨_, F4, hi4, hn4⟩ := hg4
      have hb4 : Below w1.heap.size w1 w4 := HB3.out.trans (touch_below ht4 HD3.out.size)
      have HI4 := Lib.hid hi4
      have HN4 := Lib.hid hn4
      clear hi4 hn4 ht4
      go_wp2_with fail
      go_meet
      exact ⟨dOff (dNew []) (1 + (r : Int)), F4, rfl, .inr ⟨1 + (r : Int), by omega, by omega, rfl⟩, by unfold dOff; rw [if_neg (by omega)]; rfl, HI4.out, fun k hk => by have := HN4.out k hk; omega, hb4⟩
    · have j1 : ¬ ((0 : Int) < (nO : Int)) := by omega
      go_wp2_with fail
      go_meet
      obtain ⟨_, F4, hi4, hn4⟩ := HD3.out
      exact ⟨dNew [], F4, rfl, .inl rfl, rfl, hi4, fun k hk => by have := hn4 k hk; omega, HB3.out⟩
  case rest =>
  clear c1
  obtain ⟨D0, F0, rfl, HD0, hc0, HI0, HF0, hb0⟩ := hcut
  go_upto_region 8 with fail
  go_cut [4, 5] from 37 to 41 (fun lv ev wx => ∃ (xe : Int) (pl : Option Addr) (gl : Nat) (F4 : Nat → Prop), lv = .pointer pl ∧ ev = .int .i64 xe ∧ Hid (StartR K W w1 gd gl F4 xe pl wx))
  case first =>
    rcases W.start D0 HD0.out with ⟨S0, ho0, hru0, hre0⟩ | ⟨D1, ho0, hgo0⟩
    · have hcc0 : (K.dsk S0).calls ≤ 40000 := by
        have h1 := hK.costO D0
        rw [ho0] at h1
        have h2 : (K.dsk S0).calls ≤ D0.calls + 40000 := h1
        omega
      have HO0 := Lib.hid ho0
      have HRU0 := Lib.hid hru0
      have HRE0 := Lib.hid hre0
      clear ho0 hru0 hre0
      go_wp2_with fail
      refine (hK.openS HI0.out (by omega) HO0.out).mono ?_
      rintro e w4 ⟨gl, rfl, F4, hl4, ht4, hF4⟩
      go_wp2_with fail
      go_meet
      have hb4 : Below w1.heap.size w1 w4 := hb0.trans (ht4.below HF0.out hb0.size)
      refine ⟨0, _, gl, F4, rfl, rfl, hb4, fun k hk => ?_, hK.lt hl4, .inl ⟨rfl, rfl, S0, hl4, HRU0.out, HRE0.out, hcc0⟩⟩
      have := hb0.size
      rcases hF4 k hk with h | h
      · exact HF0.out k h
      · omega
    · have HO0 := Lib.hid ho0
      have HGO0 := Lib.hid hgo0
      clear ho0 hgo0
      go_wp2_with fail
      refine (hK.openN HI0.out (by omega) HO0.out).mono ?_
      rintro e w4 ⟨rfl, F4, hi4, ht4, hF4⟩
      go_wp2_with fail
      go_meet
      have hb4 : Below w1.heap.size w1 w4 := hb0.trans (ht4.below HF0.out hb0.size)
      refine ⟨9, none, 0, F4, rfl, rfl, hb4, fun k hk => ?_, fun k hk => hi4.lt k hk, .inr ⟨rfl, rfl, D1, hi4, HGO0.out⟩⟩
      have := hb0.size
      rcases hF4 k hk with h | h
      · exact HF0.out k h
      · omega
  case rest =>
  obtain ⟨xe, pl, gl, F4, rfl, rfl, HST⟩ := hcut
  clear HD0 HI0 HF0 HD3 HB3 hb0 hc0
  go_upto_region 9 with fail
  go_cut [57] from 42 to 56 (fun bv wx => bv = .bool false ∧ Hid (StartR K W w1 gd gl F4 xe pl wx))
  case first =>
    rcases HST.out.2.2.2 with ⟨rfl, rfl, _⟩ | ⟨rfl, rfl, _⟩
    all_goals
      go_wp2_with fail
      repeat (first
        | (refine (num10_any _ _).mono ?_
           rintro e w' ⟨rfl, rfl⟩
           go_wp2_with fail))
      go_meet
      exact ⟨rfl, HST.out⟩
  case rest =>
    obtain ⟨rfl, HST⟩ := hcut
    go_wp2_with fail
    refine (num10_any _ _).mono ?_
    rintro e w' ⟨rfl, rfl⟩
    obtain ⟨hb4, hF4, hlt4, hst⟩ := HST.out
    have HF4 := Lib.hid hF4
    have HCN : Hid (CanIn (wc.alloc (.cells #[.slice none 0 0] 34)) F4 w1.heap.size (.slice (some ⟨wc.heap.size, 0, none⟩) 1 1) [.slice none 0 0] [[]]) := canOne (A := none) (c := 0) (l := []) hb4.size (TxtIn.nil wc F4) hlt4 (Nat.zero_le _)
    have hbA : Below wc.heap.size wc (wc.alloc (.cells #[.slice none 0 0] 34)) := (Below.refl _ _).alloc (Nat.le_refl _) _
    have hb5 := hb4.trans (hbA.mono hb4.size)
    have hst5 : StartR K W w1 gd gl F4 xe pl (wc.alloc (.cells #[.slice none 0 0] 34)) := by
      refine ⟨hb5, hF4, fun k hk => Nat.lt_of_lt_of_le (hlt4 k hk) hbA.size, ?_⟩
      rcases hst with ⟨h1, h2, S, h3, h4⟩ | ⟨h1, h2, D, h3, h4⟩
      · exact .inl ⟨h1, h2, S, hK.kept h3 hbA.size fun k hk => hbA.block k (hK.lt h3 k hk), h4⟩
      · exact .inr ⟨h1, h2, D, h3.kept hbA.size fun k hk => hbA.block k (h3.lt k hk), h4⟩
    have HST5 := Lib.hid hst5
    obtain ⟨w5, hw5⟩ : ∃ w5, w5 = wc.alloc (.cells #[.slice none 0 0] 34) := ⟨_, rfl⟩
    rw [← hw5] at HCN HST5 hb5
    have HW5 := Lib.hid hw5
    obtain ⟨gW, hgW⟩ : ∃ gW, gW = wc.heap.size := ⟨_, rfl⟩
    rw [← hgW] at HCN
    have HGW := Lib.hid hgW
    clear hw5 hbA hst5 hst hlt4 hF4 hb4 HST hgW
    go_upto_region 14 with fail
    rw [← HW5.out, ← HGW.out]
    go_upto_block 0 with fail
    go_cut [6, 7] from 8 to 130 (fun _ cv wx => ∃ (F : Nat → Prop) (D : PD) (vs : List Value) (C : List (List ByteArray)), Hid (IsDisk wx gd F D) ∧ Hid (W.Gone D C) ∧ Hid (CanIn wx F w1.heap.size cv vs C) ∧ C.length ≤ 42 ∧ Hid (∀ k, F k → w1.heap.size ≤ k) ∧ Below w1.heap.size w1 wx)
    case first =>
      go_wp2_with fail
      go_loopw [6, 7, 8, 9] (fun rv cv bv iv wr => ∃ (k : Nat) (vs : List Value) (C : List (List ByteArray)), iv = .int .i64 k ∧ k ≤ 20 ∧ C.length ≤ k + 1 ∧ Hid (Below w1.heap.size w1 wr) ∧
        ((bv = .int .i64 0 ∧ pl = some ⟨gl, 0, none⟩ ∧ ∃ (F : Nat → Prop) (S : K.LS) (Ar : Option Addr) (nr cr : Nat), rv = .slice Ar nr cr ∧ Hid (K.IsLog wr gl gd F S) ∧ Hid (TxtIn wr (fun k => F k ∨ cv.ownBlock = some k) Ar nr cr (K.recs S)) ∧ Hid (CanIn wr F w1.heap.size cv vs C) ∧ Hid (W.Run S C) ∧ (K.dsk S).calls ≤ k * 40000 + 40000 ∧ Hid (∀ k, F k → w1.heap.size ≤ k)) ∨
         (bv = .int .i64 9 ∧ ∃ (F : Nat → Prop) (D : PD), Hid (IsDisk wr gd F D) ∧ Hid (W.Gone D C) ∧ Hid (CanIn wr F w1.heap.size cv vs C) ∧ Hid (∀ k, F k → w1.heap.size ≤ k)))) (fun _ _ _ iv _ => 20 - (intOf iv).toNat)
      case atStart =>
        refine ⟨0, [.slice none 0 0], [[]], rfl, by omega, by simp, hb5, ?_⟩
        rcases HST5.out.2.2.2 with ⟨rfl, rfl, S, h3, h4, h5, h6⟩ | ⟨rfl, rfl, D, h3, h4⟩
        · refine .inl ⟨rfl, rfl, F4, S, none, 0, 0, rfl, h3, ?_, HCN.out, h4, by omega, HF4.out⟩
          show TxtIn _ _ _ _ _ _
          rw [h5]
          exact TxtIn.nil _ _
        · exact .inr ⟨rfl, F4, D, h3, h4, HCN.out, HF4.out⟩
      case round =>
        obtain ⟨k, vs, C, rfl, hk20, hCl, HBB, hdis⟩ := hrel
        have hb := HBB.out
        have c0 := HC0.out _ hb
        have i0 : (0 : Int) ≤ (k : Int) := by omega
        rcases hdis with ⟨rfl, rfl, F, S, Ar, nr, cr, rfl, HL, HTX, HCA, HRU, hcl, HFB⟩ | ⟨rfl, F, D, HID, HGO, HCA, HFB⟩
        · by_cases hgo : k < nL ∧ k < 20
          · obtain ⟨hlt, h20⟩ := hgo
            have i1 : (k : Int) < (nL : Int) := by omega
            have i2 : (k : Int) < 20 := by omega
            obtain ⟨Ac, cc, rfl, -, -, -, -, -⟩ := own_val HCA.out.row
            obtain ⟨bl, off, a, hAL, hbl, hx, hmem, hrg⟩ := (HI.out _ hb).at_ (k := k) (by rw [HNL.out]; exact hlt)
            rw [hAL] at c0
            obtain ⟨hl1, hl2, hl3, hl4⟩ := HLI.out.2.2 a hmem
            obtain ⟨nA, hnA⟩ : ∃ nA, a.nL = nA := ⟨_, rfl⟩
            obtain ⟨nK, hnK⟩ : ∃ nK, a.nK = nK := ⟨_, rfl⟩
            have hrg2 : wr.rangeAt bl (off + k * 4) [.int .i64 a.Do, .string a.S, .slice a.AL nA a.cL, .slice a.AK nK a.cK] := by rw [← hnA, ← hnK]; exact hrg
            rw [hnA] at hl2
            have HRG := Lib.hid hrg2
            have HA : Hid (∀ wX, Below w1.heap.size w1 wX → ActGIn wX a) := fun wX hX => (HI.out wX hX).act a hmem
            obtain ⟨m, hm7, hwv⟩ := within_val a.Do 7 (by decide) (by decide)
            have HNA := Lib.hid hnA
            have HWV := Lib.hid hwv
            obtain ⟨w2', hw2⟩ : ∃ w2', w2' = wr.alloc (.cells #[.int .i64 a.Do, .string a.S, .slice a.AL nA a.cL, .slice a.AK nK a.cK] 36) := ⟨_, rfl⟩
            have hbA : Below wr.heap.size wr w2' := by rw [hw2]; exact (Below.refl _ _).alloc (Nat.le_refl _) _
            have bxA : Box w2' wr.heap.size [.int .i64 a.Do, .string a.S, .slice a.AL nA a.cL, .slice a.AK nK a.cK] := by rw [hw2]; exact box_new wr [.int .i64 a.Do, .string a.S, .slice a.AL nA a.cL, .slice a.AK nK a.cK] 36
            have HW2 := Lib.hid hw2
            have HBA := Lib.hid bxA
            have hfew := hK.few HL.out
            have hnr : nr ≤ 32768 := by have h1 := few_len hfew.1; have h2 := HTX.out.hz; omega
            have HFEW := Lib.hid hfew
            have hb12 : Below w1.heap.size w1 w2' := hb.trans (hbA.mono hb.size)
            have HL2 := Lib.hid (hK.kept HL.out hbA.size fun k hk => hbA.block k (hK.lt HL.out k hk))
            have HTX2 := Lib.hid (HTX.out.below hbA)
            have HCA2 := Lib.hid ((HCA.out.below hbA : CanIn w2' F w1.heap.size (.slice Ac vs.length cc) vs C))
            have HGA : Hid (¬ F wr.heap.size) := fun hf => by have := hK.lt HL.out _ hf; omega
            have HFLT : Hid (∀ k, F k ∨ (Value.slice Ac vs.length cc).ownBlock = some k → k < w2'.heap.size) := fun k hk => by
              rcases hk with hk | hk
              · exact hK.lt HL2.out k hk
              · exact (own_lt HCA2.out.row hk).1
            have zA := hbA.size
            have HL3 := Lib.hid hl3
            obtain ⟨S1, hS1⟩ : ∃ S1, (K.act S m a).1 = S1 := ⟨_, rfl⟩
            obtain ⟨e1, he1⟩ : ∃ e1, (K.act S m a).2 = e1 := ⟨_, rfl⟩
            obtain ⟨R, hR⟩ : ∃ R, nextG (K.recs S) m a = R := ⟨_, rfl⟩
            have hact := W.act m a hm7 HRU.out
            rw [hS1, he1, hR] at hact
            have hfR : sizeL R.1 ≤ 524288 := by rw [← hR]; exact (nextG_few hfew).1
            have hnR : R.1.length ≤ 32768 := few_len hfR
            obtain ⟨nR, hnRe⟩ : ∃ nR, R.1.length = nR := ⟨_, rfl⟩
            rw [hnRe] at hnR
            have HNR := Lib.hid hnRe
            have hcc := hK.cost S m a
            rw [hS1] at hcc
            have hRe := nextG_err (K.recs S) m a
            rw [hR] at hRe
            obtain ⟨eR, heR⟩ : ∃ eR, R.2 = eR := ⟨_, rfl⟩
            rw [heR] at hRe hact
            have HER := Lib.hid heR
            have HACT := Lib.hid hact
            have HS1 := Lib.hid hS1
            have HE1 := Lib.hid he1
            have HRR := Lib.hid hR
            clear hAL hmem hrg hrg2 hx hnA hnK hwv hw2 hbA bxA hfew hact hS1 he1 hR hnRe hfR hl3 hl1 hl4 heR
            go_wp2_with (first | (refine wpList_load_mid rfl 36 _ rfl bl (off + k * 4) rfl [.int .i64 a.Do, .string a.S, .slice a.AL nA a.cL, .slice a.AK nK a.cK] _ HRG.out Try.underlying36 rfl size_actG ?_))
            rw [← HW2.out]
            refine (nextG_is a nA nK m Ar cr nr (K.recs S) w2' ((HA.out _ hb12)) HNA.out HWV.out hm7 (by omega) HTX2.out.hz HTX2.out.rd HTX2.out.hc HTX2.out.hm (by omega) HFEW.out.2).mono ?_
            rintro e w3' ⟨A3, c3, rfl, _, hc3, hm3, hr3, hb3, hor⟩
            rw [HRR.out] at hc3 hr3 ⊢
            rw [HNR.out] at hc3 ⊢
            rw [HER.out]
            have HTX3 : Hid (TxtIn w3' (fun k => F k ∨ (Value.slice Ac vs.length cc).ownBlock = some k) A3 nR c3 R.1) := ⟨HNR.out, hr3, hc3, hm3, fun b hbb h0 hf => by
              rcases hor with ⟨e, e'⟩ | e
              · subst e
                rw [HRR.out] at e'
                have h1 : R.1.length = nR := HNR.out
                rw [e', HTX2.out.hz] at h1
                exact HTX2.out.far b hbb (by omega) hf
              · have h1 := e b hbb
                have h2 := HFLT.out _ hf
                omega⟩
            have z3' := hb3.size
            have HL3' := Lib.hid (hK.kept HL2.out hb3.size fun k hk => hb3.block k (hK.lt HL2.out k hk))
            have bx3 := HBA.out.below hb3 HBA.out.1
            have HBX3 := Lib.hid bx3
            have HTXo3 := Lib.hid (HTX2.out.below hb3)
            have HCA3 := Lib.hid ((HCA2.out.below hb3 : CanIn w3' F w1.heap.size (.slice Ac vs.length cc) vs C))
            have hb13 : Below w1.heap.size w1 w3' := hb12.trans (hb3.mono hb12.size)
            have HDO := Lib.hid (doesG_is (nK := nK) hK gl gd a nA m w3' (HA.out _ hb13) HNA.out HL3'.out (by omega) HWV.out hm7 (by omega) (fun x hx => by have := HL3.out x hx; omega))
            rw [HS1.out, HE1.out] at HDO
            clear hr3 hb3 hor bx3 c0
            go_wp2_with (first | (refine wpList_load_box rfl 36 _ rfl wr.heap.size rfl [.int .i64 a.Do, .string a.S, .slice a.AL nA a.cL, .slice a.AK nK a.cK] HBX3.out _ Try.underlying36 rfl size_actG ?_))
            refine HDO.out.mono ?_
            rintro e w4' ⟨rfl, F4', hl4, ht4, hF4'⟩
            have HL4' := Lib.hid hl4
            have HTX4 := Lib.hid (HTX3.out.touch2 ht4 hF4')
            have HTXo4 := Lib.hid (HTXo3.out.touch2 ht4 hF4')
            have HCA4 := Lib.hid (HCA3.out.touch ht4 hF4')
            have hb14 := hb13.trans (ht4.below HFB.out hb13.size)
            have bx4 := box_touchG HBX3.out ht4 HGA.out
            have z4' := ht4.size
            have HF4' : Hid (∀ k, F4' k → w1.heap.size ≤ k) := fun k hk => by
              rcases hF4' k hk with h | h
              · exact HFB.out k h
              · have := hb13.size; omega
            clear hl4 ht4 hF4'
            rcases HACT.out with ⟨rfl, q2, q3⟩ | ⟨rfl, q2, q3, q4, q5⟩
            · have fin5 : ∀ (C0 : List (List ByteArray)) (vs0 : List Value) (v0 : Value) (A5 : Option Addr) (c5 : Nat) (w5 : World), CanIn w4' F4' w1.heap.size v0 vs0 C0 → TxtIn w4' (fun k => F4' k ∨ v0.ownBlock = some k) A3 nR c3 R.1 → CanIn w5 F4' w1.heap.size (.slice A5 (C0.length + 1) c5) (vs0 ++ [.slice A3 nR c3]) (C0 ++ [R.1]) → Below w1.heap.size w4' w5 → (∀ k, k < w4'.heap.size → v0.ownBlock ≠ some k → w5.heap[k]? = w4'.heap[k]?) → (∀ k, (Value.slice A5 (C0.length + 1) c5).ownBlock = some k → v0.ownBlock = some k ∨ w4'.heap.size ≤ k) → w4'.heap.size ≤ w5.heap.size → W.Run S1 (C0 ++ [R.1]) →
                  ∃ (F : Nat → Prop) (S : K.LS) (Ar : Option Addr) (nr cr : Nat), (Value.slice A3 nR c3) = .slice Ar nr cr ∧ Hid (K.IsLog w5 gl gd F S) ∧ Hid (TxtIn w5 (fun k => F k ∨ (Value.slice A5 (C0.length + 1) c5).ownBlock = some k) Ar nr cr (K.recs S)) ∧ Hid (CanIn w5 F w1.heap.size (.slice A5 (C0.length + 1) c5) (vs0 ++ [.slice A3 nR c3]) (C0 ++ [R.1])) ∧ Hid (W.Run S (C0 ++ [R.1])) ∧ (K.dsk S).calls ≤ (k + 1) * 40000 + 40000 ∧ Hid (∀ k, F k → w1.heap.size ≤ k) := by
                intro C0 vs0 v0 A5 c5 w5 hca htx hc5 hbB hk5 hv5 hz5 hru
                refine ⟨F4', S1, A3, nR, c3, rfl, hK.kept HL4'.out hz5 fun k hk => hk5 k (hK.lt HL4'.out k hk) fun e => hca.rowF k e hk, ?_, hc5, hru, by omega, HF4'.out⟩
                show TxtIn _ _ _ _ _ _
                rw [q2]
                exact htx.row hz5 hk5 hv5
              have HFIN5 := Lib.hid fin5
              have HQ3 := Lib.hid q3
              have k0 := bx4.2 0 _ rfl
              clear fin5 q2 q3 bx4
              by_cases hz : e1 = 0
              · have jz : (e1 == 0) = true := by simp [hz]
                by_cases hm4 : 4 ≤ m
                · have j4 : (4 : Int) ≤ (m : Int) := by omega
                  have hru := HQ3.out
                  rw [if_pos ⟨hz, hm4⟩] at hru
                  obtain ⟨A5, c5, w5, hrun, hc5, hbB, hk5, hv5, hz5⟩ := (canNil w4' F4' w1.heap.size).snoc hb14.size (l := R.1) (HTX4.out.less fun k hk => hk.imp id fun h => by cases h) (hK.lt HL4'.out) hnR (by simp)
                  have HRUN := Lib.hid hrun
                  have HRES := Lib.hid (HFIN5.out _ _ _ A5 c5 w5 (canNil w4' F4' w1.heap.size) (HTX4.out.less fun k hk => hk.imp id fun h => by cases h) hc5 hbB hk5 hv5 hz5 hru)
                  have hb15 := hb14.trans hbB
                  clear hrun hc5 hbB hk5 hv5 hz5 hru hz
                  go_wp2_with fail
                  refine (within_is a.Do 7 m _ HWV.out (by decide) (by decide)).mono ?_
                  rintro e w' ⟨rfl, rfl⟩
                  go_wp2_with (at_builtin; refine wpList_app_run (v := .slice none 0 0) (u := .slice (some ⟨w4'.heap.size, 0, none⟩) 1 1) _ rfl _ _ 47 47 rfl rfl rfl HRUN.out ?_)
                  go_roundw
                  case rel => exact ⟨k + 1, _, _, by go_num, by omega, by simp, hb15, .inl ⟨rfl, by first | rfl | trivial, HRES.out⟩⟩
                  case measure => simp [intOf]; omega
                · have j4 : ¬ ((4 : Int) ≤ (m : Int)) := by omega
                  have hru := HQ3.out
                  rw [if_neg (fun h => hm4 h.2)] at hru
                  obtain ⟨A5, c5, w5, hrun, hc5, hbB, hk5, hv5, hz5⟩ := HCA4.out.snoc hb14.size HTX4.out (hK.lt HL4'.out) hnR (by omega)
                  have HRUN := Lib.hid hrun
                  have HRES := Lib.hid (HFIN5.out _ _ _ A5 c5 w5 HCA4.out HTX4.out hc5 hbB hk5 hv5 hz5 hru)
                  have hb15 := hb14.trans hbB
                  clear hrun hc5 hbB hk5 hv5 hz5 hru hz
                  go_wp2_with fail
                  refine (within_is a.Do 7 m _ HWV.out (by decide) (by decide)).mono ?_
                  rintro e w' ⟨rfl, rfl⟩
                  go_wp2_with (at_builtin; refine wpList_app_run (v := (.slice Ac vs.length cc)) (u := .slice (some ⟨w4'.heap.size, 0, none⟩) 1 1) _ rfl _ _ 47 47 rfl rfl rfl HRUN.out ?_)
                  go_roundw
                  case rel => exact ⟨k + 1, _, _, by go_num, by omega, by rw [List.length_append, List.length_singleton]; omega, hb15, .inl ⟨rfl, by first | rfl | trivial, HRES.out⟩⟩
                  case measure => simp [intOf]; omega
              · have jz : (e1 == 0) = false := by simp [hz]
                have hru := HQ3.out
                rw [if_neg (fun h => hz h.1)] at hru
                obtain ⟨A5, c5, w5, hrun, hc5, hbB, hk5, hv5, hz5⟩ := HCA4.out.snoc hb14.size HTX4.out (hK.lt HL4'.out) hnR (by omega)
                have HRUN := Lib.hid hrun
                have HRES := Lib.hid (HFIN5.out _ _ _ A5 c5 w5 HCA4.out HTX4.out hc5 hbB hk5 hv5 hz5 hru)
                have hb15 := hb14.trans hbB
                clear hrun hc5 hbB hk5 hv5 hz5 hru hz
                go_wp2_with (at_builtin; refine wpList_app_run (v := (.slice Ac vs.length cc)) (u := .slice (some ⟨w4'.heap.size, 0, none⟩) 1 1) _ rfl _ _ 47 47 rfl rfl rfl HRUN.out ?_)
                go_roundw
                case rel => exact ⟨k + 1, _, _, by go_num, by omega, by rw [List.length_append, List.length_singleton]; omega, hb15, .inl ⟨rfl, by first | rfl | trivial, HRES.out⟩⟩
                case measure => simp [intOf]; omega
            · have jn : ((9 : Int) == eR) = false := by rcases hRe with h | h | h <;> rw [h] <;> rfl
              have HALL := Lib.hid (hK.all_ HL4'.out)
              rw [q2] at HALL
              obtain ⟨S2, hS2⟩ : ∃ S2, (K.sync S1).1 = S2 := ⟨_, rfl⟩
              rw [hS2] at q4 q5
              obtain ⟨S3, hS3⟩ : ∃ S3, (K.app S2 bX).1 = S3 := ⟨_, rfl⟩
              rw [hS3] at q5
              have hc2 := hK.costS S1
              rw [hS2] at hc2
              have HQ3 := Lib.hid q3
              have HQ4 := Lib.hid q4
              have HQ5 := Lib.hid q5
              have HS2 := Lib.hid hS2
              have HS3 := Lib.hid hS3
              have HQ2 := Lib.hid q2
              clear q2 q3 q4 q5 hS2 hS3 hRe bx4
              go_wp2_with fail
              refine HALL.out.mono ?_
              rintro e w5 ⟨v5, rfl, ho5, hb5⟩
              have ho5b := own_cast ho5 ((strs_length _).trans HTXo4.out.hz)
              obtain ⟨A5, c5, rfl, _, _, hr5, _, _⟩ := own_val ho5b
              go_wp2_with fail
              refine (eqStrings_same A5 Ar c5 cr nr (K.recs S) _ HTXo4.out.hz hr5 (HTXo4.out.rd.below hb5) (by omega)).mono ?_
              rintro e w6 ⟨rfl, d6, hw6⟩
              have hb46 : Below w4'.heap.size w4' w6 := by rw [hw6]; exact below_n hb5 d6
              have HL6 := Lib.hid (hK.kept HL4'.out hb46.size fun k hk => hb46.block k (hK.lt HL4'.out k hk))
              have HTX6 := Lib.hid (HTX4.out.below hb46)
              have HCA6 := Lib.hid ((HCA4.out.below hb46 : CanIn w6 F4' w1.heap.size (.slice Ac vs.length cc) vs C))
              have hb16 := hb14.trans (hb46.mono hb14.size)
              clear ho5 ho5b hr5 hb5 hw6 hb46
              go_wp2_with fail
              refine (hK.sync_ HL6.out (by omega)).mono ?_
              rintro e w7 ⟨he, F7, hl7, ht7, hF7⟩
              rw [HQ3.out] at he
              rw [HS2.out] at hl7
              subst he
              have HL7 := Lib.hid hl7
              have HTX7 := Lib.hid (HTX6.out.touch2 ht7 hF7)
              have HCA7 := Lib.hid (HCA6.out.touch ht7 hF7)
              have hb17 := hb16.trans (ht7.below HF4'.out hb16.size)
              have HF7 : Hid (∀ k, F7 k → w1.heap.size ≤ k) := fun k hk => by
                have := hb16.size
                rcases hF7 k hk with h | h
                · exact HF4'.out k h
                · omega
              clear hl7 ht7 hF7
              go_wp2_with fail
              refine (num10_any _ _).mono ?_
              rintro e w' ⟨rfl, rfl⟩
              go_wp2_with fail
              refine (hK.app_ bX HL7.out (by decide) (by omega)).mono ?_
              rintro e w8 ⟨he, F8, hl8, ht8, hF8⟩
              rw [HQ4.out] at he
              rw [HS3.out] at hl8
              subst he
              have HL8 := Lib.hid hl8
              have HTX8 := Lib.hid (HTX7.out.touch2 ht8 hF8)
              have HCA8 := Lib.hid (HCA7.out.touch ht8 hF8)
              have hb18 := hb17.trans (ht8.below HF7.out hb17.size)
              have HF8 : Hid (∀ k, F8 k → w1.heap.size ≤ k) := fun k hk => by
                have := hb17.size
                rcases hF8 k hk with h | h
                · exact HF7.out k h
                · omega
              clear hl8 ht8 hF8
              obtain ⟨A9, c9, w9, hrun, hc9, hbB, hk9, hv9, hz9⟩ := HCA8.out.snoc hb18.size HTX8.out (hK.lt HL8.out) hnR (by omega)
              have HRUN := Lib.hid hrun
              obtain ⟨F', hi', hs'⟩ := hK.disk HL8.out
              have HRES : Hid (∃ (F : Nat → Prop) (D : PD), Hid (IsDisk w9 gd F D) ∧ Hid (W.Gone D (C ++ [R.1])) ∧ Hid (CanIn w9 F w1.heap.size (.slice A9 (C.length + 1) c9) (vs ++ [.slice A3 nR c3]) (C ++ [R.1])) ∧ Hid (∀ k, F k → w1.heap.size ≤ k)) :=
                ⟨F', K.dsk S3, hi'.kept hz9 fun k hk => hk9 k (hi'.lt k hk) fun e => HCA8.out.rowF k e (hs' k hk), HQ5.out, hc9.less hs', fun k hk => HF8.out k (hs' k hk)⟩
              have hb19 := hb18.trans hbB
              clear hrun hc9 hbB hk9 hv9 hz9 hi' hs'
              go_wp2_with fail
              refine (num10_any _ _).mono ?_
              rintro e w' ⟨rfl, rfl⟩
              go_wp2_with (at_builtin; refine wpList_app_run (v := (.slice Ac vs.length cc)) (u := .slice (some ⟨w8.heap.size, 0, none⟩) 1 1) _ rfl _ _ 47 47 rfl rfl rfl HRUN.out ?_)
              go_roundw
              case rel => exact ⟨k + 1, _, _, by go_num, by omega, by rw [List.length_append, List.length_singleton]; omega, hb19, .inr ⟨rfl, HRES.out⟩⟩
              case measure => simp [intOf]; omega
          · have hcase : (¬ ((k : Int) < (nL : Int))) ∨ ((k : Int) < (nL : Int) ∧ ¬ ((k : Int) < 20)) := by
              by_cases hlt : k < nL
              · exact .inr ⟨by omega, fun h => hgo ⟨hlt, by omega⟩⟩
              · exact .inl (by omega)
            clear hgo
            have HDD := Lib.hid (hK.disk HL.out)
            rcases hcase with i1 | ⟨i1, i2⟩
            all_goals
              go_wp2_with fail
              go_meet
              obtain ⟨F', hi', hs'⟩ := HDD.out
              exact ⟨F', K.dsk S, vs, C, hi', W.rest HRU.out, HCA.out.less hs', by omega, fun k hk => HFB.out k (hs' k hk), hb⟩
        · have hcase : (¬ ((k : Int) < (nL : Int))) ∨ ((k : Int) < (nL : Int) ∧ ¬ ((k : Int) < 20)) ∨ ((k : Int) < (nL : Int) ∧ ((k : Int) < 20)) := by omega
          rcases hcase with i1 | ⟨i1, i2⟩ | ⟨i1, i2⟩
          all_goals
            go_wp2_with fail
            go_meet
            exact ⟨F, D, vs, C, HID.out, HGO.out, HCA.out, by omega, HFB.out, hb⟩
    case rest =>
      clear HCN HST5 hb5
      obtain ⟨F6, D6, vs6, C6, HI6, HG6, HCA6, hC6, HF6, hb6⟩ := hcut
      go_wp2_with fail
      go_loopw [3, 7, 13] (fun dv cv kv wr => ∃ (k gd : Nat) (F : Nat → Prop) (D : PD) (vs : List Value) (C : List (List ByteArray)), kv = .int .i64 k ∧ k ≤ 4 ∧ dv = .pointer (some ⟨gd, 0, none⟩) ∧ Hid (IsDisk wr gd F D) ∧ Hid (W.Gone D C) ∧ Hid (CanIn wr F w1.heap.size cv vs C) ∧ C.length ≤ 42 ∧ Hid (∀ k, F k → w1.heap.size ≤ k) ∧ Hid (Below w1.heap.size w1 wr)) (fun _ _ kv _ => 4 - (intOf kv).toNat)
      case atStart => exact ⟨0, gd, F6, D6, vs6, C6, rfl, by omega, rfl, HI6.out, HG6.out, HCA6.out, hC6, HF6.out, hb6⟩
      case round =>
        clear HI6 HG6 HCA6 hC6 HF6 hb6
        obtain ⟨k, gd, F, D, vs, C, rfl, hk4, rfl, HID, HGO, HCA, hCl, HFB, HBW⟩ := hrel
        have c0 := HC0.out _ HBW.out
        have i0 : (0 : Int) ≤ (k : Int) := by omega
        by_cases h4 : k < 4
        · have i4 : (k : Int) < 4 := by omega
          obtain ⟨Ac, cc, rfl, hncc, hmcc, hrdc, -, -⟩ := own_val HCA.out.row
          have HLEN0 : Hid (vs.length = C.length) := HCA.out.len
          have hpos : 0 < vs.length := by
            obtain ⟨S9, _, h9, _⟩ := W.again HGO.out []
            rw [HLEN0.out]
            exact List.length_pos_of_mem h9
          obtain ⟨bC, oC, rfl, _, _⟩ := hrdc.open_ hpos
          have HRDC := Lib.hid hrdc
          obtain ⟨nC, hnC⟩ : ∃ nC, vs.length = nC := ⟨_, rfl⟩
          have HLEN : Hid (nC = C.length) := hnC.symm.trans HLEN0.out
          rw [hnC] at hncc HCA ⊢
          clear hrdc hpos HLEN0
          go_upto_if 139 with fail
          go_cut [14] from 139 to 145 (fun pv wx => ∃ (AP : Option Addr) (nP cP : Nat) (ps : List Int), pv = .slice AP nP cP ∧ Hid (ps.length = nP) ∧ Hid (Rd wr AP (i64s ps)) ∧ nP ≤ cP ∧ cP ≤ maxLen ∧ Hid (∀ x ∈ ps, -9223372036854775808 ≤ x ∧ x ≤ 9223372036854775807) ∧ wr = wx)
          case first =>
            by_cases hlt : k < nL
            · have i1 : (k : Int) < (nL : Int) := by omega
              obtain ⟨bl, off, a, hAL, hbl, hx, hmem, hrg⟩ := (HI.out _ HBW.out).at_ (k := k) (by rw [HNL.out]; exact hlt)
              rw [hAL] at c0
              have hin := (HI.out _ HBW.out).act a hmem
              have d3 : wr.cell? ⟨bl, off + k * 4 + 3, none⟩ = some (.slice a.AK a.nK a.cK) := hrg 3 _ rfl
              clear hAL hx hmem hrg
              go_wp2_with fail
              go_meet
              exact ⟨a.AK, a.nK, a.cK, a.ps, rfl, hin.zK, hin.rK, hin.kK, hin.xK, hin.yK, rfl⟩
            · have i1 : ¬ ((k : Int) < (nL : Int)) := by omega
              go_wp2_with fail
              go_meet
              exact ⟨none, 0, 0, [], rfl, rfl, Rd.nil _ _, Nat.le_refl _, by simp [maxLen], fun x hx => by simp at hx, rfl⟩
          case rest =>
          obtain ⟨AP, nP, cP, ps, rfl, HZP, HRP, hkP, hxP, HYP, rfl⟩ := hcut
          clear c0
          have hdg : HDG (fun _ => False) wr gd D := ⟨fun k hk => hk.elim, F, HID.out, fun _ _ h => h⟩
          have HAG := Lib.hid (againG_any gd AP nP cP ps wr hdg HZP.out HRP.out hkP hxP HYP.out)
          clear hdg
          go_wp2_with fail
          refine HAG.out.mono ?_
          rintro e w2 ⟨gd2, rfl, hd2, hb2⟩
          have HBR1 := Lib.hid hb2
          have HD2 := Lib.hid hd2
          have hb12 := HBW.out.trans (hb2.mono HBW.out.size)
          have c1 := HC1.out _ hb12
          have HB12 := Lib.hid hb12
          have j3 : (0 : Int) ≤ (k : Int) + 1 := by omega
          have ew : IntKind.i64.wrap ((k : Int) + 1) = ((k + 1 : Nat) : Int) := by rw [IntKind.wrap_i64]; omega
          clear hd2 hb2 hb12
          go_upto_region 38 with fail
          go_cut [160] from 151 to 159 (fun bv wx => ∃ bb : Bool, bv = .bool bb ∧ Hid (bb = decide (k + 1 < nO ∧ k < 2)) ∧ w2 = wx)
          case first =>
            by_cases h1 : k + 1 < nO
            · have j1 : (k : Int) + 1 < (nO : Int) := by omega
              by_cases h2 : k < 2
              · have j2 : (k : Int) < 2 := by omega
                go_wp2_with fail
                go_meet
                exact ⟨true, rfl, by show _ = _; simp [h1, h2], rfl⟩
              · have j2 : ¬ ((k : Int) < 2) := by omega
                go_wp2_with fail
                go_meet
                exact ⟨false, rfl, by show _ = _; simp [h2], rfl⟩
            · have j1 : ¬ ((k : Int) + 1 < (nO : Int)) := by omega
              go_wp2_with fail
              go_meet
              exact ⟨false, rfl, by show _ = _; simp [h1], rfl⟩
          case rest =>
          obtain ⟨bb, rfl, HBB, rfl⟩ := hcut
          go_upto_if 160 with fail
          go_cut [] from 161 to 170 (fun wx => ∃ (F2 : Nat → Prop) (D2 : PD), Hid (IsDisk wx gd2 F2 D2) ∧ Hid (∀ k, F2 k → wr.heap.size ≤ k) ∧ Hid (Below wr.heap.size wr wx) ∧ Hid (D2.calls ≤ 900000) ∧ Hid ((∃ S, K.openL D2 = (some S, 0, K.dsk S) ∧ K.recs S ∈ C ∧ W.Gone (K.dsk S) [K.recs S]) ∨ (k < 2 ∧ ∃ D', K.openL D2 = (none, 9, D') ∧ W.Gone D' C)))
          case first =>
            cases bb with
            | true =>
              have hk12 : k + 1 < nO ∧ k < 2 := by simpa using HBB.out.symm
              obtain ⟨hk1, hk2⟩ := hk12
              have j1 : (k : Int) + 1 < (nO : Int) := by omega
              have hi3 := HI.out _ HB12.out
              obtain ⟨x, hx⟩ : ∃ x, s.os[k + 1]? = some x := ⟨s.os[k + 1]'(by rw [hi3.zO, HNO.out]; exact hk1), by simp [show k + 1 < s.os.length by rw [hi3.zO, HNO.out]; exact hk1]⟩
              obtain ⟨bO, oO, hAO, _, hcO⟩ := hi3.rO.open_ (by rw [i64s_length, hi3.zO, HNO.out]; omega)
              have y0 : w2.cell? ⟨bO, oO + (k + 1), none⟩ = some (.int .i64 x) := by rw [hcO (k + 1) _ (i64s_at (by rw [hi3.zO, HNO.out]; exact hk1)), hx]; rfl
              rw [hAO] at c1
              obtain ⟨r, hr, hwv⟩ := within_val x 10 (by decide) (by decide)
              have HWV := Lib.hid hwv
              have HOUT := Lib.hid (W.againOff HGO.out ps (1 + (r : Int)) (by omega) (by omega))
              clear hi3 hAO hcO hx hwv
              go_wp2_with fail
              refine (within_is x 10 r _ HWV.out (by decide) (by decide)).mono ?_
              rintro e w' ⟨rfl, rfl⟩
              go_wp2_with fail
              refine (hd_off HD2.out (1 + (r : Int)) ⟨by omega, by omega⟩).mono ?_
              rintro e w3 ⟨rfl, hg3, ht3⟩
              have HBR2 := Lib.hid (HBR1.out.trans (touch_below ht3 HD2.out.size))
              obtain ⟨_, F2, hi3, hn3⟩ := hg3
              have HID2 := Lib.hid hi3
              have HF2 : Hid (∀ k, F2 k → wr.heap.size ≤ k) := fun k hk => by have := hn3 k hk; omega
              have HCZ : Hid ((dOff (dNew (dCrash D ps)) (1 + (r : Int))).calls ≤ 900000) := by show _ ≤ _; unfold dOff; rw [if_neg (by omega)]; show 0 ≤ 900000; omega
              clear ht3 hi3 hn3 c1 y0
              go_wp2_with fail
              go_meet
              exact ⟨F2, _, HID2.out, HF2.out, HBR2.out, HCZ.out, HOUT.out.imp id fun h => ⟨hk2, h⟩⟩
            | false =>
              go_wp2_with fail
              go_meet
              obtain ⟨_, F2, hi3, hn3⟩ := HD2.out
              exact ⟨F2, dNew (dCrash D ps), hi3, fun k hk => by have := hn3 k hk; omega, HBR1.out, by show 0 ≤ 900000; omega, .inl (W.again HGO.out ps)⟩
          case rest =>
          obtain ⟨F2, D2, HID2, HF2, HBR2, HCZ, HALT⟩ := hcut
          clear c1 HBR1 HD2 HBB HAG HB12 j3 ew
          rcases HALT.out with ⟨S, ho, hrec, hgs⟩ | ⟨hk2, D', ho, hgn⟩
          · have HOP := Lib.hid ho
            have HREC := Lib.hid hrec
            have HGS := Lib.hid hgs
            clear ho hrec hgs HALT
            go_wp2_with fail
            refine (hK.openS HID2.out HCZ.out HOP.out).mono ?_
            rintro e w4 ⟨gl, rfl, F4, hl4, ht4, hF4⟩
            have HLS := Lib.hid hl4
            have HBR : Hid (Below wr.heap.size wr w4) := HBR2.out.trans (ht4.below HF2.out HBR2.out.size)
            have HFS : Hid (∀ k, F4 k → w1.heap.size ≤ k) := fun k hk => by
              have h1 := HBW.out.size
              have h2 := HBR2.out.size
              rcases hF4 k hk with h | h
              · have := HF2.out k h; omega
              · omega
            clear hl4 ht4 hF4
            go_wp2_with fail
            refine (num10_any _ _).mono ?_
            rintro e w' ⟨rfl, rfl⟩
            go_wp2_with fail
            refine (num10_any _ _).mono ?_
            rintro e w' ⟨rfl, rfl⟩
            have HALL := Lib.hid (hK.all_ HLS.out)
            obtain ⟨n5, hn5⟩ : ∃ n5, (K.recs S).length = n5 := ⟨_, rfl⟩
            have hn5f : n5 ≤ 32768 := by rw [← hn5]; exact few_len (hK.few HLS.out).1
            have HN5 := Lib.hid hn5
            clear hn5
            go_wp2_with fail
            refine HALL.out.mono ?_
            rintro e w5 ⟨v5, rfl, ho5, hb5⟩
            have ho5b := own_cast ho5 ((strs_length _).trans HN5.out)
            obtain ⟨A5, c5, rfl, hc5, hm5, hr5, ha5, _⟩ := own_val ho5b
            have HR5 := Lib.hid hr5
            have HA5 := Lib.hid ha5
            have hbr5 : Below wr.heap.size wr w5 := HBR.out.trans (hb5.mono HBR.out.size)
            have HBR5 := Lib.hid hbr5
            have HB45 := Lib.hid hb5
            have hrd5 : Rd w5 (some ⟨bC, oC, none⟩) vs := HRDC.out.below hbr5
            have HRD5 := Lib.hid hrd5
            clear ho5 ho5b hr5 ha5 hb5 hbr5 hrd5
            go_wp2_with fail
            go_loopw [18, 19] (fun fv jv wq => ∃ (j : Nat) (fb : Bool) (d : Nat), jv = .int .i64 j ∧ fv = .bool fb ∧ j ≤ nC ∧ wq = w5.drewN d ∧ Hid (fb = memC (K.recs S) (C.take j))) (fun _ jv _ => nC - (intOf jv).toNat)
            case atStart => exact ⟨0, false, 0, rfl, rfl, by omega, rfl, rfl⟩
            case round =>
              obtain ⟨j, fb, d, rfl, rfl, hj, rfl, HFB2⟩ := hrel
              have i0 : (0 : Int) ≤ (j : Int) := by omega
              by_cases hjn : j < nC
              · have i1 : (j : Int) < (nC : Int) := by omega
                have hjC : j < C.length := by rw [← HLEN.out]; exact hjn
                obtain ⟨l, hl⟩ : ∃ l, C[j]? = some l := ⟨C[j], by simp [hjC]⟩
                obtain ⟨Aj, cj, hvj, htx⟩ := HCA.out.els j l hl
                obtain ⟨b5, o5, e5, _, hcl5⟩ := HRD5.out.open_ (by omega)
                cases e5
                have nlf := HCA.out.few l (List.mem_of_getElem? hl)
                have HMN := Lib.hid (memC_next (y := K.recs S) hl)
                obtain ⟨nj, hnj⟩ : ∃ nj, l.length = nj := ⟨_, rfl⟩
                rw [hnj] at hvj nlf
                have y0 : w5.cell? ⟨bC, oC + j, none⟩ = some (.slice Aj nj cj) := hcl5 j _ hvj
                have HNJ := Lib.hid hnj
                have HRJ := Lib.hid (htx.rd.below HBR5.out)
                clear hl hvj htx hcl5 hnj
                cases fb with
                | true =>
                  have HF3 : Hid (true = memC (K.recs S) (C.take (j + 1))) := by show _ = _; rw [HMN.out, ← HFB2.out, Bool.true_or]
                  go_wp2_with fail
                  go_roundw
                  case rel => exact ⟨j + 1, true, d, by go_num, rfl, by omega, rfl, HF3⟩
                  case measure => simp [intOf]; omega
                | false =>
                  obtain ⟨bb, hbb⟩ : ∃ bb, decide (l = K.recs S) = bb := ⟨_, rfl⟩
                  have HF3 : Hid (bb = memC (K.recs S) (C.take (j + 1))) := by show _ = _; rw [HMN.out, ← HFB2.out, Bool.false_or, hbb]
                  have HEQ := Lib.hid (eqStrings_any Aj A5 cj c5 nj n5 l (K.recs S) (w5.drewN d) HNJ.out HN5.out (HRJ.out.drewN d) (HR5.out.drewN d) (by omega) (by omega))
                  rw [hbb] at HEQ
                  clear hbb
                  go_wp2_with fail
                  refine HEQ.out.mono ?_
                  rintro e w6 ⟨rfl, d6, rfl⟩
                  clear HEQ
                  cases bb with
                  | true =>
                    go_wp2_with fail
                    go_roundw
                    case rel => exact ⟨j + 1, true, d + d6, by go_num, rfl, by omega, (by first | rfl | exact World.drewN_drewN w5 d d6), HF3⟩
                    case measure => simp [intOf]; omega
                  | false =>
                    go_wp2_with fail
                    go_roundw
                    case rel => exact ⟨j + 1, false, d + d6, by go_num, rfl, by omega, (by first | rfl | exact World.drewN_drewN w5 d d6), HF3⟩
                    case measure => simp [intOf]; omega
              · have i1 : ¬ ((j : Int) < (nC : Int)) := by omega
                have hft : fb = true := by
                  have h1 := HFB2.out
                  rw [List.take_of_length_le (by rw [← HLEN.out]; omega)] at h1
                  rw [h1]
                  exact memC_yes HREC.out
                subst hft
                obtain ⟨w6, hw6⟩ : ∃ w6, w6 = w5.drewN d := ⟨_, rfl⟩
                have hb56 : Below w5.heap.size w5 w6 := by rw [hw6]; exact below_n (Below.refl _ _) d
                rw [← hw6]
                have hs56 : w6.heap.size = w5.heap.size := by rw [hw6]; rfl
                clear hw6
                have hb46 : Below w4.heap.size w4 w6 := HB45.out.trans (hb56.mono HB45.out.size)
                have hl6 := hK.kept HLS.out hb46.size fun k hk => hb46.block k (hK.lt HLS.out k hk)
                obtain ⟨F6', hi6, hs6⟩ := hK.disk hl6
                have htx6 : TxtIn w6 F6' A5 (K.recs S).length c5 (K.recs S) := by
                  rw [HN5.out]
                  refine ⟨HN5.out, HR5.out.below hb56, hc5, hm5, fun b hb _ hf => ?_⟩
                  have h1 := HA5.out b hb
                  have h2 := hK.lt HLS.out _ (hs6 _ hf)
                  omega
                have hbr6 : Below wr.heap.size wr w6 := HBR5.out.trans (hb56.mono HBR5.out.size)
                have hb16 : Below w1.heap.size w1 w6 := HBW.out.trans (hbr6.mono HBW.out.size)
                have hc6 := canOne hb16.size htx6 (fun k hk => hi6.lt k hk) (by rw [HN5.out]; exact hn5f)
                rw [HN5.out] at hc6
                have hbX : Below w6.heap.size w6 (w6.alloc (.cells #[.slice A5 n5 c5] 34)) := (Below.refl _ _).alloc (Nat.le_refl _) _
                have hi7 := hi6.kept hbX.size fun k hk => hbX.block k (hi6.lt k hk)
                have HI7 := Lib.hid hi7
                have HC7 := Lib.hid hc6
                have HB7 := Lib.hid (hb16.trans (hbX.mono hb16.size))
                have HF7 : Hid (∀ k, F6' k → w1.heap.size ≤ k) := fun k hk => HFS.out k (hs6 k hk)
                clear hl6 hi6 hs6 htx6 hbr6 hb16 hc6 hbX hi7 hb46 hb56 hs56
                go_wp2_with fail
                go_roundw
                case rel => exact ⟨k + 1, gd2, F6', K.dsk S, _, _, by go_num, by omega, rfl, HI7.out, HGS.out, HC7.out, by simp, HF7.out, HB7.out⟩
                case measure => simp [intOf]; omega
          · have HOP := Lib.hid ho
            have HGN := Lib.hid hgn
            have j2 : (k : Int) < 2 := by omega
            clear ho hgn HALT
            go_wp2_with fail
            refine (hK.openN HID2.out HCZ.out HOP.out).mono ?_
            rintro e w4 ⟨rfl, F4, hi4, ht4, hF4⟩
            have HI4 := Lib.hid hi4
            have hbr4 : Below wr.heap.size wr w4 := HBR2.out.trans (ht4.below HF2.out HBR2.out.size)
            have HF4 : Hid (∀ k, F4 k → wr.heap.size ≤ k) := fun k hk => by
              have h2 := HBR2.out.size
              rcases hF4 k hk with h | h
              · exact HF2.out k h
              · omega
            have HC4 := Lib.hid (HCA.out.fresh hbr4 HF4.out)
            have hb14 := HBW.out.trans (hbr4.mono HBW.out.size)
            clear hi4 ht4 hF4 hbr4
            go_wp2_with fail
            refine (num10_any _ _).mono ?_
            rintro e w' ⟨rfl, rfl⟩
            go_wp2_with fail
            go_roundw
            case rel => exact ⟨k + 1, gd2, F4, D', vs, C, by go_num, by omega, rfl, HI4.out, HGN.out, HC4.out, by omega, fun k hk => Nat.le_trans HBW.out.size (HF4.out k hk), hb14⟩
            case measure => simp [intOf]; omega
        · have i4 : ¬ ((k : Int) < 4) := by omega
          have hb := HBW.out
          go_wp2_with fail
          refine (HFIN.out _ hb).mono ?_
          rintro e w9 ⟨rfl, hb9⟩
          go_wp2_with fail
          go_ret
          exact ⟨rfl, hb9⟩

end Go.Proofs.Ytecgagfpckaieaa
