/-
  What was appended and not synced is, behind a crash, there, not there, or torn: the walk.
-/
import Derived.Test.YtejfilphnebckaaDNames
import Derived.Laws.BytesArg
namespace Go.Proofs.Ytejfilphnebckaa
open Go.RowKit

/-- string(b) of some bytes -/
theorem conv_rd9 (w : World) {A : Option Addr} {n : Nat} {zs : List Int} (hz : zs.length = n) (h0 : 0 < n) (hr : Rd w A (u8s zs)) (c : Nat) :
    (convert 39 9 (.slice A n c)).run Try.prog w = .ok (.string (strOfNums zs)) w := by
  subst hz
  obtain ⟨b, off, rfl, _, hc⟩ := hr.open_ (by rw [u8s_length]; exact h0)
  refine run_convert_bytes_arg w 39 5 Try.underlying39 Try.underlying5 b off zs.length c zs rfl (fun i hi => ?_) 9 Try.underlying9
  rw [hc i _ (u8s_at hi)]
  rw [List.getD_eq_getElem?_getD]

def bF : ByteArray := ⟨#[102]⟩
def syL : List Int := [115, 121, 110, 99, 101, 100]
theorem sy_byts : Byts syL := fun x hx => by
  simp [syL] at hx
  rcases hx with rfl | rfl | rfl | rfl | rfl | rfl <;> exact ⟨by decide, by decide⟩
theorem bF_ok : okName bF = true := by decide +kernel
theorem app_one {f : PF} {c : Nat} (h : okName f.nm = true) (b : List Int) (hb : b.length + f.vis.length ≤ 1048576) : dAppend ⟨[f], c, 0, false⟩ f.nm b = (⟨[⟨f.nm, f.vis ++ b, f.dur⟩], c + 1, 0, false⟩, 0) := by
  obtain ⟨h1, h2, _⟩ := one_at f c 0 false
  rw [dAppend, if_neg (by rw [h]; decide), if_neg (by show ¬ (false = true); decide), if_neg (by rw [PD.lenAt, h1]; show ¬ 1048576 < b.length + f.vis.length; omega), h1, h2]
  rfl
/-- what a crash may leave -/
def OkT (zs dat : List Int) : Prop := (dat.length = 6 ∨ dat.length = 6 + zs.length) ∧ dat.take 6 = syL ∧ ∀ (k : Nat) (x : Int), 6 ≤ k → dat[k]? = some x → x = 0 ∨ zs[k - 6]? = some x
theorem okT_sy (zs : List Int) : OkT zs syL := ⟨.inl rfl, rfl, fun k x hk hx => by rw [List.getElem?_eq_none (by show 6 ≤ k; exact hk)] at hx; cases hx⟩
theorem okT_all (zs : List Int) : OkT zs (syL ++ zs) := ⟨.inr (by simp [syL]; omega), rfl, fun k x hk hx => .inr (by rw [List.getElem?_append_right (by show 6 ≤ k; exact hk)] at hx; exact hx)⟩
theorem okT_torn (zs : List Int) (q : Int) : OkT zs (tornB (syL ++ zs) syL q) := by
  unfold tornB
  generalize (q % (((max (syL ++ zs).length syL.length + 31) / 32 + 1 : Nat) : Int)).toNat * 32 = n
  have hl : (syL ++ zs).length = 6 + zs.length := by rw [List.length_append]; rfl
  rw [hl]
  refine ⟨.inr (by simp), ?_, fun k x hk hx => ?_⟩
  · refine List.ext_getElem? fun i => ?_
    rcases Nat.lt_or_ge i 6 with h | h
    · rw [List.getElem?_take_of_lt h, List.getElem?_map, List.getElem?_range (by omega)]
      have e : (syL ++ zs).getD i 0 = syL.getD i 0 := by rw [List.getD_eq_getElem?_getD, List.getD_eq_getElem?_getD, List.getElem?_append_left (by show i < 6; exact h)]
      have e2 : syL[i]? = some (syL.getD i 0) := by rw [List.getD_eq_getElem?_getD, List.getElem?_eq_getElem (by show i < 6; exact h)]; rfl
      rw [e2]
      simp only [Option.map_some, Option.some.injEq]
      split
      · exact e
      · rfl
    · rw [List.getElem?_take_eq_none h, List.getElem?_eq_none (by show 6 ≤ i; exact h)]
  · rw [List.getElem?_map] at hx
    rcases Nat.lt_or_ge k (6 + zs.length) with h | h
    · rw [List.getElem?_range h] at hx
      simp only [Option.map_some, Option.some.injEq] at hx
      split at hx
      · right
        rw [List.getD_eq_getElem?_getD, List.getElem?_append_right (by show 6 ≤ k; exact hk)] at hx
        have e : k - syL.length = k - 6 := rfl
        rw [e, List.getElem?_eq_getElem (by omega)] at hx
        rw [List.getElem?_eq_getElem (by omega), ← hx]
        rfl
      · left
        rw [List.getD_eq_getElem?_getD, List.getElem?_eq_none (by show 6 ≤ k; exact hk)] at hx
        exact hx.symm
    · rw [List.getElem?_eq_none (by simp; omega)] at hx
      cases hx
theorem okT_crash (zs ps : List Int) : ∃ dat, dCrash ⟨[⟨bF, syL ++ zs, syL⟩], 3, 0, false⟩ ps = [(bF, dat)] ∧ OkT zs dat := by
  show ∃ dat, crashL [⟨bF, syL ++ zs, syL⟩] ps = [(bF, dat)] ∧ OkT zs dat
  simp only [crashL]
  split
  · exact ⟨_, rfl, okT_sy zs⟩
  · refine ⟨_, rfl, ?_⟩
    unfold outl
    split
    · exact okT_sy zs
    · split
      · exact okT_all zs
      · exact okT_torn zs _
theorem str_sy : strOfNums syL = ⟨#[115, 121, 110, 99, 101, 100]⟩ := by decide +kernel
theorem one_of {l : List FL} {nm : ByteArray} {dat : List Int} (h : l.map FL.pl = [(nm, dat)]) : ∃ f, l = [f] ∧ f.nm = nm ∧ f.dat = dat := by
  match l, h with
  | [f], h =>
    simp [FL.pl] at h
    exact ⟨f, rfl, h.1, h.2⟩

set_option maxRecDepth 100000 in
set_option maxHeartbeats 16000000 in
theorem diskTorn_is (s : Scr9) (w : World) (h : ScrIn w s) : Calls Try.prog 6 #[scrV s] w (Tells w.heap.size w (.bool true)) := by
  obtain ⟨w1, hw1⟩ : ∃ w1, w1 = w.alloc (.cells #[.slice s.AF s.nF s.cF, .slice s.AL s.nL s.cL] 25) := ⟨_, rfl⟩
  have hb1 : Below w.heap.size w w1 := by rw [hw1]; exact (Below.refl _ _).alloc (Nat.le_refl _) _
  have bx1 : Box w1 w.heap.size (scrC s) := by rw [hw1]; exact box_new w (scrC s) 25
  have HW := Lib.hid hw1
  have HX := Lib.hid bx1
  have HI : Hid (∀ wX, Below w1.heap.size w1 wX → ScrIn wX s) := fun wX hX => h.below (hb1.trans (hX.mono hb1.size))
  have HI1 := Lib.hid (h.below hb1)
  obtain ⟨nL, hnL⟩ : ∃ nL, s.nL = nL := ⟨_, rfl⟩
  have HNL := Lib.hid hnL
  have HC1 : Hid (∀ wX, Below w1.heap.size w1 wX → wX.cell? ⟨w.heap.size, 1, none⟩ = some (.slice s.AL nL s.cL)) := fun wX h => by rw [← hnL]; exact (bx1.below h bx1.1).2 1 _ rfl
  have hcv := conv_const
  clear hw1 bx1 h hnL
  unfold scrV
  go_enter Try.func6, Try.ntmps6
  go_upto_region 1 with fail
  rw [← HW.out]
  go_wp2_with (refine wpList_load_box rfl 25 _ rfl w.heap.size rfl (scrC s) HX.out _ Try.underlying25 rfl size_scr ?_)
  refine (heavy9_any s _ HI1.out).mono ?_
  rintro e w2 ⟨b, rfl, hb2, hlight⟩
  cases b with
  | true =>
    go_wp2_with fail
    go_ret
    exact ⟨rfl, hb1.trans (hb2.mono hb1.size)⟩
  | false =>
    have HLI := Lib.hid (hlight rfl)
    clear hlight
    go_wp2_with fail
    go_loopw [3] (fun i wr => ∃ k : Nat, i = .int .i64 k ∧ k ≤ 40 ∧ Below w1.heap.size w1 wr) (fun i _ => 40 - (intOf i).toNat)
    case atStart => exact ⟨0, rfl, by omega, hb2⟩
    case round =>
      obtain ⟨k, rfl, hk40, hb⟩ := hrel
      clear hb2
      have c1 := HC1.out _ hb
      have i0 : (0 : Int) ≤ (k : Int) := by omega
      have fin : ∀ wX, Below w1.heap.size w1 wX → Calls Try.prog 14 #[] wX (Tells w.heap.size w (.bool true)) := fun wX hX => (wakes9_any wX).mono fun e w' hh => ⟨hh.1, hb1.trans ((hX.trans (hh.2.mono hX.size)).mono hb1.size)⟩
      by_cases hlt : k < nL
      · have i1 : (k : Int) < (nL : Int) := by omega
        by_cases h40 : k < 40
        · have i2 : (k : Int) < 40 := by omega
          obtain ⟨bl, off, a, hAL, hbl, hx, hmem, hrg⟩ := (HI.out _ hb).at_ (k := k) (by rw [HNL.out]; exact hlt)
          rw [hAL] at c1
          obtain ⟨hfB, hfK⟩ := HLI.out.2.2 k a h40 hx
          have HA : Hid (∀ wX, Below w1.heap.size w1 wX → ActIn wX a) := fun wX hX => (HI.out _ hX).act a hmem
          have d0 : wr.cell? ⟨bl, off + k * 6, none⟩ = some (.int .i64 a.Do) := hrg 0 _ rfl
          have d1 : wr.cell? ⟨bl, off + k * 6 + 1, none⟩ = some (.string a.A) := hrg 1 _ rfl
          have d2 : wr.cell? ⟨bl, off + k * 6 + 2, none⟩ = some (.string a.B) := hrg 2 _ rfl
          have d3 : wr.cell? ⟨bl, off + k * 6 + 3, none⟩ = some (.int .i64 a.N) := hrg 3 _ rfl
          have d4 : wr.cell? ⟨bl, off + k * 6 + 4, none⟩ = some (.slice a.AB a.nB a.cB) := hrg 4 _ rfl
          have d5 : wr.cell? ⟨bl, off + k * 6 + 5, none⟩ = some (.slice a.AK a.nK a.cK) := hrg 5 _ rfl
          clear hAL hmem hrg hx
          obtain ⟨nB, hnB⟩ : ∃ nB, a.nB = nB := ⟨_, rfl⟩
          obtain ⟨nK, hnK⟩ : ∃ nK, a.nK = nK := ⟨_, rfl⟩
          rw [hnB] at d4 hfB
          rw [hnK] at d5 hfK
          have HNB := Lib.hid hnB
          have HNK := Lib.hid hnK
          clear hnB hnK
          obtain ⟨ga, hga⟩ : ∃ ga, ga = wr.heap.size := ⟨_, rfl⟩
          obtain ⟨w3, hw3⟩ : ∃ w3, w3 = wr.alloc (.cells #[.int .i64 a.Do, .string a.A, .string a.B, .int .i64 a.N, .slice a.AB nB a.cB, .slice a.AK nK a.cK] 42) := ⟨_, rfl⟩
          have hb3 : Below wr.heap.size wr w3 := by rw [hw3]; exact (Below.refl _ _).alloc (Nat.le_refl _) _
          have bx3 : Box w3 ga [.int .i64 a.Do, .string a.A, .string a.B, .int .i64 a.N, .slice a.AB nB a.cB, .slice a.AK nK a.cK] := by rw [hw3, hga]; exact box_new wr _ _
          go_upto_region 7 with fail
          rw [← hw3, ← hga]
          have hz3 : w3.heap.size = ga + 1 := by rw [hw3, hga]; simp
          clear hw3 hga d0 d1 d2 d3 d4 d5 c1
          have hb13 : Below w1.heap.size w1 w3 := hb.trans (hb3.mono hb.size)
          have HB13 := Lib.hid hb13
          have HBX := Lib.hid bx3
          have HF4 : Hid (∀ wX, Below w3.heap.size w3 wX → wX.cell? ⟨ga, 4, none⟩ = some (.slice a.AB nB a.cB)) := fun wX hX => (HBX.out.below hX (by omega)).2 4 _ rfl
          have HF5 : Hid (∀ wX, Below w3.heap.size w3 wX → wX.cell? ⟨ga, 5, none⟩ = some (.slice a.AK nK a.cK)) := fun wX hX => (HBX.out.below hX (by omega)).2 5 _ rfl
          have HA3 : Hid (∀ wX, Below w3.heap.size w3 wX → ActIn wX a) := fun wX hX => HA.out wX (HB13.out.trans (hX.mono HB13.out.size))
          have hBlt : ∀ ad, a.AB = some ad → 0 < nB → ad.block < w3.heap.size := fun ad had h0 => by
            have hi := HA3.out w3 (Below.refl _ _)
            obtain ⟨b', off', e', hb', _⟩ := hi.rB.open_ (by rw [u8s_length, hi.zB, HNB.out]; exact h0)
            rw [e'] at had
            cases had
            exact hb'
          have HBL := Lib.hid hBlt
          clear bx3 hb13 hb3 HA hBlt
          go_wp2_with fail
          refine (new_nil _).mono ?_
          rintro e w4 ⟨hb4, g, rfl, hd4⟩
          have HD4 := Lib.hid hd4
          have HB4 := Lib.hid hb4
          have hz4 := hb4.size
          clear hd4 hb4
          go_wp2_with fail
          refine (num9_any _ _).mono ?_
          rintro e w' ⟨rfl, rfl⟩
          go_wp2_with fail
          obtain ⟨w5, hw5⟩ : ∃ w5, w5 = w4.alloc (.cells #[.int .u8 115, .int .u8 121, .int .u8 110, .int .u8 99, .int .u8 101, .int .u8 100] 5 (6, 7)) := ⟨_, rfl⟩
          have hb5 : Below w4.heap.size w4 w5 := by rw [hw5]; exact (Below.refl _ _).alloc (Nat.le_refl _) _
          have hr5 : Rd w5 (some ⟨w4.heap.size, 0, none⟩) (u8s syL) := by rw [hw5]; exact rd_mark w4 (u8s syL) _ _
          have hz5 : w5.heap.size = w4.heap.size + 1 := by rw [hw5]; simp
          rw [← hw5]
          clear hw5
          have hd5 := HD4.out.wide hb5
          refine (hd_append hd5 bF (some ⟨w4.heap.size, 0, none⟩) 6 6 syL (by decide) (by decide) ⟨rfl, hr5, sy_byts, by omega, by decide, by omega, fun a ha _ => by cases ha; exact .inr ⟨Nat.le_refl _, by show w4.heap.size < _; omega⟩⟩).mono ?_
          rintro e w6 ⟨he, hd6, ht6⟩
          rw [app_new bF_ok syL (by decide)] at he hd6
          subst he
          have hd6 : HDG (fun k => k < w3.heap.size) w6 g ⟨[⟨bF, syL, []⟩], 1, 0, false⟩ := hd6.less fun k hk => .inl hk
          have hb6 : Below w3.heap.size w5 w6 := ht6.below (fun k hk => by
            by_cases h' : k < w3.heap.size
            · exact absurd (.inl h') hk
            · omega) (by omega)
          have hz6 := hb6.size
          have HD6 := Lib.hid hd6
          have HB36 := Lib.hid ((HB4.out.trans (hb5.mono hz4)).trans hb6)
          clear hd5 hd6 ht6 hr5 hb5 hb6
          go_wp2_with fail
          refine (num9_any _ _).mono ?_
          rintro e w' ⟨rfl, rfl⟩
          go_wp2_with fail
          refine (hd_sync HD6.out bF (by decide) (by show 1 ≤ 1000000; omega)).mono ?_
          rintro e w7 ⟨he, hd7, ht7⟩
          rw [sync_one (f := ⟨bF, syL, []⟩) bF_ok] at he hd7
          subst he
          have hb7 : Below w3.heap.size w6 w7 := touch_below ht7 HD6.out.size
          have hz7 := hb7.size
          have HD7 := Lib.hid hd7
          have HB37 := Lib.hid (HB36.out.trans hb7)
          clear hd7 ht7 hb7
          have f4 := HF4.out _ HB37.out
          go_wp2_with fail
          refine (num9_any _ _).mono ?_
          rintro e w' ⟨rfl, rfl⟩
          go_wp2_with fail
          have hi7 := HA3.out _ HB37.out
          refine (hd_append HD7.out bF a.AB nB a.cB a.bs (by decide) (by show 2 ≤ 1000000; omega) ⟨hi7.zB.trans HNB.out, hi7.rB, hi7.yB, by have := hi7.kB; have := HNB.out; omega, hi7.xB, by omega, fun ad had h0 => HBL.out ad had h0⟩).mono ?_
          rintro e w8 ⟨he, hd8, ht8⟩
          rw [app_one (f := ⟨bF, syL, syL⟩) bF_ok a.bs (by have h1 := hi7.zB; have h2 := HNB.out; show a.bs.length + 6 ≤ 1048576; omega)] at he hd8
          subst he
          have hb8 : Below w3.heap.size w7 w8 := touch_below ht8 HD7.out.size
          have hz8 := hb8.size
          have HD8 := Lib.hid hd8
          have HB38 := Lib.hid (HB37.out.trans hb8)
          clear hd8 ht8 hb8 f4 hi7
          have f5 := HF5.out _ HB38.out
          go_wp2_with fail
          refine (num9_any _ _).mono ?_
          rintro e w' ⟨rfl, rfl⟩
          go_wp2_with fail
          have hi8 := HA3.out _ HB38.out
          refine (hd_crash HD8.out a.AK nK a.cK a.ps (hi8.zK.trans HNK.out) hi8.rK (by have := hi8.kK; have := HNK.out; omega) hi8.xK hi8.yK).mono ?_
          rintro e w9 ⟨v9, l9, rfl, hm9, ho9, hb9⟩
          obtain ⟨dat, hdat, hT⟩ := okT_crash a.bs a.ps
          rw [hdat] at hm9
          obtain ⟨fl9, rfl, hn9, hd9⟩ := one_of hm9
          obtain ⟨⟨Ad, cd, hv9, hcd, hmd, hrd⟩, hbd⟩ := ho9.fin (List.mem_singleton.2 rfl)
          obtain ⟨AR, cR, rfl, hcR, hmR, hrR, _⟩ := ownS_slice ho9.row
          rw [hd9] at hv9 hcd hrd hbd
          obtain ⟨nD, hnD⟩ : ∃ nD, dat.length = nD := ⟨_, rfl⟩
          have hzn : a.bs.length = nB := hi8.zB.trans HNB.out
          have hT1 := hT.1
          rw [hnD] at hv9 hcd hT1
          rw [hzn] at hT1
          obtain ⟨bR, oR, rfl, _, hcR'⟩ := hrR.open_ (by rw [cellsF_length]; show 0 < 1 * 2; omega)
          have r0 : w9.cell? ⟨bR, oR, none⟩ = some (.string ⟨#[102]⟩) := by show _ = some (Value.string bF); rw [← hn9]; exact hcR' 0 _ rfl
          have r1 : w9.cell? ⟨bR, oR + 1, none⟩ = some (.slice Ad nD cd) := by rw [← hv9]; exact hcR' 1 _ rfl
          have hb39 := HB38.out.trans (hb9.mono (by omega))
          have f4 := HF4.out _ hb39
          have HB19 := Lib.hid (HB13.out.trans (hb39.mono HB13.out.size))
          have HRD := Lib.hid hrd
          have HTT := Lib.hid hT
          have HND := Lib.hid hnD
          have HZN := Lib.hid hzn
          have HBD := Lib.hid hbd
          have HAI := Lib.hid (HA3.out _ hb39)
          have HB9 : Hid (∀ wX, Below w9.heap.size w9 wX → ActIn wX a ∧ wX.cell? ⟨ga, 4, none⟩ = some (.slice a.AB nB a.cB)) := fun wX hX => ⟨(HA3.out _ hb39).below hX, HF4.out _ (hb39.trans (hX.mono hb39.size))⟩
          clear hcR' hrR hT ho9 hb9 hdat hn9 hd9 hrd hbd hnD hi8 f5 hb39 hm9 hzn
          have hAd : ∃ bD oD, Ad = some ⟨bD, oD, none⟩ := by
            obtain ⟨bD, oD, e, _, _⟩ := HRD.out.open_ (by rw [u8s_length, HND.out]; omega)
            exact ⟨bD, oD, e⟩
          obtain ⟨bD, oD, rfl⟩ := hAd
          have hcv6 : ∀ c, (convert 39 9 (.slice (some ⟨bD, oD, none⟩) 6 c)).run Try.prog w9 = .ok (.string ⟨#[115, 121, 110, 99, 101, 100]⟩) w9 := fun c => by
            rw [← str_sy]
            refine conv_rd9 (zs := syL) (n := 6) w9 rfl (by decide) ?_ c
            rw [← HTT.out.2.1]
            refine rd_of fun i v hv => ?_
            obtain ⟨b', o', e', _, hc'⟩ := HRD.out.open_ (by rw [u8s_length, HND.out]; omega)
            cases e'
            rw [Addr.add_lit]
            refine hc' i v ?_
            simp only [u8s, List.getElem?_map, List.getElem?_take] at hv ⊢
            split at hv
            · exact hv
            · cases hv
          have HRC : Hid (∀ wX, Below w9.heap.size w9 wX → ∀ (j : Nat) (x : Int), dat[j]? = some x → wX.cell? ⟨bD, oD + j, none⟩ = some (.int .u8 x)) := fun wX hX j x hj => by
            obtain ⟨b', o', e', _, hc'⟩ := (HRD.out.below hX).open_ (by rw [u8s_length, HND.out]; omega)
            cases e'
            exact hc' j _ (by simp only [u8s, List.getElem?_map, hj]; rfl)
          have hcn : 6 ≤ cd := by omega
          have jcn : (6 : Int) ≤ (cd : Int) := by omega
          have ew6 : IntKind.i64.wrap (6 + (nB : Int)) = 6 + (nB : Int) := by rw [IntKind.wrap_i64]; omega
          have h6 : nD = 6 ∨ (nD ≠ 6 ∧ nD = 6 + nB) := by omega
          have hx6 : ((nD : Int) != 6) = false ∨ (((nD : Int) != 6) = true ∧ ((nD : Int) != 6 + (nB : Int)) = false) := by
            rcases h6 with h | ⟨h, h'⟩
            · left; rw [h]; rfl
            · right; exact ⟨by simp; omega, by simp; omega⟩
          have HD10 : Hid (nD ≤ 6 + nB) := by show nD ≤ 6 + nB; omega
          have j6 : (6 : Int) ≤ (nD : Int) := by omega
          have hnD6 : 6 ≤ nD := by omega
          have hnDm : nD ≤ 10006 := by omega
          clear hT1 h6
          rcases hx6 with e6 | ⟨e6, e7⟩
          all_goals
            go_wp2_with fail
            go_loopw [9] (fun i wr => ∃ j : Nat, i = .int .i64 j ∧ 6 ≤ j ∧ j ≤ nD ∧ Below w9.heap.size w9 wr) (fun i _ => nD - (intOf i).toNat)
            case atStart => exact ⟨6, rfl, by omega, by omega, Below.refl _ _⟩
            case round =>
              rename_i wq _ _
              obtain ⟨j, rfl, hj6, hjn, hbq⟩ := hrel
              have q0 : (0 : Int) ≤ (j : Int) := by omega
              by_cases hjl : j < nD
              · have q1 : (j : Int) < (nD : Int) := by omega
                obtain ⟨x, hx⟩ : ∃ x, dat[j]? = some x := ⟨dat[j]'(by rw [HND.out]; exact hjl), by simp⟩
                have hcx := HRC.out _ hbq j x hx
                have hor := HTT.out.2.2 j x hj6 hx
                have hf4 := (HB9.out _ hbq).2
                have hai := (HB9.out _ hbq).1
                by_cases hx0 : x = 0
                · have g0 : (x != 0) = false := by simp [hx0]
                  clear hor hx hx0 hai
                  go_wp2_with fail
                  go_quiet (fail)
                  go_wp2_with fail
                  go_roundw
                  case rel => exact ⟨j + 1, by go_num, by omega, by omega, by first | exact hbq | exact below_n hbq _⟩
                  case measure => simp [intOf]; omega
                · have g0 : (x != 0) = true := by simp [hx0]
                  obtain ⟨m, hm⟩ : ∃ m, j = 6 + m := ⟨j - 6, by omega⟩
                  have hzm : a.bs[m]? = some x := by
                    rcases hor with h | h
                    · exact absurd h hx0
                    · rwa [show j - 6 = m by omega] at h
                  have hml : m < nB := by have := (List.getElem?_eq_some_iff.1 hzm).1; have := HZN.out; omega
                  obtain ⟨bB, oB, hAB, _, hcB⟩ := hai.rB.open_ (by rw [u8s_length]; have := HZN.out; omega)
                  have hcy := hcB m (.int .u8 x) (by simp only [u8s, List.getElem?_map, hzm]; rfl)
                  rw [hAB] at hf4
                  have ewj : IntKind.i64.wrap ((j : Int) - 6) = (m : Int) := by rw [IntKind.wrap_i64]; omega
                  have q2 : (0 : Int) ≤ (m : Int) := by omega
                  have q3 : (m : Int) < (nB : Int) := by omega
                  clear hor hx hx0 hai hzm hcB hAB hm
                  go_wp2_with fail
                  go_quiet (fail)
                  go_wp2_with fail
                  go_roundw
                  case rel => exact ⟨j + 1, by go_num, by omega, by omega, by first | exact hbq | exact below_n hbq _⟩
                  case measure => simp [intOf]; omega
              · have q1 : ¬ ((j : Int) < (nD : Int)) := by omega
                go_wp2_with fail
                go_roundw
                case rel => exact ⟨k + 1, by go_num, by omega, HB19.out.trans (hbq.mono HB19.out.size)⟩
                case measure => simp [intOf]; omega
        · have i2 : ¬ ((k : Int) < 40) := by omega
          go_wp2_with fail
          refine (fin _ hb).mono ?_
          rintro e w3 ⟨rfl, hb3⟩
          go_wp2_with fail
          go_ret
          exact ⟨rfl, hb3⟩
      · have i1 : ¬ ((k : Int) < (nL : Int)) := by omega
        go_wp2_with fail
        refine (fin _ hb).mono ?_
        rintro e w3 ⟨rfl, hb3⟩
        go_wp2_with fail
        go_ret
        exact ⟨rfl, hb3⟩

end Go.Proofs.Ytejfilphnebckaa
