/-
  Whether any text is a file's name is the page's, by each call that takes one: the walk.
-/
import Derived.Test.YtejfilphnebckaaDName
namespace Go.Proofs.Ytejfilphnebckaa
open Go.RowKit

theorem one_at (f : PF) (c l : Nat) (o : Bool) : (⟨[f], c, l, o⟩ : PD).fileAt f.nm = some f ∧ (⟨[f], c, l, o⟩ : PD).pos f.nm = 0 ∧ (⟨[f], c, l, o⟩ : PD).has f.nm = true := by
  have hp : posN [f.nm] f.nm = 0 := by simp [posN, ltN_irrefl]
  have hh : hasN [f.nm] f.nm = true := by simp [hasN, hp]
  refine ⟨?_, hp, hh⟩
  show (if hasN [f.nm] f.nm = true then [f][posN [f.nm] f.nm]? else none) = some f
  rw [if_pos hh, hp]
  rfl
theorem app_new {s : ByteArray} (h : okName s = true) (b : List Int) (hb : b.length ≤ 1048576) : dAppend (dNew []) s b = (⟨[⟨s, b, []⟩], 1, 0, false⟩, 0) := by
  rw [dAppend, if_neg (by rw [h]; decide), if_neg (by decide), if_neg (by show ¬ 1048576 < b.length + 0; omega)]
  rfl
theorem app_no {D : PD} {s : ByteArray} (h : okName s = false) (b : List Int) : dAppend D s b = (D, 1) := by rw [dAppend, if_pos h]
theorem sync_one {f : PF} {c : Nat} (h : okName f.nm = true) : dSync ⟨[f], c, 0, false⟩ f.nm = (⟨[⟨f.nm, f.vis, f.vis⟩], c + 1, 0, false⟩, 0) := by
  rw [dSync, dOpen_yes h (by rfl) (one_at f c 0 false).1, (one_at f c 0 false).2.1]
  rfl
theorem mayB_one (s : ByteArray) : mayB [(s, [])] = okName s := by
  cases h : okName s with
  | true =>
    refine mayB_yes (by simp) fun i hi => ?_
    have : i = 0 := by simpa using hi
    subst this
    simp [okAt, h]
  | false => exact mayB_no (i := 0) (by simp) (by simp [okAt, h])
theorem name_max {s : ByteArray} (h : s.size ≤ 140737488351232) : s.size ≤ maxLen := by unfold maxLen; omega

set_option maxRecDepth 100000 in
set_option maxHeartbeats 8000000 in
theorem diskNames_is (s : Scr9) (w : World) (h : ScrIn w s) : Calls Try.prog 5 #[scrV s] w (Tells w.heap.size w (.bool true)) := by
  obtain ⟨w1, hw1⟩ : ∃ w1, w1 = w.alloc (.cells #[.slice s.AF s.nF s.cF, .slice s.AL s.nL s.cL] 25) := ⟨_, rfl⟩
  have hb1 : Below w.heap.size w w1 := by rw [hw1]; exact (Below.refl _ _).alloc (Nat.le_refl _) _
  have bx1 : Box w1 w.heap.size (scrC s) := by rw [hw1]; exact box_new w (scrC s) 25
  have HW := Lib.hid hw1
  have HX := Lib.hid bx1
  have HI : Hid (∀ wX, Below w1.heap.size w1 wX → ScrIn wX s) := fun wX hX => h.below (hb1.trans (hX.mono hb1.size))
  have HI1 := Lib.hid (h.below hb1)
  obtain ⟨nL, hnL⟩ : ∃ nL, s.nL = nL := ⟨_, rfl⟩
  have HNL := Lib.hid hnL
  have HC1 : Hid (∀ wX, Below w1.heap.size w1 wX → wX.cell? ⟨w.heap.size, 1, none⟩ = some (.slice s.AL nL s.cL)) := fun wX h => by rw [← hnL]; exact (bx1.below h bx1.1).2 1 _ rfl
  clear hw1 bx1 h hnL
  unfold scrV
  go_enter Try.func5, Try.ntmps5
  go_upto_region 1 with fail
  rw [← HW.out]
  go_wp2_with (refine wpList_load_box rfl 25 _ rfl w.heap.size rfl (scrC s) HX.out _ Try.underlying25 rfl size_scr ?_)
  refine (heavy9_any s _ HI1.out).mono ?_
  rintro e w2 ⟨b, rfl, hb2, hlight⟩
  cases b with
  | true =>
    go_wp2_with fail
    go_ret
    exact ⟨rfl, hb1.trans (hb2.mono hb1.size)⟩
  | false =>
    clear hlight
    go_wp2_with fail
    go_loopw [3] (fun i wr => ∃ k : Nat, i = .int .i64 k ∧ k ≤ 40 ∧ Below w1.heap.size w1 wr) (fun i _ => 40 - (intOf i).toNat)
    case atStart => exact ⟨0, rfl, by omega, hb2⟩
    case round =>
      obtain ⟨k, rfl, hk40, hb⟩ := hrel
      clear hb2
      have c1 := HC1.out _ hb
      have i0 : (0 : Int) ≤ (k : Int) := by omega
      have fin : ∀ wX, Below w1.heap.size w1 wX → Calls Try.prog 14 #[] wX (Tells w.heap.size w (.bool true)) := fun wX hX => (wakes9_any wX).mono fun e w' hh => ⟨hh.1, hb1.trans ((hX.trans (hh.2.mono hX.size)).mono hb1.size)⟩
      by_cases hlt : k < nL
      · have i1 : (k : Int) < (nL : Int) := by omega
        by_cases h40 : k < 40
        · have i2 : (k : Int) < 40 := by omega
          obtain ⟨bl, off, a, hAL, hbl, hx, hmem, hrg⟩ := (HI.out _ hb).at_ (k := k) (by rw [HNL.out]; exact hlt)
          rw [hAL] at c1
          have hsz := name_max ((HI.out _ hb).act a hmem).sA
          have hcA : wr.cell? ⟨bl, off + k * 6 + 1, none⟩ = some (.string a.A) := hrg 1 _ rfl
          clear hAL hmem hrg hx
          obtain ⟨nm, hnm⟩ : ∃ nm, a.A = nm := ⟨_, rfl⟩
          rw [hnm] at hcA hsz
          clear hnm
          have hsz' := Lib.hid hsz
          clear hsz
          go_wp2_with fail
          refine (new_nil _).mono ?_
          rintro e w3 ⟨hb3, g, rfl, hd3⟩
          have HD := Lib.hid hd3
          clear hd3
          have hz3 := hb3.size
          go_wp2_with fail
          obtain ⟨w4, hw4⟩ : ∃ w4, w4 = w3.alloc (.cells #[.string nm, .slice none 0 0] 59) := ⟨_, rfl⟩
          have hb4 : Below w3.heap.size w3 w4 := by rw [hw4]; exact (Below.refl _ _).alloc (Nat.le_refl _) _
          have hr4 : Rd w4 (some ⟨w3.heap.size, 0, none⟩) (cellsF [⟨nm, [], .slice none 0 0⟩]) := by rw [hw4]; exact rd_new w3 (cellsF [⟨nm, [], .slice none 0 0⟩]) _
          rw [← hw4]
          clear hw4
          have hz4 := hb4.size
          refine (new_is (some ⟨w3.heap.size, 0, none⟩) 1 1 [⟨nm, [], .slice none 0 0⟩] [(nm, [])] _ rfl rfl hr4 (fun f hf => by
            simp at hf
            subst hf
            exact ⟨⟨none, 0, rfl, by simp, by simp [maxLen], Rd.nil _ _⟩, fun x hx => by simp at hx⟩) (fun f hf => by
            simp at hf
            subst hf
            exact hsz'.out) (by omega) (by omega)).mono ?_
          rintro e w5 ⟨hb5, hif⟩
          have hz5 := hb5.size
          rw [mayB_one] at hif
          have hd5 : HDG (fun k => k < wr.heap.size) w5 g (dNew []) := (HD.out.kept hb4).kept hb5
          have HD5 := Lib.hid hd5
          clear hd5 HD
          have hb15 : Below w1.heap.size w1 w5 := hb.trans ((hb3.trans ((hb4.trans (hb5.mono hz4)).mono hz3)).mono hb.size)
          have HB15 := Lib.hid hb15
          clear hb15
          cases hok : okName nm with
          | true =>
            rw [if_pos hok] at hif
            obtain ⟨g2, F2, rfl, _, _⟩ := hif
            have HOK := Lib.hid hok
            clear hok
            go_wp2_with fail
            refine (num9_any _ _).mono ?_
            rintro e w' ⟨rfl, rfl⟩
            go_wp2_with fail
            refine (refName_any nm _).mono ?_
            rintro e w' ⟨he, rfl⟩
            rw [HOK.out] at he
            subst he
            go_wp2_with fail
            refine (num9_any _ _).mono ?_
            rintro e w' ⟨rfl, rfl⟩
            go_wp2_with fail
            refine (hd_append HD5.out nm none 0 0 [] hsz'.out (by decide) ⟨rfl, Rd.nil _ _, fun x hx => by simp at hx, by omega, by decide, by omega, fun a ha => by cases ha⟩).mono ?_
            rintro e w6 ⟨he, hd6, ht6⟩
            rw [app_new HOK.out [] (by simp)] at he hd6
            subst he
            have hb6 : Below wr.heap.size w5 w6 := touch_below ht6 HD5.out.size
            have HD6 := Lib.hid hd6
            clear hd6 ht6
            go_wp2_with fail
            refine (num9_any _ _).mono ?_
            rintro e w' ⟨rfl, rfl⟩
            go_wp2_with fail
            refine (hd_sync HD6.out nm hsz'.out (by first | decide | (show 1 ≤ 1000000; omega))).mono ?_
            rintro e w7 ⟨he, hd7, ht7⟩
            rw [sync_one (f := ⟨nm, [], []⟩) HOK.out] at he
            subst he
            have hb7 : Below wr.heap.size w6 w7 := touch_below ht7 HD6.out.size
            clear hd7 ht7
            have hb17 : Below w1.heap.size w1 w7 := HB15.out.trans ((hb6.mono hb.size).trans (hb7.mono hb.size))
            go_wp2_with fail
            refine (num9_any _ _).mono ?_
            rintro e w' ⟨rfl, rfl⟩
            go_wp2_with fail
            go_roundw
            case rel => exact ⟨k + 1, by go_num, by omega, hb17⟩
            case measure => simp [intOf]; omega
          | false =>
            rw [if_neg (by rw [hok]; decide)] at hif
            subst hif
            have HOK := Lib.hid hok
            clear hok
            go_wp2_with fail
            refine (num9_any _ _).mono ?_
            rintro e w' ⟨rfl, rfl⟩
            go_wp2_with fail
            refine (refName_any nm _).mono ?_
            rintro e w' ⟨he, rfl⟩
            rw [HOK.out] at he
            subst he
            go_wp2_with fail
            refine (num9_any _ _).mono ?_
            rintro e w' ⟨rfl, rfl⟩
            go_wp2_with fail
            refine (hd_append HD5.out nm none 0 0 [] hsz'.out (by decide) ⟨rfl, Rd.nil _ _, fun x hx => by simp at hx, by omega, by decide, by omega, fun a ha => by cases ha⟩).mono ?_
            rintro e w6 ⟨he, hd6, ht6⟩
            rw [app_no HOK.out []] at he hd6
            subst he
            have hb6 : Below wr.heap.size w5 w6 := touch_below ht6 HD5.out.size
            have HD6 := Lib.hid hd6
            clear hd6 ht6
            go_wp2_with fail
            refine (num9_any _ _).mono ?_
            rintro e w' ⟨rfl, rfl⟩
            go_wp2_with fail
            refine (hd_sync HD6.out nm hsz'.out (by first | decide | (show 1 ≤ 1000000; omega))).mono ?_
            rintro e w7 ⟨he, hd7, ht7⟩
            rw [dSync, dOpen_no HOK.out] at he
            subst he
            have hb7 : Below wr.heap.size w6 w7 := touch_below ht7 HD6.out.size
            clear hd7 ht7
            have hb17 : Below w1.heap.size w1 w7 := HB15.out.trans ((hb6.mono hb.size).trans (hb7.mono hb.size))
            go_wp2_with fail
            refine (num9_any _ _).mono ?_
            rintro e w' ⟨rfl, rfl⟩
            go_wp2_with fail
            go_roundw
            case rel => exact ⟨k + 1, by go_num, by omega, hb17⟩
            case measure => simp [intOf]; omega
        · have i2 : ¬ ((k : Int) < 40) := by omega
          go_wp2_with fail
          refine (fin _ hb).mono ?_
          rintro e w3 ⟨rfl, hb3⟩
          go_wp2_with fail
          go_ret
          exact ⟨rfl, hb3⟩
      · have i1 : ¬ ((k : Int) < (nL : Int)) := by omega
        go_wp2_with fail
        refine (fin _ hb).mono ?_
        rintro e w3 ⟨rfl, hb3⟩
        go_wp2_with fail
        go_ret
        exact ⟨rfl, hb3⟩

end Go.Proofs.Ytejfilphnebckaa
