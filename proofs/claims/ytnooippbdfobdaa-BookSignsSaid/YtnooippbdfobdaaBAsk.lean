/-
  Package book as landed: the calls that read.
-/
import Derived.Test.YtnooippbdfobdaaBTurns
import Derived.BigRegion
namespace Go.Proofs.Ytnooippbdfobdaa
open Go.RowKit Go.Maps Go.WideMaps

theorem pnew_any (w : World) : Calls Try.prog 7 #[] w fun e w' => ∃ g F, e = .returned (.pointer (some ⟨g, 0, none⟩)) ∧ IsBook w' g F [] [] ∧ (∀ k, F k → w.heap.size ≤ k) ∧ Below w.heap.size w w' := by
  go_enter Try.func7, Try.ntmps7
  go_wp2
  go_ret
  exact ⟨_, _, rfl, book_new w, fun k hk => by rw [hk]; exact Nat.le_refl _, (Below.refl _ _).alloc (Nat.le_refl _) _⟩

theorem pcount_cell (g n c : Nat) (A : Option Addr) (w : World) (c1 : w.cell? ⟨g, 1, none⟩ = some (.slice A n c)) :
    Calls Try.prog 22 #[.pointer (some ⟨g, 0, none⟩)] w fun e w' => e = .returned (.int .i64 n) ∧ w = w' := by
  go_enter Try.func22, Try.ntmps22
  go_wp2
  go_ret
  exact ⟨rfl, rfl⟩

theorem phas_cell (b : Bool) (g n c : Nat) (d : Int) (A : Option Addr) (w : World) (c1 : w.cell? ⟨g, 1, none⟩ = some (.slice A n c)) (hb : decide (1 ≤ d ∧ d ≤ (n : Int)) = b) :
    Calls Try.prog 24 #[.pointer (some ⟨g, 0, none⟩), .int .i64 d] w fun e w' => e = .returned (.bool b) ∧ w = w' := by
  by_cases h1 : 1 ≤ d
  · by_cases h2 : d ≤ (n : Int)
    · have hb' : b = true := by rw [← hb]; simp [h1, h2]
      subst hb'
      clear hb
      go_enter Try.func24, Try.ntmps24
      go_wp2_with fail
      refine (pcount_cell g n c A _ c1).mono ?_
      rintro e w' ⟨rfl, rfl⟩
      go_wp2_with fail
      go_ret
      exact ⟨rfl, rfl⟩
    · have hb' : b = false := by rw [← hb]; simp [h2]
      subst hb'
      clear hb
      go_enter Try.func24, Try.ntmps24
      go_wp2_with fail
      refine (pcount_cell g n c A _ c1).mono ?_
      rintro e w' ⟨rfl, rfl⟩
      go_wp2_with fail
      go_ret
      exact ⟨by simp [h2], rfl⟩
  · have hb' : b = false := by rw [← hb]; simp [h1]
    subst hb'
    clear hb
    go_enter Try.func24, Try.ntmps24
    go_wp2_with fail
    go_ret
    exact ⟨rfl, rfl⟩

/-- string(b) of some bytes, none too -/
theorem conv_any (w : World) {A : Option Addr} {n : Nat} {zs : List Int} (hz : zs.length = n) (hr : Rd w A (u8s zs)) (c : Nat) :
    (convert 31 9 (.slice A n c)).run Try.prog w = .ok (.string (strOfNums zs)) w := by
  subst hz
  rcases Nat.eq_zero_or_pos zs.length with h0 | h0
  · have hn : zs = [] := List.eq_nil_of_length_eq_zero h0
    subst hn
    cases A with
    | none => exact run_convert_bytes_nil (P := Try.prog) w 31 5 Try.underlying31 Try.underlying5 0 c 9 Try.underlying9
    | some a =>
      have hl : (loadCells a 0).run Try.prog w = .ok (([] : List Int).map (Value.int .u8)).toArray w := run_loadCells_list (P := Try.prog) w a [] (fun j v hj => by simp at hj)
      show (convert 31 9 (.slice (some a) 0 c)).run Try.prog w = _
      rw [run_convert_bytes_string w 31 9 5 (some a) 0 c Try.underlying31 Try.underlying5 Try.underlying9, run_bytesToString w a 0 c [] hl]
      rfl
  · obtain ⟨b, off, rfl, _, hc⟩ := hr.open_ (by rw [u8s_length]; exact h0)
    refine run_convert_bytes_arg w 31 5 Try.underlying31 Try.underlying5 b off zs.length c zs rfl (fun i hi => ?_) 9 Try.underlying9
    rw [hc i _ (u8s_at hi)]
    rw [List.getD_eq_getElem?_getD]

/-- what Find hands back -/
def findV (k : Nat) : Value := if k = 0 then .tuple #[.int .i64 0, .int .i64 3] else .tuple #[.int .i64 (k : Int), .int .i64 0]

theorem pfind_any {F : Nat → Prop} (g : Nat) (L : List (List Int)) (S : List (Int × Int)) (A : Option Addr) (c n : Nat) (x : List Int) (w : World) (h : IsBook w g F L S) (hG : Given w F A c n x) :
    Calls Try.prog 10 #[.pointer (some ⟨g, 0, none⟩), .slice A n c] w fun e w' => e = .returned (findV (findB L x)) ∧ ∃ d, w' = w.drewN d := by
  obtain ⟨m, vE, vs, h⟩ := h
  have c0 := h.c0
  have hcv : ∀ d, (convert 31 9 (.slice A n c)).run Try.prog (w.drewN d) = .ok (.string (strOfNums x)) (w.drewN d) := fun d => conv_any _ hG.hz (hG.hr.drewN d) c
  have hlk := h.look hG.hy (by have := hG.hn; have := hG.hz; unfold maxLen; omega)
  by_cases h0 : findB L x = 0
  · rw [h0] at hlk
    rw [h0]
    simp only [ne_eq, not_true_eq_false, decide_false, Int.ofNat_zero] at hlk
    clear h hG h0
    go_enter Try.func10, Try.ntmps10
    go_wp2_with fail
    go_quiet (fail)
    go_wp2_with fail
    go_ret2
    exact ⟨rfl, _, rfl⟩
  · obtain ⟨k, hk⟩ : ∃ k, findB L x = k + 1 := ⟨findB L x - 1, by omega⟩
    rw [hk] at hlk
    rw [hk]
    have hd : decide (k + 1 ≠ 0) = true := by simp
    simp only [hd] at hlk
    clear h hG h0 hk hd
    go_enter Try.func10, Try.ntmps10
    go_wp2_with fail
    go_quiet (fail)
    go_wp2_with fail
    go_ret2
    exact ⟨rfl, _, rfl⟩

/-- what Index hands back -/
def IdxOf (xs : List Int) (y r : Int) : Prop := decide (0 ≤ r) = xs.contains y
theorem pindex_any (A : Option Addr) (n c : Nat) (xs : List Int) (y : Int) (w : World) (hz : xs.length = n) (hr : Rd w A (i64s xs)) (hn : n ≤ 1000000) :
    Calls Try.prog 26 #[.slice A n c, .int .i64 y] w fun e w' => (∃ r : Int, e = .returned (.int .i64 r) ∧ IdxOf xs y r) ∧ w = w' := by
  have HZ := Lib.hid hz
  clear hz
  go_enter Try.func26, Try.ntmps26
  go_wp2
  go_loop [8] (fun i => ∃ k : Nat, i = .int .i64 k ∧ k ≤ n ∧ Hid ((xs.take k).contains y = false)) (fun i => n - (intOf i).toNat)
  case atStart => exact ⟨0, rfl, by omega, by simp [Hid]⟩
  case round =>
    obtain ⟨k, rfl, hk, HC⟩ := hrel
    by_cases hlt : k < n
    · obtain ⟨b, off, rfl, hbl, hcell⟩ := hr.open_ (by rw [i64s_length, HZ.out]; omega)
      obtain ⟨z, hzk⟩ : ∃ z, xs[k]? = some z := ⟨xs[k]'(by rw [HZ.out]; exact hlt), by simp [HZ.out, hlt]⟩
      have k1 := hcell k (.int .i64 z) (by simp [i64s, hzk])
      have HK := Lib.hid hzk
      have i0 : (0 : Int) ≤ (k : Int) := by omega
      have i1 : (k : Int) < (n : Int) := by omega
      clear hcell hzk
      by_cases e1 : y = z
      · have HT : Hid (xs.contains y = true) := by
          show xs.contains y = true
          rw [e1]
          simp only [List.contains_iff_mem]
          exact List.mem_of_getElem? HK.out
        have j1 : (y == z) = true := by simp [e1]
        clear e1
        go_wp2
        go_ret
        exact ⟨⟨k, rfl, by unfold IdxOf; rw [HT.out]; simp⟩, rfl⟩
      · have j1 : (y == z) = false := by simp [e1]
        have HN : Hid ((xs.take (k + 1)).contains y = false) := by
          show (xs.take (k + 1)).contains y = false
          rw [take_next HK.out]
          have h1 := HC.out
          have h2 : ¬ y = z := e1
          simp only [List.contains_eq_any_beq, List.any_append, List.any_cons, List.any_nil, Bool.or_false] at h1 ⊢
          rw [h1]
          simp [h2]
        clear e1
        go_wp2
        go_round
        case rel => exact ⟨k + 1, by go_num, by omega, HN.out⟩
        case measure => simp [intOf]; omega
    · have i1 : ¬ ((k : Int) < (n : Int)) := by omega
      have HT : Hid (xs.contains y = false) := by
        have := HC.out
        rwa [List.take_of_length_le (by rw [HZ.out]; omega)] at this
      go_wp2
      go_ret
      exact ⟨⟨-1, rfl, by unfold IdxOf; rw [HT.out]; rfl⟩, rfl⟩

theorem pcontains_any (b : Bool) (A : Option Addr) (n c : Nat) (xs : List Int) (y : Int) (w : World) (hb : xs.contains y = b) (hz : xs.length = n) (hr : Rd w A (i64s xs)) (hn : n ≤ 1000000) :
    Calls Try.prog 25 #[.slice A n c, .int .i64 y] w fun e w' => e = .returned (.bool b) ∧ w = w' := by
  have HB := Lib.hid hb
  clear hb
  go_enter Try.func25, Try.ntmps25
  go_wp2_with fail
  refine (pindex_any A n c xs y _ hz hr hn).mono ?_
  rintro e w' ⟨⟨r, rfl, hd⟩, rfl⟩
  have HD := Lib.hid hd
  clear hd
  go_wp2_with fail
  go_ret
  exact ⟨by have h1 := HB.out; have h2 : decide (0 ≤ r) = xs.contains y := HD.out; rw [← h1, ← h2]; simp, rfl⟩

/-- an entry: its bytes, its signers' row -/
theorem BookB.entry {w : World} {g : Nat} {F : Nat → Prop} {L : List (List Int)} {S : List (Int × Int)} {m : Option Nat} {vE : Value} {vs : List Value} (h : BookB w g F L S m vE vs) {k : Nat} (hk : k < L.length) :
    ∃ gE cE x v, vE = .slice (some ⟨gE, 0, none⟩) L.length cE ∧ L[k]? = some x ∧ vs[k]? = some v ∧ w.cell? ⟨gE, k * 2, none⟩ = some (.string (strOfNums x)) ∧ w.cell? ⟨gE, k * 2 + 1, none⟩ = some v ∧ w.frozen? ⟨gE, k * 2 + 1, none⟩ = false ∧ gE < w.heap.size ∧ gE ≠ g := by
  obtain ⟨gE, cE, rfl, _, hlt⟩ := h.rE.form (by omega)
  obtain ⟨x, hx⟩ : ∃ x, L[k]? = some x := ⟨L[k], by simp [hk]⟩
  obtain ⟨v, hv⟩ : ∃ v, vs[k]? = some v := ⟨vs[k]'(by rw [h.lv]; exact hk), by simp [h.lv, hk]⟩
  obtain ⟨h1, h2⟩ := ents_at hx hv
  have hl := ents_length h.lv
  have e1 := h.rE.cells (g := gE) rfl (k * 2) _ h1
  have e2 := h.rE.cells (g := gE) rfl (k * 2 + 1) _ h2
  rw [Addr.add_lit, Nat.zero_add] at e1 e2
  exact ⟨gE, cE, x, v, rfl, hx, hv, e1, e2, h.rE.frozenAt (k * 2 + 1), hlt, (h.fE gE rfl).2⟩

theorem psigned_any {F : Nat → Prop} (g : Nat) (L : List (List Int)) (S : List (Int × Int)) (who d : Int) (w : World) (h : IsBook w g F L S) (hL : L.length ≤ 1000) (hS : S.length ≤ 1000) :
    Calls Try.prog 18 #[.pointer (some ⟨g, 0, none⟩), .int .i64 who, .int .i64 d] w fun e w' => e = .returned (.bool (signedB S who d)) ∧ w = w' := by
  obtain ⟨m, vE, vs, h⟩ := h
  obtain ⟨nL, hnL⟩ : ∃ nL, L.length = nL := ⟨_, rfl⟩
  by_cases hd : 1 ≤ d ∧ d ≤ (L.length : Int)
  · obtain ⟨k, hk⟩ : ∃ k : Nat, d = (k : Int) + 1 := ⟨(d - 1).toNat, by omega⟩
    subst hk
    have hkl : k < L.length := by omega
    have s1 : wrap64 (k : Int) = (k : Int) := IntWalk.wrap64_in _ (by omega)
    have i0 : (0 : Int) ≤ (k : Int) := by omega
    have i1 : (k : Int) < (nL : Int) := by omega
    obtain ⟨gE, cE, x, v, rfl, hx, hv, e0, e1, _, _, _⟩ := h.entry hkl
    obtain ⟨xs, ho, hl, hc, _⟩ := h.sg k v hv
    obtain ⟨nS, hnS⟩ : ∃ nS, xs.length = nS := ⟨_, rfl⟩
    rw [hnS] at ho hl
    have hnS1 : nS ≤ 1000000 := Nat.le_trans hl (Nat.le_trans hS (by decide))
    obtain ⟨AS, cS, rfl, _, _, hrS, _, _⟩ := own_val ho
    have c1 := h.c1
    rw [hnL] at c1 hd
    have HB : Hid (decide (1 ≤ (k : Int) + 1 ∧ (k : Int) + 1 ≤ (nL : Int)) = true) := decide_eq_true hd
    have HC := Lib.hid (hc who)
    have HNS := Lib.hid hnS
    clear h ho hc hd hnL hnS hx hv hkl e0
    go_enter Try.func18, Try.ntmps18
    go_wp2_with fail
    refine (phas_cell true g nL cE _ _ _ c1 HB.out).mono ?_
    rintro e w' ⟨rfl, rfl⟩
    go_wp2_with fail
    refine (pcontains_any _ AS nS cS xs who _ HC.out HNS.out hrS hnS1).mono ?_
    rintro e w' ⟨rfl, rfl⟩
    go_wp2_with fail
    go_ret
    exact ⟨rfl, rfl⟩
  · have HF := Lib.hid (signed_none h.sd (who := who) hd)
    have c1 := h.c1
    have rE := h.rE
    rw [hnL] at rE hd
    obtain ⟨AE, cE, rfl, _, _, _, _, _⟩ := ownS_slice rE
    have HB := Lib.hid (decide_eq_false hd)
    clear h hd rE hnL
    go_enter Try.func18, Try.ntmps18
    go_wp2_with fail
    refine (phas_cell false g nL cE _ _ _ c1 HB.out).mono ?_
    rintro e w' ⟨rfl, rfl⟩
    go_wp2_with fail
    go_ret
    exact ⟨by rw [HF.out]; rfl, rfl⟩

theorem pbytes_yes {F : Nat → Prop} (g : Nat) (L : List (List Int)) (S : List (Int × Int)) (k n : Nat) (x : List Int) (w : World) (h : IsBook w g F L S) (hx : L[k]? = some x) (hz : x.length = n) (hL : L.length ≤ 1000) :
    Calls Try.prog 13 #[.pointer (some ⟨g, 0, none⟩), .int .i64 ((k + 1 : Nat) : Int)] w fun e w' => ∃ g' c', e = .returned (.tuple #[.slice (some ⟨g', 0, none⟩) n c', .int .i64 0]) ∧ Wr w' g' c' n x ∧ w.heap.size ≤ g' ∧
      ∃ F' : Nat → Prop, IsBook w' g F' L S ∧ Touch F w w' ∧ (∀ k, F' k → F k ∨ w.heap.size ≤ k) ∧ ¬ F' g' := by
  have hI := h
  obtain ⟨m, vE, vs, h⟩ := h
  obtain ⟨nL, hnL⟩ : ∃ nL, L.length = nL := ⟨_, rfl⟩
  have hkl : k < L.length := by
    rcases Nat.lt_or_ge k L.length with h' | h'
    · exact h'
    · rw [List.getElem?_eq_none h'] at hx; cases hx
  have hby := h.by_ x (List.mem_of_getElem? hx)
  obtain ⟨gE, cE, x', v, rfl, hx', _, e0, _, _, _, _⟩ := h.entry hkl
  rw [hx] at hx'
  cases hx'
  have c1 := h.c1
  rw [hnL] at c1 hkl hL
  have HB : Hid (decide (1 ≤ ((k + 1 : Nat) : Int) ∧ ((k + 1 : Nat) : Int) ≤ (nL : Int)) = true) := decide_eq_true ⟨by omega, by omega⟩
  have s1 : wrap64 (k : Int) = (k : Int) := IntWalk.wrap64_in _ (by omega)
  have i0 : (0 : Int) ≤ (k : Int) := by omega
  have i1 : (k : Int) < (nL : Int) := by omega
  have hcv := fun (w : World) (s : ByteArray) => Lib.run_convert_string_bytes (P := Try.prog) w 9 31 5 s Try.underlying9 Try.underlying31 Try.underlying5
  have HW := Lib.hid (text_wr w hz hby.1 (by have := hby.2; unfold maxLen; omega))
  have HT := Lib.hid (text_below w 5 (strOfNums x))
  have HZ := Lib.hid hz
  have HI := Lib.hid hI
  clear h hby hx hnL hkl hL hz hI
  go_enter Try.func13, Try.ntmps13
  go_wp2_with fail
  refine (phas_cell true g nL cE _ _ _ c1 HB.out).mono ?_
  rintro e w' ⟨rfl, rfl⟩
  go_wp2_with fail
  go_ret2
  exact ⟨w.heap.size, _, by rw [strOfNums_size, HZ.out]; rfl, HW.out, Nat.le_refl _, F, HI.out.kept HT.out.size (fun j hj => HT.out.block j (HI.out.lt j hj)), Touch.of HT.out, fun j hj => .inl hj, fun hf => by have := HI.out.lt _ hf; omega⟩

theorem pbytes_no {F : Nat → Prop} (g : Nat) (L : List (List Int)) (S : List (Int × Int)) (d : Int) (w : World) (h : IsBook w g F L S) (hd : ¬ (1 ≤ d ∧ d ≤ (L.length : Int))) :
    Calls Try.prog 13 #[.pointer (some ⟨g, 0, none⟩), .int .i64 d] w fun e w' => e = .returned (.tuple #[.slice none 0 0, .int .i64 3]) ∧ w = w' := by
  obtain ⟨m, vE, vs, h⟩ := h
  obtain ⟨nL, hnL⟩ : ∃ nL, L.length = nL := ⟨_, rfl⟩
  have c1 := h.c1
  have rE := h.rE
  rw [hnL] at rE hd
  obtain ⟨AE, cE, rfl, _, _, _, _, _⟩ := ownS_slice rE
  have HB := Lib.hid (decide_eq_false hd)
  clear h hd rE hnL
  go_enter Try.func13, Try.ntmps13
  go_wp2_with fail
  refine (phas_cell false g nL cE _ _ _ c1 HB.out).mono ?_
  rintro e w' ⟨rfl, rfl⟩
  go_wp2_with fail
  go_ret2
  exact ⟨rfl, rfl⟩

end Go.Proofs.Ytnooippbdfobdaa
