/-
  The landed package log: All, clean, replace, Sync.
-/
import Derived.Test.YtaccmjgnggepjaaKZK
import Derived.Deep.CutBlock
namespace Go.Proofs.Ytaccmjgnggepjaa
open Go.RowKit

/-- slices.Clone of texts -/
theorem sclone_any (A : Option Addr) (n c : Nat) (l : List ByteArray) (w : World) (hz : l.length = n) (hr : Rd w A (strs l)) (hn : n ≤ 1000000) : Calls Try.prog 45 #[.slice A n c] w (Made w.heap.size 9 w (strs l)) := by
  have hnil : n = 0 → l = [] := fun h => List.eq_nil_of_length_eq_zero (by omega)
  cases A with
  | none =>
    refine (Try.slices_Clone_string_nil n c w).mono ?_
    rintro e w' ⟨rfl, rfl⟩
    have : l = [] := by
      rcases Nat.eq_zero_or_pos l.length with h0 | h0
      · exact List.eq_nil_of_length_eq_zero h0
      · obtain ⟨b, off, he, _⟩ := hr.open_ (by rw [strs_length]; omega)
        cases he
    subst this
    exact ⟨_, rfl, World.ownsRow_nil _ _ _ _, Below.refl _ _⟩
  | some a =>
    rcases Nat.eq_zero_or_pos n with h0 | h0
    · have hl := hnil h0
      subst hl
      subst h0
      refine (Try.slices_Clone_string_zero a c w).mono ?_
      rintro e w' ⟨v', rfl, ho, _, hb⟩
      exact ⟨v', rfl, ho, hb⟩
    · obtain ⟨b, off, he, _, hc⟩ := hr.open_ (by rw [strs_length]; omega)
      cases he
      refine (Try.slices_Clone_string b off n c l w (by omega) (by omega) fun j hj => ?_).mono ?_
      · rw [hc j _ (strs_at hj), List.getD_eq_getElem?_getD]
      · rintro e w' ⟨v', rfl, ho, _, hb⟩
        rw [List.take_of_length_le (by omega)] at ho
        exact ⟨v', rfl, own_cast ho (by rw [strs_length, hz]), hb⟩

theorem LogAt.slice {w : World} {gl gd : Nat} {F Fd : Nat → Prop} {D : PD} {p vL : Value} {z : Int} {l : List ByteArray} (h : LogAt w gl gd F Fd D p vL z l) : ∃ A c, vL = .slice A l.length c ∧ l.length ≤ c ∧ c ≤ maxLen ∧ Rd w A (strs l) := by
  obtain ⟨A, c, h1, h2, h3, h4, _⟩ := own_val h.row
  exact ⟨A, c, h1, h2, h3, h4⟩

theorem all_is {gl gd : Nat} {F Fd : Nat → Prop} {D : PD} {p vL : Value} {z : Int} {l : List ByteArray} (w : World) (h : LogAt w gl gd F Fd D p vL z l) (hn : l.length ≤ 1000000) :
    Calls Try.prog 26 #[.pointer (some ⟨gl, 0, none⟩)] w (Made w.heap.size 9 w (strs l)) := by
  have c1 := h.c1
  obtain ⟨A, c, rfl, _, _, hr⟩ := h.slice
  have HC := Lib.hid (sclone_any A l.length c l w rfl hr hn)
  obtain ⟨n, hnn⟩ : ∃ n, l.length = n := ⟨_, rfl⟩
  rw [hnn] at c1 HC
  clear h hr hnn
  go_enter Try.func26, Try.ntmps26
  go_wp2_with (go_at_call 45; refine HC.out.mono ?_; rintro e w2 ⟨v2, rfl, ho2, hb2⟩)
  go_ret
  exact ⟨v2, rfl, ho2, hb2⟩

theorem DiskTo.chain {g : Nat} {F F2 : Nat → Prop} {D' : PD} {w w' w2 : World} (ht : Touch F w w') (hF : ∀ k, F2 k → F k ∨ w.heap.size ≤ k) (h2 : DiskTo g F2 D' w' w2) : DiskTo g F D' w w2 := by
  obtain ⟨F3, hd, ht3, hF3⟩ := h2
  refine ⟨F3, hd, ht.trans ht3 hF, fun k hk => ?_⟩
  rcases hF3 k hk with h | h
  · exact hF k h
  · exact .inr (Nat.le_trans ht.size h)
section
variable {gl gd : Nat} {F Fd : Nat → Prop} {D : PD} {vL : Value} {z : Int} {l : List ByteArray}
theorem nLog_max : nLog.size ≤ maxLen := by decide
theorem nNew_max : nNew.size ≤ maxLen := by decide
/-- the log's own block behind a step of the disk -/
theorem LogAt.c0To {w w' : World} {p : Value} {D' : PD} (h : LogAt w gl gd F Fd D p vL z l) (ht : DiskTo gd Fd D' w w') : w'.cell? ⟨gl, 0, none⟩ = some p := by
  obtain ⟨_, _, ht, _⟩ := ht
  exact (ht.cell (h.lt _ h.here) h.far).trans h.c0

set_option maxHeartbeats 2000000 in
theorem clean_is (zz n : Nat) (w : World) (h : LogAt w gl gd F Fd D (.pointer (some ⟨gd, 0, none⟩)) vL z l) (hc : D.calls ≤ 950000) :
    Calls Try.prog 43 #[.pointer (some ⟨gl, 0, none⟩), .int .i64 (zz : Int), .int .i64 (n : Int)] w fun e w' => e = .returned (.int .i64 (cleanG D zz n).2) ∧ DiskTo gd Fd (cleanG D zz n).1 w w' := by
  have c0 := h.c0
  have HS := Lib.hid (sync_is gd nLog w h.dk nLog_max (by omega))
  have HU := Lib.hid (cut_is gd nLog n w h.dk nLog_max (by omega))
  have HH := Lib.hid h
  obtain ⟨R, hR⟩ : ∃ R, cleanG D zz n = R := ⟨_, rfl⟩
  rw [hR]
  have HR := Lib.hid hR
  clear h hR
  by_cases hlt : n < zz
  · have i1 : (n : Int) < (zz : Int) := by omega
    have hr := HR.out
    rw [cleanG, if_pos hlt] at hr
    have HR2 := Lib.hid hr
    clear hr HR HS
    go_enter Try.func43, Try.ntmps43
    go_wp2_with fail
    refine HU.out.mono ?_
    rintro e w2 ⟨rfl, ht2⟩
    obtain ⟨E, hE⟩ : ∃ E, dCut D nLog n = E := ⟨_, rfl⟩
    have hr := HR2.out
    rw [hE] at hr ht2 ⊢
    have hcE : E.1.calls ≤ D.calls + 1 := by rw [← hE]; exact dCut_calls D nLog n
    have q0 := HH.out.c0To ht2
    by_cases he : E.2 = 0
    · have j1 : (E.2 != 0) = false := by simp [he]
      rw [if_pos he] at hr
      have HR3 := Lib.hid hr
      obtain ⟨F2, hd2, ht, hF2⟩ := ht2
      have HS2 := Lib.hid (sync_is gd nLog w2 hd2 nLog_max (by omega))
      have HTT := Lib.hid ht
      have HFF := Lib.hid hF2
      clear hr hE HR2 HU c0 hd2 ht hF2
      obtain ⟨x, hx⟩ : ∃ x, E.2 = x := ⟨_, rfl⟩
      rw [hx] at j1 ⊢
      clear he hx
      go_wp2_with fail
      refine HS2.out.mono ?_
      rintro e w3 ⟨rfl, ht3⟩
      go_wp2_with fail
      go_ret
      rw [← HR3.out]
      exact ⟨rfl, DiskTo.chain HTT.out HFF.out ht3⟩
    · have j1 : (E.2 != 0) = true := by simp [he]
      rw [if_neg he] at hr
      have HR3 := Lib.hid hr
      clear hr hE HR2 HU c0
      go_wp2_with fail
      go_ret
      rw [← HR3.out]
      exact ⟨rfl, ht2⟩
  · have i1 : ¬ ((n : Int) < (zz : Int)) := by omega
    have hr := HR.out
    rw [cleanG, if_neg hlt] at hr
    have HR2 := Lib.hid hr
    clear hr HR HU
    go_enter Try.func43, Try.ntmps43
    go_wp2_with fail
    refine HS.out.mono ?_
    rintro e w3 ⟨rfl, ht3⟩
    go_wp2_with fail
    go_ret
    rw [← HR2.out]
    exact ⟨rfl, ht3⟩

/-- bytes that are handed in, apart from the disk -/
theorem givB_below {w w' : World} {A : Option Addr} {n c : Nat} {zs : List Int} (h : GivB w Fd A n c zs) (hb : Below w.heap.size w w') : GivB w' Fd A n c zs := ⟨h.hz, h.rd.below hb, h.byt, h.hc, h.hm, h.few, h.far⟩

set_option maxHeartbeats 2000000 in
theorem replace_is (A : Option Addr) (n c : Nat) (zs : List Int) (w : World) (h : LogAt w gl gd F Fd D (.pointer (some ⟨gd, 0, none⟩)) vL z l) (hc : D.calls ≤ 950000) (hG : GivB w Fd A n c zs) :
    Calls Try.prog 83 #[.pointer (some ⟨gl, 0, none⟩), .slice A n c] w fun e w' => e = .returned (.int .i64 (replG D zs).2) ∧ DiskTo gd Fd (replG D zs).1 w w' := by
  have c0 := h.c0
  have HA := Lib.hid (append_is gd nNew A n c zs w h.dk nNew_max (by omega) hG)
  have HH := Lib.hid h
  have hr : replG D zs = replG D zs := rfl
  conv at hr => rhs; rw [replG]
  obtain ⟨R, hR⟩ : ∃ R, replG D zs = R := ⟨_, rfl⟩
  rw [hR] at hr ⊢
  obtain ⟨E, hE⟩ : ∃ E, dAppend D nNew zs = E := ⟨_, rfl⟩
  have hcE : E.1.calls ≤ D.calls + 1 := by rw [← hE]; exact dAppend_calls D nNew zs
  rw [hE] at hr
  have HA2 : Hid (Calls Try.prog 74 #[.pointer (some ⟨gd, 0, none⟩), .string nNew, .slice A n c] w fun e w' => e = .returned (.int .i64 E.2) ∧ DiskTo gd Fd E.1 w w') := by show Calls _ _ _ _ _; rw [← hE]; exact HA.out
  have HR := Lib.hid hr
  clear h hR hr hE HA hG
  go_enter Try.func83, Try.ntmps83
  go_wp2_with fail
  refine HA2.out.mono ?_
  rintro e w2 ⟨rfl, ht2⟩
  have q0 := HH.out.c0To ht2
  have hr := HR.out
  by_cases he : E.2 = 0
  · have j1 : (E.2 != 0) = false := by simp [he]
    rw [if_neg (by rw [he]; decide)] at hr
    obtain ⟨E2, hE2⟩ : ∃ E2, dSync E.1 nNew = E2 := ⟨_, rfl⟩
    have hc2 : E2.1.calls ≤ E.1.calls + 1 := by rw [← hE2]; exact dSync_calls E.1 nNew
    rw [hE2] at hr
    obtain ⟨F2, hd2, ht, hF2⟩ := ht2
    have hs2 := sync_is gd nNew w2 hd2 nNew_max (by omega)
    rw [hE2] at hs2
    have HS2 := Lib.hid hs2
    have HTT := Lib.hid ht
    have HFF := Lib.hid hF2
    have hfl : ¬ F2 gl := fun hf => by
      rcases hF2 gl hf with hf | hf
      · exact HH.out.far hf
      · have := HH.out.lt gl HH.out.here; omega
    have hg2 : gl < w2.heap.size := Nat.lt_of_lt_of_le (HH.out.lt gl HH.out.here) ht.size
    have HR2 := Lib.hid hr
    clear hr HR HA2 c0 hd2 ht hF2 hs2 hE2
    obtain ⟨x, hx⟩ : ∃ x, E.2 = x := ⟨_, rfl⟩
    rw [hx] at j1 ⊢
    clear he hx
    go_wp2_with fail
    refine HS2.out.mono ?_
    rintro e w3 ⟨rfl, ht3⟩
    have hr := HR2.out
    have q1 : w3.cell? ⟨gl, 0, none⟩ = some (.pointer (some ⟨gd, 0, none⟩)) := by
      obtain ⟨_, _, ht, _⟩ := ht3
      exact (ht.cell hg2 hfl).trans q0
    clear q0
    by_cases he : E2.2 = 0
    · have j2 : (E2.2 != 0) = false := by simp [he]
      rw [if_neg (by rw [he]; decide)] at hr
      obtain ⟨F3, hd3, ht, hF3⟩ := ht3
      have HN := Lib.hid (rename_is gd nNew nLog w3 hd3 nNew_max nLog_max (by omega))
      have HT3 := Lib.hid ht
      have HF3 := Lib.hid hF3
      have HR3 := Lib.hid hr
      clear hr HR2 HS2 hd3 ht hF3
      obtain ⟨x2, hx⟩ : ∃ x2, E2.2 = x2 := ⟨_, rfl⟩
      rw [hx] at j2 ⊢
      clear he hx
      go_wp2_with fail
      refine HN.out.mono ?_
      rintro e w4 ⟨rfl, ht4⟩
      go_wp2_with fail
      go_ret
      rw [HR3.out]
      exact ⟨rfl, DiskTo.chain HTT.out HFF.out (DiskTo.chain HT3.out HF3.out ht4)⟩
    · have j2 : (E2.2 != 0) = true := by simp [he]
      rw [if_pos he] at hr
      have HR3 := Lib.hid hr
      clear hr HR2 HS2
      go_wp2_with fail
      go_ret
      rw [HR3.out]
      exact ⟨rfl, DiskTo.chain HTT.out HFF.out ht3⟩
  · have j1 : (E.2 != 0) = true := by simp [he]
    rw [if_pos he] at hr
    have HR2 := Lib.hid hr
    clear hr HR HA2 c0
    go_wp2_with fail
    go_ret
    rw [HR2.out]
    exact ⟨rfl, ht2⟩

/-- behind an error of the disk -/
theorem LogAt.failed {w w2 : World} {p : Value} {D' : PD} (h : LogAt w gl gd F Fd D p vL z l) (ht : DiskTo gd Fd D' w w2) (x : Int) :
    Calls Try.prog 59 #[.pointer (some ⟨gl, 0, none⟩), .int .i64 x] w2 fun e w' => e = .returned (.int .i64 x) ∧ ∃ F' Fd' : Nat → Prop, LogAt w' gl gd F' Fd' D' (.pointer none) vL z l ∧ Touch F w w' ∧ ∀ k, F' k → F k ∨ w.heap.size ≤ k := by
  obtain ⟨F', Fd', h2, ht2, hF⟩ := h.disk (Below.refl _ _) ht
  refine (fail_is x w2 h2).mono ?_
  rintro e w' ⟨rfl, h3, ht3⟩
  exact ⟨rfl, F', Fd', h3, ht2.trans ht3 hF, hF⟩
end

/-- the contract's word for what a call leaves -/
theorem logTo {gl gd : Nat} {F F' Fd' : Nat → Prop} {S' : LS10} {w w' : World} {vL : Value} {p : Value} (h : LogAt w' gl gd F' Fd' S'.D p vL (sizeL S'.L : Nat) S'.L) (hp : p = ptrG S'.dead gd) (hf : sizeL S'.L ≤ 524288 ∧ ∀ s ∈ S'.L, s.size ≤ 4096) (ht : Touch F w w') (hF : ∀ k, F' k → F k ∨ w.heap.size ≤ k) : logK.To gl gd F S' w w' :=
  ⟨F', (h.ptr hp).in_ hf, ht, hF⟩
theorem logTo_same {gl gd : Nat} {F : Nat → Prop} {S : LS10} {w w' : World} (h : IsLogG w gl gd F S) (hb : Below w.heap.size w w') : logK.To gl gd F S w w' := by
  obtain ⟨Fd, vL, h⟩ := h
  exact ⟨F, (h.at_.below hb).in_ h.few, Touch.of hb, fun _ hk => .inl hk⟩

set_option maxHeartbeats 2000000 in
theorem lsync_is {gl gd : Nat} {F : Nat → Prop} {S : LS10} (w : World) (h : IsLogG w gl gd F S) (hc : S.D.calls ≤ 950000) :
    Calls Try.prog 35 #[.pointer (some ⟨gl, 0, none⟩)] w fun e w' => e = .returned (.int .i64 (syncG S).2) ∧ logK.To gl gd F (syncG S).1 w w' := by
  have HI := Lib.hid h
  obtain ⟨Fd, vL, h⟩ := h
  have HFEW := Lib.hid h.few
  have ha := h.at_
  obtain ⟨D, L, dead⟩ := S
  cases dead with
  | true =>
    have c0 : w.cell? ⟨gl, 0, none⟩ = some (.pointer none) := ha.c0
    have hr : syncG ⟨D, L, true⟩ = (⟨D, L, true⟩, 9) := rfl
    rw [hr]
    clear h ha hr
    go_enter Try.func35, Try.ntmps35
    go_wp2_with fail
    go_ret
    exact ⟨rfl, logTo_same HI.out (Below.refl _ _)⟩
  | false =>
    have hat : LogAt w gl gd F Fd D (.pointer (some ⟨gd, 0, none⟩)) vL (sizeL L : Nat) L := ha
    have c0 := hat.c0
    have HS := Lib.hid (sync_is gd nLog w hat.dk nLog_max (by have : D.calls ≤ 950000 := hc; omega))
    have HH := Lib.hid hat
    obtain ⟨R, hR⟩ : ∃ R, syncG ⟨D, L, false⟩ = R := ⟨_, rfl⟩
    have hr := hR
    rw [syncG, if_neg (show ¬ (false = true) by decide)] at hr
    rw [hR]
    obtain ⟨E, hE⟩ : ∃ E, dSync D nLog = E := ⟨_, rfl⟩
    have HR : Hid ((if E.2 = 0 ∨ (E.2 = 3 ∧ L = []) then ((⟨E.1, L, false⟩ : LS10), (0 : Int)) else (⟨E.1, L, true⟩, E.2)) = R) := by show _ = _; rw [← hr, ← hE]
    have HS2 : Hid (Calls Try.prog 58 #[.pointer (some ⟨gd, 0, none⟩), .string nLog] w fun e w' => e = .returned (.int .i64 E.2) ∧ DiskTo gd Fd E.1 w w') := by show Calls _ _ _ _ _; rw [← hE]; exact HS.out
    obtain ⟨A, c, hvL, _, _, _⟩ := hat.slice
    obtain ⟨nL, hnL⟩ : ∃ nL, L.length = nL := ⟨_, rfl⟩
    rw [hnL] at hvL
    have HVL := Lib.hid hvL
    have HNL := Lib.hid hnL
    clear h ha hat hr hR hE HS hvL hnL HI
    obtain ⟨x, hx⟩ : ∃ x, E.2 = x := ⟨_, rfl⟩
    rw [hx] at HR HS2
    have fin : ∀ w2 w3, DiskTo gd Fd E.1 w w2 → Below w2.heap.size w2 w3 → (x = 0 ∨ (x = 3 ∧ nL = 0)) → Ending.returned (.int .i64 0) = .returned (.int .i64 R.2) ∧ logK.To gl gd F R.1 w w3 := by
      intro w2 w3 ht hb3 hcase
      have hr := HR.out
      rw [if_pos (hcase.imp id fun h => ⟨h.1, List.eq_nil_of_length_eq_zero (by rw [HNL.out]; exact h.2)⟩)] at hr
      rw [← hr]
      obtain ⟨F', Fd', h2, ht2, hF⟩ := HH.out.disk (Below.refl _ _) ht
      exact ⟨rfl, logTo (S' := ⟨E.1, L, false⟩) (h2.below hb3) rfl HFEW.out (ht2.then hb3) hF⟩
    have HFIN := Lib.hid fin
    clear fin
    go_enter Try.func35, Try.ntmps35
    go_wp2_with fail
    refine HS2.out.mono ?_
    rintro e w2 ⟨rfl, ht2⟩
    obtain ⟨F', Fd', h2, _, _⟩ := HH.out.disk (Below.refl _ _) ht2
    have q1 := h2.c1
    rw [HVL.out] at q1
    clear h2 c0
    by_cases h0 : x = 0
    · subst h0
      go_wp2_with fail
      go_ret
      exact HFIN.out w2 _ ht2 (Below.refl _ _) (by simp)
    · have j1 : (x == 0) = false := by simp [h0]
      by_cases h3 : x = 3
      · subst h3
        by_cases hn0 : nL = 0
        · subst hn0
          go_wp2_with fail
          go_ret
          exact HFIN.out w2 _ ht2 (Below.refl _ _) (by simp)
        · have j2 : ((nL : Int) == 0) = false := by simp; omega
          have HT2 := Lib.hid ht2
          clear ht2
          go_wp2_with fail
          refine (HH.out.failed HT2.out 3).mono ?_
          rintro e w3 ⟨rfl, F3, Fd3, h3, ht3, hF3⟩
          have hr := HR.out
          rw [if_neg (by
            rintro (h | ⟨_, h⟩)
            · omega
            · rw [h] at HNL; have := HNL.out; simp at this; omega)] at hr
          have HR2 := Lib.hid hr
          have H3 := Lib.hid h3
          have HT3 := Lib.hid ht3
          have HF3 := Lib.hid hF3
          clear hr h3 ht3 hF3 q1
          go_wp2_with fail
          go_ret
          rw [← HR2.out]
          exact ⟨rfl, logTo (S' := ⟨E.1, L, true⟩) H3.out rfl HFEW.out HT3.out HF3.out⟩
      · have j2 : (x == 3) = false := by simp [h3]
        have HT2 := Lib.hid ht2
        clear ht2
        go_wp2_with fail
        refine (HH.out.failed HT2.out x).mono ?_
        rintro e w3 ⟨rfl, F3, Fd3, h3', ht3, hF3⟩
        have hr := HR.out
        rw [if_neg (by
          rintro (h | ⟨h, _⟩)
          · exact h0 h
          · exact h3 h)] at hr
        have HR2 := Lib.hid hr
        have H3 := Lib.hid h3'
        have HT3 := Lib.hid ht3
        have HF3 := Lib.hid hF3
        clear hr h3' ht3 hF3 q1
        go_wp2_with fail
        go_ret
        rw [← HR2.out]
        exact ⟨rfl, logTo (S' := ⟨E.1, L, true⟩) H3.out rfl HFEW.out HT3.out HF3.out⟩

end Go.Proofs.Ytaccmjgnggepjaa
/-
  The landed package log: Append.
-/
namespace Go.Proofs.Ytaccmjgnggepjaa
open Go.RowKit

theorem clone_wp {w : World} {o : Oper} {a : Act} {K : Act → World → Prop} {Q : Exit → Act → World → Prop} {s : Nat} {t : TypeId} {v : Value} (ho : o.op = .call { callee := .value (.func 39), args := #[.tmp s], argTypes := #[t] }) (hs : a.tmps[s]? = some v) {R : Ending → World → Prop} (hc : Calls Try.prog 39 #[v] w R)
    (h : ∀ e w', R e w' → ∃ u, e = .returned u ∧ K (a.put o.dst u) w') : o.wp Try.prog a w K Q := by
  have he : a.eval (.tmp s) = v := by simp [Act.eval, hs]
  unfold Oper.wp execOp
  simp only [ho]
  go_simp
  refine hc.mono fun e w' hr => ?_
  obtain ⟨u, rfl, hk⟩ := h e w' hr
  exact hk
theorem step_cloneG {w : World} {ops : Array Oper} {o : Oper} {a : Act} {K : Act → World → Prop} {Q : Exit → Act → World → Prop} {E : Prop} {s : Nat} {t : TypeId} {v : Value} (hgd : o.guard = none)
    (ho : o.op = .call { callee := .value (.func 39), args := #[.tmp s], argTypes := #[t] }) (hs : a.tmps[s]? = some v) {R : Ending → World → Prop} (hc : Calls Try.prog 39 #[v] w R)
    (h : ∀ e w', R e w' → ∃ u, e = .returned u ∧ K (a.put o.dst u) w') : if Region.wanted o (yielded ops a.tmps) = true then Oper.wp Try.prog o a w K Q else E := by
  have hw : Region.wanted o (yielded ops a.tmps) = true := by simp [Region.wanted, hgd]
  rw [if_pos hw]
  exact clone_wp ho hs hc h

/-- one record more in the row -/
theorem LogAt.more {w w6 w7 : World} {gl gd : Nat} {F Fd : Nat → Prop} {D : PD} {p : Value} {z : Int} {l : List ByteArray} {A : Option Addr} {n c g' c' : Nat} {s : ByteArray} {o : Obj} (h : LogAt w gl gd F Fd D p (.slice A n c) z l) (hn : l.length = n) (hb : Below w.heap.size w w6)
    (ho : w7.ownsRow 0 9 1 (.slice (some ⟨g', 0, none⟩) (n + 1) c') (n + 1) (strs l ++ [.string s])) (hg : (w6.alloc o).grownBy w7 (Value.slice A n c).ownBlock) (hl : (Value.slice A n c).ownBlock = some g' ∨ g' = (w6.alloc o).heap.size) :
    (∃ F' : Nat → Prop, LogAt (w7.setCell ⟨gl, 1, none⟩ (.slice (some ⟨g', 0, none⟩) (n + 1) c')) gl gd F' Fd D p (.slice (some ⟨g', 0, none⟩) (n + 1) c') z (l ++ [s]) ∧ Touch F w (w7.setCell ⟨gl, 1, none⟩ (.slice (some ⟨g', 0, none⟩) (n + 1) c')) ∧ ∀ k, F' k → F k ∨ w.heap.size ≤ k) ∧ w7.cell? ⟨gl, 1, none⟩ = some (.slice A n c) ∧ w7.frozen? ⟨gl, 1, none⟩ = false := by
  have hz := hb.size
  have ht : Touch (fun k => (Value.slice A n c).ownBlock = some k) w w7 := ((Touch.of hb : Touch (fun k => (Value.slice A n c).ownBlock = some k) w w6).alloc o).trans (Touch.grown (F := fun k => (Value.slice A n c).ownBlock = some k) hg fun k hk => hk) fun k hk => .inl hk
  have hgl := h.lt _ h.here
  have hne : ¬ (Value.slice A n c).ownBlock = some gl := fun e => (h.farR gl e).2 rfl
  have hv : ∀ k, (Value.slice (some ⟨g', 0, none⟩) (n + 1) c').ownBlock = some k → (Value.slice A n c).ownBlock = some k ∨ w.heap.size ≤ k := fun k hk => by
    have e : g' = k := Option.some.inj hk
    subst e
    rcases hl with e | e
    · exact .inl e
    · right; rw [e]; simp; omega
  have h1 := h.row1 (l' := l ++ [s]) ht (by
    rw [strs_append]
    exact own_cast ho (by simp [hn])) hv
  refine ⟨⟨_, h1.1, h1.2, fun k hk => ?_⟩, (ht.cell hgl hne).trans h.c1, (ht.frozen hgl hne).trans (h.fz 1)⟩
  rcases hk with hk | hk
  · exact .inl hk
  · exact (hv k hk).imp (h.rowF k) id

theorem sizeL_one (s : ByteArray) : sizeL [s] = s.size + 16 := by simp [sizeL]
theorem bigS_one (s : ByteArray) : bigS [s] = decide (4096 < s.size) := by simp [bigS]

theorem recB_byts {s : ByteArray} (h : s.size ≤ 4096) : Byts (recB s) := by
  refine Byts.cons ⟨by omega, by omega⟩ (Byts.cons ⟨by omega, by omega⟩ (Byts.append ?_ (Byts.cons ⟨by omega, by omega⟩ Byts.nil)))
  intro x hx
  simp only [byt, List.mem_map] at hx
  obtain ⟨b, _, rfl⟩ := hx
  exact ⟨by omega, by have := b.toNat_lt; omega⟩
theorem recsB_byts : ∀ {l : List ByteArray}, (∀ s ∈ l, s.size ≤ 4096) → Byts (recsB l)
  | [], _ => Byts.nil
  | s :: _, h => Byts.append (recB_byts (h s (List.mem_cons_self ..))) (recsB_byts fun x hx => h x (List.mem_cons_of_mem _ hx))

set_option maxRecDepth 100000 in
set_option maxHeartbeats 8000000 in
theorem lapp_is {gl gd : Nat} {F : Nat → Prop} {S : LS10} (s : ByteArray) (w : World) (h : IsLogG w gl gd F S) (hs : s.size ≤ 140737488351232) (hc : S.D.calls ≤ 950000) :
    Calls Try.prog 57 #[.pointer (some ⟨gl, 0, none⟩), .string s] w fun e w' => e = .returned (.int .i64 (appG S s).2) ∧ logK.To gl gd F (appG S s).1 w w' := by
  have HI := Lib.hid h
  obtain ⟨Fd, vL, h⟩ := h
  have HFEW := Lib.hid h.few
  have ha := h.at_
  obtain ⟨D, L, dead⟩ := S
  cases dead with
  | true =>
    have c0 : w.cell? ⟨gl, 0, none⟩ = some (.pointer none) := ha.c0
    have hr : appG ⟨D, L, true⟩ s = (⟨D, L, true⟩, 9) := rfl
    rw [hr]
    clear h ha hr
    go_enter Try.func57, Try.ntmps57
    go_wp2_with fail
    go_ret
    exact ⟨rfl, logTo_same HI.out (Below.refl _ _)⟩
  | false =>
    have hat : LogAt w gl gd F Fd D (.pointer (some ⟨gd, 0, none⟩)) vL (sizeL L : Nat) L := ha
    have c0 := hat.c0
    have c2 := hat.c2
    have HH := Lib.hid hat
    obtain ⟨R, hR⟩ : ∃ R, appG ⟨D, L, false⟩ s = R := ⟨_, rfl⟩
    have hr := hR
    rw [appG, if_neg (show ¬ (false = true) by decide)] at hr
    rw [hR]
    obtain ⟨E, hE⟩ : ∃ E, dAppend D nLog (recB s) = E := ⟨_, rfl⟩
    obtain ⟨T, hT⟩ : ∃ T, sizeL L = T := ⟨_, rfl⟩
    have hT5 : T ≤ 524288 := by rw [← hT]; exact HFEW.out.1
    obtain ⟨ns, hns⟩ : ∃ ns, s.size = ns := ⟨_, rfl⟩
    have HR : Hid ((if 4096 < ns then ((⟨D, L, false⟩ : LS10), (1 : Int)) else if 524288 < T + ns + 16 then (⟨D, L, false⟩, 8) else if E.2 ≠ 0 then (⟨E.1, L, true⟩, E.2) else (⟨E.1, L ++ [s], false⟩, 0)) = R) := by show _ = _; rw [← hr, ← hE, ← hT, ← hns]
    obtain ⟨A, c, hvL, _, _, _⟩ := hat.slice
    obtain ⟨nL, hnL⟩ : ∃ nL, L.length = nL := ⟨_, rfl⟩
    rw [hnL] at hvL
    have hnl5 : nL ≤ 32768 := by have := sizeL_len L; omega
    subst hvL
    have hcal : D.calls ≤ 950000 := hc
    have HNL := Lib.hid hnL
    have HT := Lib.hid hT
    have HE := Lib.hid hE
    have HNS := Lib.hid hns
    rw [hT] at c2
    have hcp : countP T [s] = if 4096 < ns then (0, 1) else if 524288 < T + ns + 16 then (0, 8) else (((T + ns + 16 : Nat) : Int), 0) := by
      rw [countP, bigS_one, sizeL_one, hns]
      simp only [decide_eq_true_eq, Nat.add_assoc]
    have HCP := Lib.hid hcp
    obtain ⟨w1, hw1⟩ : ∃ w1, w1 = w.alloc (.cells #[.string s] 9) := ⟨_, rfl⟩
    have hb1 : Below w.heap.size w w1 := by rw [hw1]; exact (Below.refl _ _).alloc (Nat.le_refl _) _
    have hr1 : Rd w1 (some ⟨w.heap.size, 0, none⟩) (strs [s]) := by rw [hw1]; exact rd_new w (strs [s]) _
    have HW1 := Lib.hid hw1
    have HR1 := Lib.hid hr1
    have HB1 := Lib.hid hb1
    have q0 : w1.cell? ⟨gl, 0, none⟩ = some (.pointer (some ⟨gd, 0, none⟩)) := (hat.below hb1).c0
    have hsame : ∀ w2, Below w.heap.size w w2 → logK.To gl gd F ⟨D, L, false⟩ w w2 := fun w2 hb => logTo_same HI.out hb
    have HSAME := Lib.hid hsame
    clear h ha hat hr hR hE hT hns hnL hcp hw1 hr1 hb1 hsame HI
    go_enter Try.func57, Try.ntmps57
    go_wp2_with fail
    rw [← HW1.out]
    refine (count_is T (some ⟨w.heap.size, 0, none⟩) 1 1 [s] w1 rfl HR1.out hT5 (by omega)).mono ?_
    rintro e w' ⟨rfl, rfl⟩
    rw [HCP.out]
    have hr := HR.out
    by_cases hbig : 4096 < ns
    · rw [if_pos hbig] at hr ⊢
      have HR2 := Lib.hid hr
      clear hr HR c0 c2 q0
      go_wp2_with fail
      go_ret
      rw [← HR2.out]
      exact ⟨rfl, HSAME.out _ HB1.out⟩
    · rw [if_neg hbig] at hr ⊢
      by_cases hful : 524288 < T + ns + 16
      · rw [if_pos hful] at hr ⊢
        have HR2 := Lib.hid hr
        clear hr HR c0 c2 q0
        go_wp2_with fail
        go_ret
        rw [← HR2.out]
        exact ⟨rfl, HSAME.out _ HB1.out⟩
      · rw [if_neg hful] at hr ⊢
        have HR2 := Lib.hid hr
        obtain ⟨nz, hnz⟩ : ∃ nz, (u8s (recsB [s])).length = nz := ⟨_, rfl⟩
        have hnz2 : nz ≤ 5000 := by rw [← hnz, u8s_length, recsB_one, recB_len, HNS.out]; omega
        have HNZ := Lib.hid hnz
        have hs4 : s.size ≤ 4096 := by rw [HNS.out]; omega
        have HS4 := Lib.hid hs4
        have hput : ∀ wX : World, Rd wX (some ⟨w1.heap.size, 0, none⟩) (strs [s]) → Calls Try.prog 75 #[.slice none 0 0, .slice (some ⟨w1.heap.size, 0, none⟩) 1 1] wX (Made wX.heap.size 5 wX (u8s (recsB [s]))) := fun wX hX => lput_is (some ⟨w1.heap.size, 0, none⟩) 1 1 [s] wX rfl hX (fun x hx => by rw [List.mem_singleton] at hx; subst hx; exact HS4.out) (by omega)
        have HPUT := Lib.hid hput
        have happ : ∀ (w4 : World) (A4 : Option Addr) (c4 B : Nat), Below w.heap.size w w4 → w4.ownsRow B 5 1 (.slice A4 nz c4) nz (u8s (recsB [s])) → w.heap.size ≤ B → nz ≤ c4 → c4 ≤ maxLen → Calls Try.prog 74 #[.pointer (some ⟨gd, 0, none⟩), .string nLog, .slice A4 nz c4] w4 fun e w' => e = .returned (.int .i64 E.2) ∧ DiskTo gd Fd E.1 w4 w' := by
          intro w4 A4 c4 B hb4 ho4 hB hc4 hm4
          obtain ⟨A', c', e4, _, _, hr4, hlo4, _⟩ := own_val ho4
          cases e4
          rw [← HE.out]
          rw [recsB_one] at hr4
          have hl : (recB s).length = nz := by rw [← HNZ.out, u8s_length, recsB_one]
          exact append_is gd nLog A4 nz c4 (recB s) w4 (HH.out.below hb4).dk nLog_max (by omega) ⟨hl, hr4, recB_byts HS4.out, hc4, hm4, by omega, fun a ha _ hf => by have h1 := hlo4 a ha; have h2 := HH.out.lt _ (HH.out.sub _ hf); omega⟩
        have HAPP := Lib.hid happ
        have z1 := HB1.out.size
        clear hr HR c0 c2 hnz hs4 hput happ
        go_wp2_with fail
        go_region_held3 (fun w' => w'.cell? ⟨gl, 0, none⟩ = some (.pointer (some ⟨gd, 0, none⟩)))
          (first | assumption | go_keep)
          (first
            | (go_at_call 75; refine (HPUT.out _ (by first | exact rd_new _ (strs [s]) _ | exact (rd_new _ (strs [s]) _).drew)).mono ?_; rintro e w4 ⟨v4, rfl, ho4, hb4⟩; have hx4 : Below w.heap.size w w4 := (by first | exact (HB1.out.alloc z1 _).trans (hb4.mono (by simp; omega)) | exact (HB1.out.drew.alloc z1 _).trans (hb4.mono (by simp; omega)) | exact ((HB1.out.alloc z1 _).drew).trans (hb4.mono (by simp; omega))); have hS4 : w4.cell? ⟨gl, 0, none⟩ = some (.pointer (some ⟨gd, 0, none⟩)) := (HH.out.below hx4).c0; have ho4b := own_cast ho4 HNZ.out; obtain ⟨A4, c4, rfl, hc4, hm4, _, _, _⟩ := own_val ho4b)
            | (go_at_call 74; refine (HAPP.out w4 A4 c4 _ hx4 ho4b (by simp; omega) hc4 hm4).mono ?_; rintro e w5 ⟨rfl, ht5⟩; have hS5 : w5.cell? ⟨gl, 0, none⟩ = some (.pointer (some ⟨gd, 0, none⟩)) := (HH.out.below hx4).c0To ht5))
        have HX4 := Lib.hid hx4
        have HT5 := Lib.hid ht5
        clear hb4 hx4 hS4 ho4 ho4b hc4 hm4 ht5
        have hr := HR2.out
        by_cases he : E.2 = 0
        · have j1 : (E.2 != 0) = false := by simp [he]
          rw [if_neg (by rw [he]; decide)] at hr
          have HR3 := Lib.hid hr
          obtain ⟨x, hx⟩ : ∃ x, E.2 = x := ⟨_, rfl⟩
          rw [hx] at j1 ⊢
          obtain ⟨F5, Fd5, h5, hT5', hF5⟩ := HH.out.disk HX4.out HT5.out
          have k1 := h5.c1
          have H5 := Lib.hid h5
          have HTT5 := Lib.hid hT5'
          have HFF5 := Lib.hid hF5
          have HRW : Hid (w5.ownsRow 0 9 1 (.slice A nL c) nL (strs L)) := by show World.ownsRow _ _ _ _ _ _ _; have := h5.row; rwa [HNL.out] at this
          have hg5 : gl < w5.heap.size := h5.lt _ h5.here
          clear hr HR2 HPUT HAPP HX4 HT5 he hx h5 hT5' hF5
          go_upto_region 9 with fail
          go_cut [] from 39 to 49 (fun wx => ∃ (A8 : Option Addr) (c8 : Nat) (F8 : Nat → Prop), Hid (LogAt wx gl gd F8 Fd5 E.1 (.pointer (some ⟨gd, 0, none⟩)) (.slice A8 (nL + 1) c8) (sizeL L : Nat) (L ++ [s])) ∧ Hid (Touch F5 w5 wx) ∧ Hid (∀ k, F8 k → F5 k ∨ w5.heap.size ≤ k))
          case first =>
            go_region_law (first
              | (refine step_cloneG (by rfl) (by rfl) (by rfl) (clone_any s _ (by have := HNS.out; omega)) ?_; rintro e w6 ⟨rfl, hb6⟩; refine ⟨_, rfl, ?_⟩; have hx6 : Below w5.heap.size w5 w6 := (by first | exact hb6 | exact ((Below.refl _ _).drew).trans hb6); have k6 : w6.cell? ⟨gl, 1, none⟩ = some (.slice A nL c) := (hx6.cell (p := ⟨gl, 1, none⟩) hg5).trans k1; have k6a : (w6.alloc (.cells #[.string s] 9)).cell? ⟨gl, 1, none⟩ = some (.slice A nL c) := ((hx6.alloc (by have := hx6.size; omega) _).cell (p := ⟨gl, 1, none⟩) hg5).trans k1)
              | (refine step_app_lies _ (by rfl) _ _ _ (by rfl) 0 9 (.string ByteArray.empty) 16 Try.underlying50 info_str rfl (by decide) _ nL (strs L) (by rfl) ((own_below HRW.out hx6).alloc _) w6.heap.size (.string s) (by rfl) (cell_new _ _ _) (by rfl) (by omega) (Nat.zero_le _) ?_; intro g' c' w7 ho7 hg7 hl7; obtain ⟨hmore, k7, f7⟩ := H5.out.more HNL.out hx6 ho7 hg7 hl7))
            all_goals
              clear k1 k6 k6a k7 f7 ho7 hg7 hl7 hb6 hx6 q0
              go_wp2_with fail
              go_meet
              obtain ⟨F7, h7, ht7, hF7⟩ := hmore
              exact ⟨some ⟨g', 0, none⟩, c', F7, h7, ht7, hF7⟩
          case rest =>
            obtain ⟨A8, c8, F8, H8, HT8, HF8⟩ := hcut
            have y2 := H8.out.c2
            have z2 := H8.out.fz 2
            rw [HT.out] at y2
            clear k1 q0
            go_wp2_with fail
            go_ret
            rw [← HR3.out]
            have e16 : ((T : Int) + (ns : Int) + 16) = ((T + ns + 16 : Nat) : Int) := by omega
            have hsz : sizeL (L ++ [s]) = T + ns + 16 := by rw [sizeL_append, sizeL_one, HT.out, HNS.out]; omega
            refine ⟨rfl, logTo (S' := ⟨E.1, L ++ [s], false⟩) (F' := F8) (Fd' := Fd5) (p := .pointer (some ⟨gd, 0, none⟩)) (vL := .slice A8 (nL + 1) c8) ?_ rfl ⟨?_, fun x hx => ?_⟩ ?_ ?_⟩
            · have := H8.out.set2 ((T : Int) + (ns : Int) + 16)
              show LogAt _ _ _ _ _ _ _ _ ((sizeL (L ++ [s]) : Nat) : Int) _
              rw [hsz, ← e16]
              exact this
            · show sizeL (L ++ [s]) ≤ _
              rw [hsz]
              omega
            · rcases List.mem_append.1 hx with hx | hx
              · exact HFEW.out.2 x hx
              · rw [List.mem_singleton] at hx
                subst hx
                exact HS4.out
            · exact (HTT5.out.trans HT8.out HFF5.out).set (.inl HH.out.here) _
            · intro k hk
              rcases HF8.out k hk with h | h
              · exact HFF5.out k h
              · exact .inr (Nat.le_trans HTT5.out.size h)
        · have j1 : (E.2 != 0) = true := by simp [he]
          rw [if_pos he] at hr
          have HR3 := Lib.hid hr
          obtain ⟨x, hx⟩ : ∃ x, E.2 = x := ⟨_, rfl⟩
          rw [hx] at j1 HR3 ⊢
          have h4 := HH.out.below HX4.out
          have H4 := Lib.hid h4
          clear hr HR2 HPUT HAPP he hx h4
          go_wp2_with fail
          refine (H4.out.failed HT5.out x).mono ?_
          rintro e w6 ⟨rfl, F6, Fd6, h6, ht6, hF6⟩
          have H6 := Lib.hid h6
          have HT6 := Lib.hid ht6
          have HF6 := Lib.hid hF6
          clear h6 ht6 hF6
          go_wp2_with fail
          go_ret
          rw [← HR3.out]
          exact ⟨rfl, logTo (S' := ⟨E.1, L, true⟩) H6.out rfl HFEW.out ((Touch.of HX4.out).trans HT6.out fun k hk => .inl hk) fun k hk => (HF6.out k hk).imp id fun h => Nat.le_trans HX4.out.size h⟩

end Go.Proofs.Ytaccmjgnggepjaa
