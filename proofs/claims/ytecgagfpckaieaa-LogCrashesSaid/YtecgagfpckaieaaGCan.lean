/-
  What a log may tell behind a crash: lists of records, kept in a row of rows.
-/
import Derived.Test.YtecgagfpckaieaaGZC
namespace Go.Proofs.Ytecgagfpckaieaa
open Go.RowKit

set_option maxHeartbeats 1000000 in
theorem eqStrings_any (A A' : Option Addr) (c c' n n' : Nat) (l m : List ByteArray) (w : World) (hz : l.length = n) (hz' : m.length = n') (hr : Rd w A (strs l)) (hr' : Rd w A' (strs m)) (hn : n ≤ 1073741824) (hn' : n' ≤ 1073741824) :
    Calls Try.prog 13 #[.slice A n c, .slice A' n' c'] w fun e w' => e = .returned (.bool (decide (l = m))) ∧ ∃ d, w' = w.drewN d := by
  by_cases hnn : n = n'
  · subst hnn
    have HZ := Lib.hid hz
    have HZ' := Lib.hid hz'
    have HR := Lib.hid hr
    have HR' := Lib.hid hr'
    obtain ⟨bb, hbb⟩ : ∃ bb, decide (l = m) = bb := ⟨_, rfl⟩
    rw [hbb]
    have HBB := Lib.hid hbb
    clear hz hz' hr hr' hbb
    go_enter Try.func13, Try.ntmps13
    go_wp2_with fail
    go_loopw [5] (fun i wr => ∃ k d : Nat, i = .int .i64 k ∧ k ≤ n ∧ wr = w.drewN d ∧ Hid (l.take k = m.take k)) (fun i _ => n - (intOf i).toNat)
    case atStart => exact ⟨0, 0, rfl, by omega, rfl, rfl⟩
    case round =>
      obtain ⟨k, d, rfl, hk, rfl, HE⟩ := hrel
      have i0 : (0 : Int) ≤ (k : Int) := by omega
      by_cases hlt : k < n
      · have i1 : (k : Int) < (n : Int) := by omega
        have hkl : k < l.length := by rw [HZ.out]; exact hlt
        have hkm : k < m.length := by rw [HZ'.out]; exact hlt
        obtain ⟨x, hx⟩ : ∃ x, x = l[k] := ⟨_, rfl⟩
        obtain ⟨y, hy⟩ : ∃ y, y = m[k] := ⟨_, rfl⟩
        obtain ⟨b, off, rfl, _, hcl⟩ := HR.out.open_ (by rw [strs_length, HZ.out]; omega)
        obtain ⟨b', off', rfl, _, hcl'⟩ := HR'.out.open_ (by rw [strs_length, HZ'.out]; omega)
        have e0 : w.cell? ⟨b, off + k, none⟩ = some (.string x) := by rw [hx, hcl k _ (strs_at hkl)]; simp [hkl]
        have e0' : w.cell? ⟨b', off' + k, none⟩ = some (.string y) := by rw [hy, hcl' k _ (strs_at hkm)]; simp [hkm]
        have hlx : l[k]? = some x := by rw [hx]; simp [hkl]
        have hmy : m[k]? = some y := by rw [hy]; simp [hkm]
        by_cases hxy : x = y
        · have HN : Hid (l.take (k + 1) = m.take (k + 1)) := by
            show _ = _
            rw [List.take_add_one, List.take_add_one, hlx, hmy, HE.out, hxy]
          subst hxy
          clear hcl hcl' hx hy hlx hmy
          go_wp2_with fail
          go_quiet (fail)
          go_wp2_with fail
          go_roundw
          case rel => exact ⟨k + 1, _, by go_num, by omega, rfl, HN⟩
          case measure => simp [intOf]; omega
        · have HN : Hid (bb = false) := by
            show _ = _
            rw [← HBB.out, decide_eq_false_iff_not]
            intro h
            rw [h, hmy] at hlx
            cases hlx
            exact hxy rfl
          have j1 : (x.toList == y.toList) = false := by simp only [beq_eq_false_iff_ne, ne_eq]; exact fun h => hxy (ba_inj h)
          have j2 : (x.toList != y.toList) = true := by rw [bne, j1]; rfl
          have j3 : ¬ x.toList = y.toList := fun h => hxy (ba_inj h)
          clear hcl hcl' hx hy hlx hmy hxy
          go_wp2_with fail
          go_quiet (fail)
          go_wp2_with fail
          go_ret
          exact ⟨ret_bool HN.out.symm, _, World.drewN_drewN _ _ _⟩
      · have i1 : ¬ ((k : Int) < (n : Int)) := by omega
        have HN : Hid (bb = true) := by
          show _ = _
          rw [← HBB.out, decide_eq_true_eq]
          have h := HE.out
          rwa [List.take_of_length_le (by rw [HZ.out]; omega), List.take_of_length_le (by rw [HZ'.out]; omega)] at h
        go_wp2_with fail
        go_ret
        exact ⟨ret_bool HN.out.symm, _, rfl⟩
  · have i1 : ((n : Int) != (n' : Int)) = true := by simp; omega
    have hd : decide (l = m) = false := by
      rw [decide_eq_false_iff_not]
      intro h
      rw [h] at hz
      omega
    rw [hd]
    clear hd hz hz' hr hr'
    go_enter Try.func13, Try.ntmps13
    go_wp2_with fail
    go_ret
    exact ⟨rfl, 0, rfl⟩

theorem info_strsG : (Try.prog.info? 34).map (fun i => (i.zero, i.size, i.bytes)) = some (some (.slice none 0 0), 1, 24) := by kernel_rfl

/-- a row of lists of records, apart from F; the lists apart from the row -/
structure CanIn (w : World) (F : Nat → Prop) (B : Nat) (v : Value) (vs : List Value) (C : List (List ByteArray)) : Prop where
  row : w.ownsRow B 34 1 v vs.length vs
  len : vs.length = C.length
  els : ∀ (i : Nat) (l : List ByteArray), C[i]? = some l → ∃ A c, vs[i]? = some (.slice A l.length c) ∧ TxtIn w (fun k => F k ∨ v.ownBlock = some k) A l.length c l
  rowF : ∀ k, v.ownBlock = some k → ¬ F k
  few : ∀ l ∈ C, l.length ≤ 32768
section
variable {w w' w3 : World} {F F' G : Nat → Prop} {B : Nat} {v : Value} {vs : List Value} {C : List (List ByteArray)} {A : Option Addr} {n c : Nat} {l : List ByteArray}
theorem TxtIn.less (h : TxtIn w F A n c l) (hs : ∀ k, F' k → F k) : TxtIn w F' A n c l := ⟨h.hz, h.rd, h.hc, h.hm, fun a ha h0 hf => h.far a ha h0 (hs _ hf)⟩
theorem CanIn.less (h : CanIn w F B v vs C) (hs : ∀ k, F' k → F k) : CanIn w F' B v vs C :=
  ⟨h.row, h.len, fun i l hl => by
    obtain ⟨A, c, h1, h2⟩ := h.els i l hl
    exact ⟨A, c, h1, h2.less fun k hk => hk.imp (hs k) id⟩, fun k hk hf => h.rowF k hk (hs k hf), h.few⟩
theorem TxtIn.touch2 (h : TxtIn w (fun k => F k ∨ G k) A n c l) (ht : Touch F w w') (hF : ∀ k, F' k → F k ∨ w.heap.size ≤ k) : TxtIn w' (fun k => F' k ∨ G k) A n c l :=
  h.touch (ht.mono fun _ h => .inl h) fun k hk => by
    rcases hk with hk | hk
    · exact (hF k hk).imp .inl id
    · exact .inl (.inr hk)
theorem CanIn.touch (h : CanIn w F B v vs C) (ht : Touch F w w') (hF : ∀ k, F' k → F k ∨ w.heap.size ≤ k) : CanIn w' F' B v vs C :=
  ⟨own_kept h.row fun k hk hl => ht.block k hl (h.rowF k hk), h.len, fun i l hl => by
    obtain ⟨A, c, h1, h2⟩ := h.els i l hl
    exact ⟨A, c, h1, h2.touch2 ht hF⟩, fun k hk hf => by
    rcases hF k hf with h' | h'
    · exact h.rowF k hk h'
    · have := (own_lt h.row hk).1; omega, h.few⟩
theorem CanIn.below (h : CanIn w F B v vs C) (hb : Below w.heap.size w w') : CanIn w' F B v vs C :=
  h.touch (Touch.of hb) fun _ hk => .inl hk
theorem canNil (w : World) (F : Nat → Prop) (B : Nat) : CanIn w F B (.slice none 0 0) [] [] :=
  ⟨World.ownsRow_nil _ _ _ _, rfl, fun i l hl => by simp at hl, fun k hk => by simp [Value.ownBlock] at hk, fun l hl => by simp at hl⟩
/-- one list alone -/
theorem canOne (hB : B ≤ w.heap.size) (h : TxtIn w F A l.length c l) (hF : ∀ k, F k → k < w.heap.size) (hl : l.length ≤ 32768) :
    CanIn (w.alloc (.cells #[.slice A l.length c] 34)) F B (.slice (some ⟨w.heap.size, 0, none⟩) 1 1) [.slice A l.length c] [l] := by
  have hb : Below w.heap.size w (w.alloc (.cells #[.slice A l.length c] 34)) := (Below.refl _ _).alloc (Nat.le_refl _) _
  refine ⟨ownS_new w B 34 1 1 [.slice A l.length c] rfl (by decide) hB, rfl, fun i x hx => ?_, fun k hk hf => ?_, fun x hx => by rw [List.mem_singleton] at hx; subst hx; exact hl⟩
  · match i, hx with
    | 0, hx =>
      simp at hx
      subst hx
      refine ⟨A, c, rfl, (h.below hb).hz, (h.below hb).rd, h.hc, h.hm, fun a ha h0 hf => ?_⟩
      rcases hf with hf | hf
      · exact h.far a ha h0 hf
      · obtain ⟨b, off, e, hbl, _⟩ := h.rd.open_ (by rw [strs_length]; exact h0)
        rw [e] at ha
        cases ha
        cases hf
        exact absurd hbl (Nat.lt_irrefl _)
    | i + 1, hx => simp at hx
  · cases hk
    exact absurd (hF _ hf) (Nat.lt_irrefl _)
/-- one list more -/
theorem CanIn.snoc (h : CanIn w F B v vs C) (hB : B ≤ w.heap.size) (ht : TxtIn w (fun k => F k ∨ v.ownBlock = some k) A n c l) (hF : ∀ k, F k → k < w.heap.size) (hl : n ≤ 32768) (hC : C.length ≤ 1000) :
    ∃ A' c' w3, (Builtin.append_ #[47, 47] 47 #[v, .slice (some ⟨w.heap.size, 0, none⟩) 1 1]).run Try.prog (w.alloc (.cells #[.slice A n c] 34)) = .ok (.slice A' (C.length + 1) c') w3 ∧
      CanIn w3 F B (.slice A' (C.length + 1) c') (vs ++ [.slice A n c]) (C ++ [l]) ∧ Below B w w3 ∧ (∀ k, k < w.heap.size → v.ownBlock ≠ some k → w3.heap[k]? = w.heap[k]?) ∧ (∀ k, (Value.slice A' (C.length + 1) c').ownBlock = some k → v.ownBlock = some k ∨ w.heap.size ≤ k) ∧ w.heap.size ≤ w3.heap.size := by
  obtain ⟨w2, hw2⟩ : ∃ w2, w2 = w.alloc (.cells #[.slice A n c] 34) := ⟨_, rfl⟩
  have hb2 : Below w.heap.size w w2 := by rw [hw2]; exact (Below.refl _ _).alloc (Nat.le_refl _) _
  have hgx : w2.heap[w.heap.size]? = some (.cells ([.slice A n c] : List Value).toArray 34 (0, 0)) := by rw [hw2]; exact heap_alloc_new w _
  have hrow := ownS_below h.row hb2
  obtain ⟨A', c', w3, hrun, hown, hg, hloc⟩ := run_app_elem (P := Try.prog) w2 47 47 B 34 _ 1 24 Try.underlying47 info_strsG rfl (by decide) (by decide) v vs.length vs hrow w.heap.size [.slice A n c] rfl hgx (fun u hu => by rw [List.mem_singleton] at hu; subst hu; rfl) (by rw [h.len]; omega) (Nat.le_trans hB hb2.size)
  have z2 := hb2.size
  have hk3 : ∀ k, k < w.heap.size → v.ownBlock ≠ some k → w3.heap[k]? = w.heap[k]? := fun k hk hn => (hg.block k (by omega) (fun e => hn e.symm)).trans (hb2.block k hk)
  have hblk : ∀ k, (Value.slice A' (vs.length + 1) c').ownBlock = some k → v.ownBlock = some k ∨ k = w2.heap.size := fun k hk => by
    rcases hloc with e | e
    · exact .inl (by rw [← e]; exact hk)
    · rw [e] at hk; cases hk; exact .inr rfl
  have htx : ∀ {A n c l}, TxtIn w (fun k => F k ∨ v.ownBlock = some k) A n c l → TxtIn w3 (fun k => F k ∨ (Value.slice A' (vs.length + 1) c').ownBlock = some k) A n c l := fun {A n c l} hx => by
    have hlt : ∀ a, A = some a → 0 < n → a.block < w.heap.size := fun a ha h0 => by
      obtain ⟨b, off, e, hbl, _⟩ := hx.rd.open_ (by rw [strs_length, hx.hz]; exact h0)
      rw [e] at ha
      cases ha
      exact hbl
    refine ⟨hx.hz, ?_, hx.hc, hx.hm, fun a ha h0 hf => ?_⟩
    · rcases Nat.eq_zero_or_pos n with h0 | h0
      · have : l = [] := List.eq_nil_of_length_eq_zero (by rw [hx.hz]; exact h0)
        subst this
        exact Rd.nil _ _
      · exact hx.rd.kept (Nat.le_trans z2 hg.size) fun a ha hl => hk3 _ hl fun e => hx.far a ha h0 (.inr e)
    · rcases hf with hf | hf
      · exact hx.far a ha h0 (.inl hf)
      · rcases hblk _ hf with e | e
        · exact hx.far a ha h0 (.inr e)
        · have := hlt a ha h0
          omega
  have hlen : (vs ++ [(.slice A n c : Value)]).length = vs.length + 1 := by simp
  rw [← h.len]
  refine ⟨A', c', w3, by rw [← hw2]; exact hrun, ⟨by rw [hlen]; exact hown, by simp [h.len], fun i x hx => ?_, fun k hk hf => ?_, fun x hx => ?_⟩, belowS_own (hb2.mono hB) hrow hg (Nat.le_trans hB z2), hk3, fun k hk => ?_, Nat.le_trans z2 hg.size⟩
  · rcases Nat.lt_or_ge i C.length with hi | hi
    · rw [List.getElem?_append_left hi] at hx
      obtain ⟨Ax, cx, h1, h2⟩ := h.els i x hx
      exact ⟨Ax, cx, by rw [List.getElem?_append_left (by rw [h.len]; exact hi)]; exact h1, htx h2⟩
    · rw [List.getElem?_append_right hi] at hx
      have h0 : i - C.length = 0 := by
        rcases Nat.eq_zero_or_pos (i - C.length) with h0 | h0
        · exact h0
        · rw [List.getElem?_eq_none (by simp; omega)] at hx; cases hx
      rw [h0] at hx
      simp at hx
      subst hx
      have hn := ht.hz
      refine ⟨A, c, ?_, ?_⟩
      · rw [List.getElem?_append_right (by rw [h.len]; exact hi), h.len, h0, hn]
        rfl
      · rw [hn]
        exact htx ht
  · rcases hblk k hk with e | e
    · exact h.rowF k e hf
    · have := hF k hf; omega
  · rcases List.mem_append.1 hx with hx | hx
    · exact h.few x hx
    · rw [List.mem_singleton] at hx
      subst hx
      rw [ht.hz]
      exact hl
  · rcases hblk k hk with e | e
    · exact .inl e
    · exact .inr (by omega)
end

end Go.Proofs.Ytecgagfpckaieaa
