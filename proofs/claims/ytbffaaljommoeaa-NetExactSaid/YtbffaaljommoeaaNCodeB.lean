/-
  The landed package net: New, remove, Drop, Take, Clear.
-/
import Derived.Test.YtbffaaljommoeaaNCodeA
namespace Go.Proofs.Ytbffaaljommoeaa
open Go.RowKit

def netZ : Array Value := Array.replicate 256 (.slice none 0 0)
theorem net_zero (w : World) : (zeroValue 55).run Try.prog w = .ok (.agg netZ) w := by kernel_rfl
theorem net_cells : (Value.agg netZ).cells = netZ := by kernel_rfl

theorem new_in (w : World) : NetIn (w.alloc (.cells netZ 55)) w.heap.size (fun k => k = w.heap.size) (fun _ => .slice none 0 0) nNone where
  blk := ⟨netZ, heap_alloc_new w _, by simp [netZ], fun k hk => by simp [netZ, hk]⟩
  row := fun k _ => World.ownsRow_nil _ _ _ _
  ap := fun i j _ _ _ b hb => by simp [Value.ownBlock] at hb
  ng := fun k _ => by simp [Value.ownBlock]
  here := rfl
  rowF := fun k _ b hb => by simp [Value.ownBlock] at hb
  lt := fun k hk => by rw [hk]; simp
  ok := fun k _ => OkMsgs.nil

set_option maxHeartbeats 1000000 in
theorem new_is (w : World) : Calls Try.prog 7 #[] w fun e w' => ∃ (g : Nat) (F : Nat → Prop), e = .returned (.pointer (some ⟨g, 0, none⟩)) ∧ IsNet w' g F nNone ∧ (∀ k, F k → w.heap.size ≤ k) ∧ Below w.heap.size w w' := by
  have hz := fun w => net_zero w
  obtain ⟨w1, hw1⟩ : ∃ w1, w1 = w.alloc (.cells netZ 55) := ⟨_, rfl⟩
  have hi := new_in w
  rw [← hw1] at hi
  have hb : Below w.heap.size w w1 := by rw [hw1]; exact (Below.refl _ _).alloc (Nat.le_refl _) _
  have HW := Lib.hid hw1
  have HI := Lib.hid hi
  clear hi hw1
  go_enter Try.func7, Try.ntmps7
  go_wp2_with fail
  rw [← HW.out]
  go_ret
  exact ⟨_, _, rfl, ⟨_, HI.out⟩, fun k hk => by rw [hk]; exact Nat.le_refl _, hb⟩

section
variable {w : World} {g k : Nat} {F : Nat → Prop} {L : PN} {V : Nat → Value}
/-- where a row lies, if there is a message -/
theorem NetIn.rowAt (h : NetIn w g F V L) (hk : k < 256) {n : Nat} (hn : (L k).length = n) (h0 : 0 < n) : ∃ gr cap, V k = .slice (some ⟨gr, 0, none⟩) n cap ∧ n ≤ cap ∧ cap ≤ maxLen := by
  subst hn
  rcases (h.row k hk).2 with ⟨_, h1⟩ | ⟨gr, cap, cur, hv, hb, hg, hnc, hcm, _⟩
  · omega
  · exact ⟨gr, cap, hv, hnc, hcm⟩
end

set_option maxHeartbeats 1000000 in
theorem remove_is {F : Nat → Prop} {L : PN} (g k j : Nat) (w : World) (h : IsNet w g F L) (hk : k < 256) (hj : j < (L k).length) :
    Calls Try.prog 26 #[.pointer (some ⟨g, k, none⟩), .int .i64 j] w fun e w' => e = .returned (.tuple #[]) ∧ NetTo g F (L.put k (delN (L k) j)) w w' := by
  obtain ⟨V, h⟩ := h
  obtain ⟨m, hm⟩ : ∃ m, (L k).length = m + 1 := ⟨(L k).length - 1, by omega⟩
  obtain ⟨gr, cap, hv, hnc, hcm⟩ := h.rowAt hk hm (by omega)
  have hlen := (h.ok k hk).1
  have hrow := h.row k hk
  rw [hv, hm] at hrow
  have HD := Lib.hid (delete_anyN 0 gr cap m j _ w hrow (by omega) (by omega) (txtsN_one _))
  have c1 := h.cell hk
  have f1 := h.fz k
  rw [hv] at c1
  have hng := h.ng k hk
  rw [hv] at hng
  have hgl := h.lt _ h.here
  have HI := Lib.hid h
  have HV := Lib.hid hv
  have HM := Lib.hid hm
  have HJ := Lib.hid hj
  have e1 : IntKind.i64.wrap ((j : Int) + 1) = (j : Int) + 1 := IntWalk.i64_in _ ⟨by omega, by omega⟩
  clear h hv hm hrow hlen hnc hcm hj
  go_enter Try.func26, Try.ntmps26
  go_wp2_with fail
  refine HD.out.mono ?_
  rintro e w1 ⟨rfl, ho, hg1⟩
  have ht : Touch (fun b => (V k).ownBlock = some b) w w1 := Touch.grown hg1 fun b hb => by rw [HV.out]; exact hb
  have c2 := (ht.cell (o := k) hgl (by rw [HV.out]; exact hng)).trans c1
  have f2 := (ht.frozen (o := k) hgl (by rw [HV.out]; exact hng)).trans f1
  have hfin := HI.out.rowTo hk ht (v2 := .slice (some ⟨gr, 0, none⟩) m cap) (l2 := delN (L k) j) (by
    rw [← txtsN_del]
    exact own_cast ho (by have := delN_length HJ.out; have := HM.out; omega)) (fun b hb => .inl (by rw [HV.out]; exact hb)) ((HI.out.ok k hk).del HJ.out)
  have HF := Lib.hid hfin
  clear ho hg1 ht hfin c1 f1
  go_wp2_with fail
  go_end0
  exact ⟨rfl, HF.out⟩

set_option maxHeartbeats 1000000 in
theorem drop_is {F : Nat → Prop} {L : PN} (g : Nat) (f t k : Int) (w : World) (h : IsNet w g F L) (hf : Fit f) (ht : Fit t) :
    Calls Try.prog 16 #[.pointer (some ⟨g, 0, none⟩), .int .i64 f, .int .i64 t, .int .i64 k] w fun e w' => e = .returned (.int .i64 (nDrop L f t k).2) ∧ NetTo g F (nDrop L f t k).1 w w' := by
  have HL := Lib.hid (find_is g f t k w h hf ht)
  have HI := Lib.hid h
  cases hb : hasK L f t k with
  | false =>
    rw [nDrop, if_pos hb]
    rw [if_neg (by rw [hb]; decide)] at HL
    clear hf ht hb h
    go_enter Try.func16, Try.ntmps16
    go_wp2_with fail
    refine HL.out.mono ?_
    rintro e w' ⟨rfl, rfl⟩
    go_wp2_with fail
    go_ret
    exact ⟨rfl, netTo_same HI.out (Below.refl _ _)⟩
  | true =>
    rw [nDrop, if_neg (by rw [hb]; decide)]
    rw [if_pos hb] at HL
    have hbo := hasK_both hb
    have hk := hasK_iff.1 hb
    rw [at_yes hbo] at hk
    obtain ⟨j, rfl⟩ : ∃ j : Nat, k = j := ⟨k.toNat, by omega⟩
    have HR := Lib.hid (remove_is g (wayN f t) j w h (wayN_lt hbo) (by omega))
    clear hf ht hb h hbo hk
    go_enter Try.func16, Try.ntmps16
    go_wp2_with fail
    refine HL.out.mono ?_
    rintro e w' ⟨rfl, rfl⟩
    go_wp2_with fail
    refine HR.out.mono ?_
    rintro e w' ⟨rfl, hto⟩
    have HT := Lib.hid hto
    clear hto
    go_wp2_with fail
    go_ret
    exact ⟨rfl, HT.out⟩

theorem Wr.kept {w w' : World} {g c n : Nat} {zs : List Int} (h : Wr w g c n zs) (hs : w.heap.size ≤ w'.heap.size) (hk : w'.heap[g]? = w.heap[g]?) : Wr w' g c n zs where
  hz := h.hz
  hc := h.hc
  hm := h.hm
  lt := Nat.lt_of_lt_of_le h.lt hs
  cells := fun i v hv => (World.cell?_of_block (a := ⟨g, i, none⟩) hk).trans (h.cells i v hv)
  room := fun i hi => by rw [World.cell?_of_block (a := ⟨g, i, none⟩) hk]; exact h.room i hi
  thaw := fun i hi => (World.frozen?_of_block (a := ⟨g, i, none⟩) hk).trans (h.thaw i hi)

set_option maxHeartbeats 1000000 in
theorem take_no {F : Nat → Prop} {L : PN} (g : Nat) (f t k : Int) (w : World) (h : IsNet w g F L) (hf : Fit f) (ht : Fit t) (hb : hasK L f t k = false) :
    Calls Try.prog 9 #[.pointer (some ⟨g, 0, none⟩), .int .i64 f, .int .i64 t, .int .i64 k] w fun e w' => e = .returned (.tuple #[.slice none 0 0, .int .i64 3]) ∧ w = w' := by
  have HL := Lib.hid (find_is g f t k w h hf ht)
  rw [if_neg (by rw [hb]; decide)] at HL
  clear hf ht hb h
  go_enter Try.func9, Try.ntmps9
  go_wp2_with fail
  refine HL.out.mono ?_
  rintro e w' ⟨rfl, rfl⟩
  go_wp2_with fail
  go_ret2
  exact ⟨rfl, rfl⟩

/-- what Take leaves behind: a row of its own, which is none of the net's -/
def TakeTo (g : Nat) (F : Nat → Prop) (L : PN) (n : Nat) (x : List Int) (w : World) (e : Ending) (w' : World) : Prop :=
  ∃ g' c', e = .returned (.tuple #[.slice (some ⟨g', 0, none⟩) n c', .int .i64 0]) ∧ Wr w' g' c' n x ∧ w.heap.size ≤ g' ∧
    ∃ F' : Nat → Prop, IsNet w' g F' L ∧ Touch F w w' ∧ (∀ k, F' k → F k ∨ w.heap.size ≤ k) ∧ ¬ F' g'

set_option maxHeartbeats 1000000 in
theorem take_yes {F : Nat → Prop} {L : PN} (g j n : Nat) (x : List Int) (f t : Int) (w : World) (h : IsNet w g F L) (hf : Fit f) (ht : Fit t) (hb : bothN f t = true) (hx : (L (wayN f t))[j]? = some x) (hz : x.length = n) :
    Calls Try.prog 9 #[.pointer (some ⟨g, 0, none⟩), .int .i64 f, .int .i64 t, .int .i64 j] w (TakeTo g F (L.put (wayN f t) (delN (L (wayN f t)) j)) n x w) := by
  have hI := h
  have hj := (List.getElem?_eq_some_iff.1 hx).1
  have hkk : hasK L f t j = true := by rw [hasK_iff, at_yes hb]; omega
  have HL := Lib.hid (find_is g f t j w h hf ht)
  rw [if_pos hkk] at HL
  obtain ⟨V, h⟩ := h
  have hw := wayN_lt hb
  obtain ⟨nL, hnL⟩ : ∃ nL, (L (wayN f t)).length = nL := ⟨_, rfl⟩
  have hok := (h.ok _ hw).2 x (List.mem_of_getElem? hx)
  obtain ⟨gr, cap, hv, hnc, hcm⟩ := h.rowAt hw hnL (by omega)
  have c1 := h.cell hw
  have hrow := h.row _ hw
  rw [hv] at c1 hrow
  have c2 := hrow.cells (g := gr) rfl j _ (txtsN_at hx)
  rw [Addr.add_lit, Nat.zero_add] at c2
  have hcv := fun (w : World) (s : ByteArray) => Lib.run_convert_string_bytes (P := Try.prog) w 9 30 5 s Try.underlying9 Try.underlying30 Try.underlying5
  have hwr := text_wr w hz hok.1 (by have := hok.2; unfold maxLen; omega)
  have hbw := text_below w 5 (strOfNums x)
  have hss : (strOfNums x).size = n := by rw [strOfNums_size, hz]
  obtain ⟨w1, hw1⟩ : ∃ w1, w1 = Lib.bytesWorld w 5 (strOfNums x) := ⟨_, rfl⟩
  rw [← hw1] at hwr hbw
  have HR := Lib.hid (remove_is g (wayN f t) j w1 (hI.below hbw) hw (by omega))
  have i0 : (0 : Int) ≤ (j : Int) := by omega
  have i1 : (j : Int) < (nL : Int) := by omega
  have HW := Lib.hid hw1
  have HWR := Lib.hid hwr
  have HBW := Lib.hid hbw
  have HS := Lib.hid hss
  have HI := Lib.hid hI
  clear hkk h hrow hv hok hx hz hf ht hb hw hnL hI hwr hbw hss hnc hcm hw1
  go_enter Try.func9, Try.ntmps9
  go_wp2_with fail
  refine HL.out.mono ?_
  rintro e w' ⟨rfl, rfl⟩
  go_wp2_with fail
  rw [← HW.out]
  refine HR.out.mono ?_
  rintro e w2 ⟨rfl, hto⟩
  have HT := Lib.hid hto
  clear hto
  go_wp2_with fail
  go_ret2
  obtain ⟨F', t1, t2, t3⟩ := HT.out
  have hg : ¬ F w.heap.size := fun hf => by have := HI.out.lt _ hf; omega
  refine ⟨w.heap.size, _, by rw [HS.out]; rfl, HWR.out.kept t2.size (t2.block _ HWR.out.lt hg), Nat.le_refl _, F', t1, (Touch.of HBW.out : Touch F w w1).trans t2 (fun _ hk => .inl hk), fun k hk => (t3 k hk).imp id fun e => Nat.le_trans HBW.out.size e, fun hf => ?_⟩
  rcases t3 _ hf with e | e
  · exact hg e
  · have := HWR.out.lt; omega

/-- what holds at the end of Clear -/
inductive ClearJ (p : Prop) (w : World) : Act → World → Prop
  | mk (u0 u1 u2 u3 u4 u5 u6 u7 u8 u9 u10 u11 u12 u13 u14 u15 u16 u17 u18 : Value) (h : p) : ClearJ p w { tmps := #[u0, u1, u2, u3, u4, u5, u6, u7, u8, u9, u10, u11, u12, u13, u14, u15, u16, u17, u18], defers := [] } w
theorem ClearJ_elim {p : Prop} {w : World} {G : Act → World → Prop} (h : ∀ (u0 u1 u2 u3 u4 u5 u6 u7 u8 u9 u10 u11 u12 u13 u14 u15 u16 u17 u18 : Value), p → G { tmps := #[u0, u1, u2, u3, u4, u5, u6, u7, u8, u9, u10, u11, u12, u13, u14, u15, u16, u17, u18], defers := [] } w) : ∀ a' w', ClearJ p w a' w' → G a' w' := fun a' w' k => by
  cases k with
  | mk u0 u1 u2 u3 u4 u5 u6 u7 u8 u9 u10 u11 u12 u13 u14 u15 u16 u17 u18 hp => exact h _ _ _ _ _ _ _ _ _ _ _ _ _ _ _ _ _ _ _ hp

set_option maxHeartbeats 1000000 in
theorem clear_is {F : Nat → Prop} {L : PN} (g : Nat) (t : Int) (w : World) (h : IsNet w g F L) (ht : Fit t) :
    Calls Try.prog 17 #[.pointer (some ⟨g, 0, none⟩), .int .i64 t] w fun e w' => e = .returned (.tuple #[]) ∧ NetTo g F (nClear L t) w w' := by
  have HI := Lib.hid h
  clear h
  cases hn : nodeN t with
  | false =>
    have HL : Hid (∀ i : Nat, i < 16 → Calls Try.prog 29 #[.pointer (some ⟨g, 0, none⟩), .int .i64 ((i : Int) + 1), .int .i64 t] w fun e w' => e = .returned (.pointer none) ∧ w = w') := fun i hi => by
      have := link_is g ((i : Int) + 1) t w (by omega) ht
      rwa [linkA_no (by rw [bothN, hn, Bool.and_false])] at this
    rw [nClear, if_pos hn]
    clear hn ht
    go_enter Try.func17, Try.ntmps17
    go_wp2_with fail
    refine wp_scope_jumps 0 (ClearJ True w) (fun _ _ => 0) rfl ?_ ?_
    · go_wp2_with fail
      go_loop [4, 6] (fun _ i => i = .int .i64 0) (fun _ i => 16 - (intOf i).toNat)
      case atStart => rfl
      case round =>
        subst hrel
        go_wp2_with fail
        refine (HL.out 0 (by omega)).mono ?_
        rintro e w' ⟨rfl, rfl⟩
        go_wp2_with fail
        go_step3
        show 0 = 0 ∧ ClearJ True w _ _
        exact ⟨rfl, .mk _ _ _ _ _ _ _ _ _ _ _ _ _ _ _ _ _ _ _ trivial⟩
    · refine ClearJ_elim ?_
      intro u0 u1 u2 u3 u4 u5 u6 u7 u8 u9 u10 u11 u12 u13 u14 u15 u16 u17 u18 _
      go_wp2_with fail
      simp only [Exit.jump]
      go_end0
      exact ⟨rfl, netTo_same HI.out (Below.refl _ _)⟩
  | true =>
    obtain ⟨y, hy⟩ : ∃ y, (t - 1).toNat = y := ⟨_, rfl⟩
    have hy16 : y < 16 := by have := nodeN_iff.1 hn; omega
    have HL : Hid (∀ (i : Nat) (wX : World), i < 16 → Calls Try.prog 29 #[.pointer (some ⟨g, 0, none⟩), .int .i64 ((i : Int) + 1), .int .i64 t] wX fun e w' => e = .returned (.pointer (some ⟨g, i * 16 + y, none⟩)) ∧ wX = w') := fun i wX hi => by
      have hb : bothN ((i : Int) + 1) t = true := by
        have := nodeN_iff.1 hn
        rw [bothN_iff]; omega
      have := link_is g ((i : Int) + 1) t wX (by omega) ht
      rw [linkA_yes hb, wayN, hy] at this
      rwa [show ((i : Int) + 1 - 1).toNat = i by omega] at this
    rw [nClear, if_neg (by rw [hn]; decide), hy]
    clear hn ht hy
    go_enter Try.func17, Try.ntmps17
    go_wp2_with fail
    refine wp_scope_jumps 0 (ClearJ False w) (fun _ _ => 0) rfl ?_ ?_
    · go_wp2_with fail
      go_loopw [4, 6] (fun _ i wr => ∃ k : Nat, i = .int .i64 k ∧ k ≤ 16 ∧ Hid (NetTo g F (clrN L y k) w wr)) (fun _ i _ => 16 - (intOf i).toNat)
      case atStart => exact ⟨0, rfl, by omega, by rw [clrN_zero]; exact netTo_same HI.out (Below.refl _ _)⟩
      case round =>
        obtain ⟨k, rfl, hk, HT⟩ := hrel
        by_cases hlt : k < 16
        · have i1 : (k : Int) < 16 := by omega
          have e1 : IntKind.i64.wrap ((k : Int) + 1) = (k : Int) + 1 := IntWalk.i64_in _ ⟨by omega, by omega⟩
          have hkw : k * 16 + y < 256 := by omega
          obtain ⟨V, c1, f1⟩ : ∃ V : Nat → Value, wr.cell? ⟨g, k * 16 + y, none⟩ = some (V (k * 16 + y)) ∧ wr.frozen? ⟨g, k * 16 + y, none⟩ = false := by
            obtain ⟨F', ⟨V, h1⟩, _, _⟩ := HT.out
            exact ⟨V, h1.cell hkw, h1.fz _⟩
          have HN : Hid (NetTo g F (clrN L y (k + 1)) w (wr.setCell ⟨g, k * 16 + y, none⟩ (.slice none 0 0))) :=
            HT.out.trans fun F' hn => by
              obtain ⟨V, h1⟩ := hn
              rw [← clrN_next L hy16]
              exact h1.rowTo hkw (Touch.refl _ _) (World.ownsRow_nil _ _ _ _) (fun b hb => by simp [Value.ownBlock] at hb) OkMsgs.nil
          go_wp2_with fail
          refine (HL.out k _ hlt).mono ?_
          rintro e w' ⟨rfl, rfl⟩
          go_wp2_with fail
          go_roundw
          case rel => exact ⟨k + 1, by go_num, by omega, HN.out⟩
          case measure => simp [intOf]; omega
        · have i1 : ¬ ((k : Int) < 16) := by omega
          obtain rfl : k = 16 := by omega
          go_wp2_with fail
          refine wp_label ?_
          simp only [Exit.jump]
          go_end0
          exact ⟨rfl, HT.out⟩
    · refine ClearJ_elim ?_
      intro u0 u1 u2 u3 u4 u5 u6 u7 u8 u9 u10 u11 u12 u13 u14 u15 u16 u17 u18 h
      exact h.elim

end Go.Proofs.Ytbffaaljommoeaa
