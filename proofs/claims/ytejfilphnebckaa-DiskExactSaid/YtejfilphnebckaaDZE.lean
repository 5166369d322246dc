/-
  The landed disk and the page's own disk in one memory.
-/
import Derived.Test.YtejfilphnebckaaDSafeP
import Derived.Test.YtejfilphnebckaaDZB
import Derived.Test.YtejfilphnebckaaDRefK
import Derived.Test.YtejfilphnebckaaDZD
import Derived.Test.YtejfilphnebckaaDSpoil
namespace Go.Proofs.Ytejfilphnebckaa
open Go.RowKit

/-- both, apart: the page's blocks and all that was there ahead are none of the landed disk's -/
structure Pair (B : Nat) (G F : Nat → Prop) (g gr : Nat) (D E : PD) (w : World) : Prop where
  hd : HDG G w g D
  rf : IsRef w gr F E
  sub : ∀ k, F k → G k ∧ B ≤ k
  low : ∀ k, k < B → G k
def Both (B g gr : Nat) (D : PD) (w : World) : Prop := ∃ G F : Nat → Prop, Pair B G F g gr D D w

section
variable {B : Nat} {G F S : Nat → Prop} {g gr gb : Nat} {D D' E E' : PD} {w w' : World} {vs : List Value}
theorem HDG.keptT (h : HDG G w g D) (ht : Touch S w w') (hS : ∀ k, S k → G k) : HDG G w' g D := by
  obtain ⟨h1, F, h2, h3⟩ := h
  exact ⟨fun k hk => Nat.lt_of_lt_of_le (h1 k hk) ht.size, F, h2.kept ht.size fun k hk => ht.block k (h2.lt k hk) fun hs => h3 k hk (hS k hs), h3⟩
theorem Pair.size (h : Pair B G F g gr D E w) : B ≤ w.heap.size := by
  rcases Nat.eq_zero_or_pos B with h0 | h0
  · omega
  · have := h.hd.1 (B - 1) (h.low _ (by omega)); omega
theorem Pair.below (h : Pair B G F g gr D E w) (hb : Below w.heap.size w w') : Pair B G F g gr D E w' :=
  ⟨h.hd.kept hb, h.rf.kept hb.size fun k hk => hb.block k (h.rf.lt k hk), h.sub, h.low⟩
theorem Pair.wide (h : Pair B G F g gr D E w) (hb : Below w.heap.size w w') : Pair B (fun k => G k ∨ (w.heap.size ≤ k ∧ k < w'.heap.size)) F g gr D E w' :=
  ⟨h.hd.wide hb, (h.below hb).rf, fun k hk => ⟨.inl (h.sub k hk).1, (h.sub k hk).2⟩, fun k hk => .inl (h.low k hk)⟩
theorem Pair.land (h : Pair B G F g gr D E w) (hk : HDG G w' g D' ∧ Touch (fun k => ¬ G k) w w') : Pair B G F g gr D' E w' ∧ Below B w w' :=
  ⟨⟨hk.1, h.rf.kept hk.2.size fun k hf => hk.2.block k (h.rf.lt k hf) fun hn => hn (h.sub k hf).1, h.sub, h.low⟩,
   hk.2.below (fun k hn => by
     rcases Nat.lt_or_ge k B with hlt | hge
     · exact absurd (h.low k hlt) hn
     · exact hge) h.size⟩
theorem Pair.page (h : Pair B G F g gr D E w) (ht : RefTo gr F E' w w') : ∃ G' F' : Nat → Prop, Pair B G' F' g gr D E' w' ∧ Below B w w' := by
  obtain ⟨F', hr, htt, hs⟩ := ht
  have hd := h.hd.keptT htt fun k hk => (h.sub k hk).1
  refine ⟨fun k => G k ∨ (w.heap.size ≤ k ∧ k < w'.heap.size), F', ⟨⟨fun k hk => ?_, ?_⟩, hr, fun k hk => ?_, fun k hk => .inl (h.low k hk)⟩, htt.below (fun k hk => (h.sub k hk).2) h.size⟩
  · rcases hk with hk | hk
    · exact hd.1 k hk
    · exact hk.2
  · obtain ⟨h1, Fd, h2, h3⟩ := h.hd
    refine ⟨Fd, h2.kept htt.size fun k hk => htt.block k (h2.lt k hk) fun hf => h3 k hk (h.sub k hf).1, fun k hk hg => ?_⟩
    rcases hg with hg | hg
    · exact h3 k hk hg
    · have := h2.lt k hk; omega
  · rcases hs k hk with hk' | hk'
    · exact ⟨.inl (h.sub k hk').1, (h.sub k hk').2⟩
    · exact ⟨.inr ⟨hk', hr.lt k hk⟩, Nat.le_trans h.size hk'⟩
theorem Pair.spoil (h : Pair B G F g gr D E w) (ht : Touch S w w') (hS : ∀ k, S k → G k ∧ ¬ F k ∧ B ≤ k) : Pair B G F g gr D E w' ∧ Below B w w' :=
  ⟨⟨h.hd.keptT ht fun k hk => (hS k hk).1, h.rf.kept ht.size fun k hf => ht.block k (h.rf.lt k hf) fun hs => (hS k hs).2.1 hf, h.sub, h.low⟩, ht.below (fun k hk => (hS k hk).2.2) h.size⟩
theorem box_touch (h : Box w gb vs) (ht : Touch S w w') (hn : ¬ S gb) : Box w' gb vs := ⟨Nat.lt_of_lt_of_le h.1 ht.size, fun i v hv => (ht.cell h.1 hn).trans (h.2 i v hv)⟩
theorem RefTo.box (ht : RefTo gr F E' w w') (h : Box w gb vs) (hn : ¬ F gb) : Box w' gb vs := by
  obtain ⟨F', _, htt, _⟩ := ht
  exact box_touch h htt hn
end

/-! ### calls, and what is read -/
theorem with_calls (D : PD) (L : List PF) : (D.with L).calls = D.calls + 1 := tick_calls D
theorem open_calls {D : PD} {s : ByteArray} {k : PF → PD × Int} (h : ∀ f, (k f).1.calls ≤ D.calls + 1) : (dOpen D s k).1.calls ≤ D.calls + 1 := by
  unfold dOpen
  split
  · show D.calls ≤ _; omega
  · split
    · exact Nat.le_of_eq (tick_calls D)
    · split
      · exact Nat.le_of_eq (tick_calls D)
      · exact h _
theorem cut_calls (D : PD) (s : ByteArray) (n : Int) : (dCut D s n).1.calls ≤ D.calls + 1 := by
  unfold dCut
  split
  · show D.calls ≤ _; omega
  · refine open_calls fun f => ?_
    split
    · exact Nat.le_of_eq (tick_calls D)
    · exact Nat.le_of_eq (with_calls _ _)
theorem sync_calls (D : PD) (s : ByteArray) : (dSync D s).1.calls ≤ D.calls + 1 := open_calls fun _ => Nat.le_of_eq (with_calls _ _)
theorem remove_calls (D : PD) (s : ByteArray) : (dRemove D s).1.calls ≤ D.calls + 1 := open_calls fun _ => Nat.le_of_eq (with_calls _ _)
theorem rename_calls (D : PD) (a b : ByteArray) : (dRename D a b).1.calls ≤ D.calls + 1 := by
  unfold dRename
  split
  · show D.calls ≤ _; omega
  · exact open_calls fun _ => Nat.le_of_eq (with_calls _ _)
theorem append_calls (D : PD) (s : ByteArray) (b : List Int) : (dAppend D s b).1.calls ≤ D.calls + 1 := by
  unfold dAppend
  split
  · show D.calls ≤ _; omega
  · split
    · exact Nat.le_of_eq (tick_calls D)
    · split
      · exact Nat.le_of_eq (tick_calls D)
      · split
        · exact Nat.le_of_eq (with_calls _ _)
        · split
          · exact Nat.le_of_eq (tick_calls D)
          · exact Nat.le_of_eq (with_calls _ _)
theorem off_calls (D : PD) (n : Int) : (dOff D n).calls ≤ D.calls + 1 := by
  unfold dOff
  split
  · show D.calls ≤ _; omega
  · split
    · omega
    · show D.calls ≤ _; omega
theorem read_few {D : PD} (h : GoodD D) (s : ByteArray) : (dRead D s).1.length ≤ 1048576 := by
  unfold dRead
  split
  · show ([] : List Int).length ≤ _; simp
  · split
    · show ([] : List Int).length ≤ _; simp
    · split
      · show (D.visAt s).length ≤ _
        unfold PD.visAt
        cases hx : D.L[D.pos s]? with
        | none => simp
        | some f => exact (h.els f (List.mem_of_getElem? hx)).2.1
      · show ([] : List Int).length ≤ _; simp
theorem list_few {D : PD} (h : GoodD D) : (dList D).1.length ≤ 16 := by
  unfold dList
  split
  · show ([] : List ByteArray).length ≤ _; simp
  · show (namesF D.L).length ≤ _
    rw [namesF, List.length_map]
    exact h.few
theorem may_few {fs : List (ByteArray × List Int)} (h : mayB fs = true) : fs.length ≤ 16 ∧ ∀ f ∈ fs, f.2.length ≤ 1048576 := by
  simp only [mayB, Bool.and_eq_true, decide_eq_true_eq, List.all_eq_true] at h
  refine ⟨h.1, fun f hf => ?_⟩
  obtain ⟨i, hi⟩ := List.mem_iff_getElem?.1 hf
  have hil := (List.getElem?_eq_some_iff.1 hi).1
  have h1 := h.2 i (by simpa using hil)
  rw [okAt, hi] at h1
  simp only [Bool.and_eq_true, decide_eq_true_eq] at h1
  exact h1.2.1
theorem own_rd_far {w0 w : World} {B : Nat} {A : Option Addr} {xs : List Value} (h : Rd w0 A xs) (hB : w0.heap.size = B) (hb : Below B w0 w) : Rd w A xs := h.below (by rw [hB]; exact hb)

end Go.Proofs.Ytejfilphnebckaa
/-
  One act, done to the landed disk and to the page's own.
-/
namespace Go.Proofs.Ytejfilphnebckaa
open Go.RowKit

set_option maxRecDepth 100000 in
set_option maxHeartbeats 16000000 in
theorem does_is (B g gr : Nat) (D : PD) (a : ActD) (nB nK : Nat) (w0 w : World) (hin : ActIn w0 a) (hnB : a.nB = nB) (hnK : a.nK = nK) (hB : w0.heap.size = B) (hb0 : Below B w0 w) (h : Both B g gr D w) (hc : D.calls ≤ 1000) (hfB : nB ≤ 10000) :
    Calls Try.prog 16 #[.pointer (some ⟨g, 0, none⟩), .pointer (some ⟨gr, 0, none⟩), .agg #[.int .i64 a.Do, .string a.A, .string a.B, .int .i64 a.N, .slice a.AB nB a.cB, .slice a.AK nK a.cK]] w fun e w' => e = .returned (.bool true) ∧ ∃ D' : PD, Both B g gr D' w' ∧ Below B w w' ∧ D'.calls ≤ D.calls + 1 := by
  obtain ⟨G0, F, hp⟩ := h
  obtain ⟨w1, hw1⟩ : ∃ w1, w1 = w.alloc (.cells #[.int .i64 a.Do, .string a.A, .string a.B, .int .i64 a.N, .slice a.AB nB a.cB, .slice a.AK nK a.cK] 42) := ⟨_, rfl⟩
  have hb1 : Below w.heap.size w w1 := by rw [hw1]; exact (Below.refl _ _).alloc (Nat.le_refl _) _
  have bx1 : Box w1 w.heap.size [.int .i64 a.Do, .string a.A, .string a.B, .int .i64 a.N, .slice a.AB nB a.cB, .slice a.AK nK a.cK] := by rw [hw1]; exact box_new w [.int .i64 a.Do, .string a.A, .string a.B, .int .i64 a.N, .slice a.AB nB a.cB, .slice a.AK nK a.cK] 42
  have hp1 := hp.wide hb1
  have HG1 : Hid (G0 w.heap.size ∨ (w.heap.size ≤ w.heap.size ∧ w.heap.size < w1.heap.size)) := .inr ⟨Nat.le_refl _, bx1.1⟩
  have HNF : Hid (¬ F w.heap.size) := fun hf => by have := hp.rf.lt _ hf; omega
  have hi := hin
  have hkB := hin.kB
  have hkK := hin.kK
  rw [hnB] at hkB
  rw [hnK] at hkK
  have HZB : Hid (a.bs.length = nB) := hin.zB.trans hnB
  have HZK : Hid (a.ps.length = nK) := hin.zK.trans hnK
  have HB1 : Hid (Below B w w1) := hb1.mono hp.size
  have HB01 : Hid (Below B w0 w1) := hb0.trans (hb1.mono hp.size)
  have HRB0 := Lib.hid hin.rB
  have HBB := Lib.hid hB
  have HRB1 : Hid (Rd w1 a.AB (u8s a.bs)) := own_rd_far hin.rB hB HB01.out
  have HRK1 : Hid (Rd w1 a.AK (i64s a.ps)) := own_rd_far hin.rK hB HB01.out
  have HW := Lib.hid hw1
  have BX1 := Lib.hid bx1
  have c0 := bx1.2 0 _ rfl
  obtain ⟨r, hr, hwv⟩ := within_val a.Do 11 (by decide) (by decide)
  have HWI : Hid (∀ wX, Calls Try.prog 21 #[.int .i64 a.Do, .int .i64 11] wX fun e w' => e = .returned (.int .i64 (r : Int)) ∧ wX = w') := fun wX => within_is a.Do 11 r wX hwv (by decide) (by decide)
  clear hw1 hb1 bx1 hp hin hnB hnK hB hb0 hwv
  rcases (show r ≤ 2 ∨ r = 3 ∨ r = 4 ∨ r = 5 ∨ r = 6 ∨ r = 7 ∨ r = 8 ∨ r = 9 ∨ r = 10 by omega) with h2 | rfl | rfl | rfl | rfl | rfl | rfl | rfl | rfl
  · have e3 : (((r : Nat) : Int) == 3) = false := by simp; omega
    have e4 : (((r : Nat) : Int) == 4) = false := by simp; omega
    have e5 : (((r : Nat) : Int) == 5) = false := by simp; omega
    have e6 : (((r : Nat) : Int) == 6) = false := by simp; omega
    have e7 : (((r : Nat) : Int) == 7) = false := by simp; omega
    have e8 : (((r : Nat) : Int) == 8) = false := by simp; omega
    have e9 : (((r : Nat) : Int) == 9) = false := by simp; omega
    have e10 : (((r : Nat) : Int) == 10) = false := by simp; omega
    go_enter Try.func16, Try.ntmps16
    go_upto_region 1 with fail
    rw [← HW.out]
    go_wp2_with fail
    refine (HWI.out _).mono ?_
    rintro e w' ⟨rfl, rfl⟩
    clear c0
    have c4 := BX1.out.2 4 _ rfl
    go_wp2_with fail
    refine (copyBytes_any a.AB a.cB nB a.bs _ HZB.out HRB1.out hkB (by omega)).mono ?_
    rintro e w2 ⟨v2, rfl, ho2, hb2⟩
    have ho2b := own_cast ho2 ((u8s_length _).trans HZB.out)
    obtain ⟨A2, c2, rfl, hc2, hm2, hr2, _, _⟩ := own_val ho2b
    have hp2 := hp1.wide hb2
    have bx2 := BX1.out.below hb2 BX1.out.1
    have c1 := bx2.2 1 _ rfl
    have hbz2 := hb2.size
    clear c4
    go_wp2_with fail
    refine (hd_append hp2.hd a.A A2 nB c2 a.bs (name_max hi.sA) (by omega) ⟨HZB.out, hr2, hi.yB, hc2, hm2, by omega, fun a' ha h0 => .inr ((own_lt ho2b (g := a'.block) (by rw [ha]; rfl)).symm)⟩).mono ?_
    rintro e w3 ⟨rfl, hk3⟩
    obtain ⟨hp3, hb3⟩ := hp2.land hk3
    have bx3 := box_touch bx2 hk3.2 (fun h => h (.inl HG1.out))
    have ho3 : w3.ownsRow w1.heap.size 5 1 (.slice A2 nB c2) nB (u8s a.bs) := own_kept ho2b fun k hk hl => hk3.2.block k hl fun h => h (.inr ((own_lt ho2b hk).symm))
    have HO2B := Lib.hid ho2b
    clear c1
    go_wp2_with fail
    refine (spoil_far9 w1.heap.size _ nB a.bs _ ho3 (by omega)).mono ?_
    rintro e w4 ⟨rfl, ht4⟩
    obtain ⟨hp4, hb4⟩ := hp3.spoil ht4 (fun k hk => by
      obtain ⟨q1, q2⟩ := own_lt HO2B.out hk
      refine ⟨.inr ⟨q2, q1⟩, fun hf => ?_, Nat.le_trans hp1.size q2⟩
      have := hp1.rf.lt k hf
      omega)
    have bx4 := box_touch bx3 ht4 (fun h => by
      obtain ⟨q1, q2⟩ := own_lt HO2B.out h
      have := BX1.out.1
      omega)
    have HB14 : Hid (Below B w1 w4) := (hb2.mono hp1.size).trans (hb3.trans hb4)
    have hgivp : GivB w4 F a.AB nB a.cB a.bs := by
      refine ⟨HZB.out, own_rd_far HRB0.out HBB.out (HB01.out.trans HB14.out), hi.yB, hkB, hi.xB, by omega, fun a' ha h0 hf => ?_⟩
      obtain ⟨b, off, e, hb, _⟩ := HRB0.out.open_ (by rw [u8s_length, HZB.out]; exact h0)
      rw [e] at ha
      cases ha
      have h1 := (hp1.sub _ hf).2
      have h2 := HBB.out
      have h3 : B ≤ b := h1
      omega
    have HP4 := Lib.hid hp4
    have HGV := Lib.hid hgivp
    have HB34 := HB14
    clear ho2 ho2b hr2 hp2 bx2 hk3 hp3 hb3 bx3 ho3 ht4 hp4 hb4 hgivp hb2
    go_wp2_with fail
    have hpd := HP4.out.below (w' := w4.drew) (Below.refl _ _).drew
    have bxd : Box w4.drew w.heap.size [.int .i64 a.Do, .string a.A, .string a.B, .int .i64 a.N, .slice a.AB nB a.cB, .slice a.AK nK a.cK] := bx4.below (Below.refl _ _).drew bx4.1
    refine wp_region_held_drew (S := fun w' => Box w' w.heap.size [.int .i64 a.Do, .string a.A, .string a.B, .int .i64 a.N, .slice a.AB nB a.cB, .slice a.AK nK a.cK]) (by kernel_rfl) bxd (fun _ => ?_)
    refine ytake_0 (v := ?vv41) (by kernel_rfl) (by kernel_rfl) (by kernel_rfl) (fun _ _ _ h => h) (Or.inl ⟨by rfl, ?hy41⟩) bxd ?_
    case hy41 =>
      intro wX hSw
      have c1 := hSw.2 1 _ rfl
      have c4 := hSw.2 4 _ rfl
      go_simp
      try with_reducible rfl
    try simp only [Act.put, List.setIfInBounds_toArray, List.set_cons_zero, List.set_cons_succ]
    refine ytake_2 (v := ?vv42) (by kernel_rfl) (by kernel_rfl) (by kernel_rfl) (fun _ _ _ h => h) (Or.inl ⟨by rfl, ?hy42⟩) bxd ?_
    case hy42 =>
      intro wX hSw
      have c1 := hSw.2 1 _ rfl
      have c4 := hSw.2 4 _ rfl
      go_simp
      try with_reducible rfl
    try simp only [Act.put, List.setIfInBounds_toArray, List.set_cons_zero, List.set_cons_succ]
    refine ytake_3 (v := ?vv43) (by kernel_rfl) (by kernel_rfl) (by kernel_rfl) (fun _ _ _ h => h) (Or.inl ⟨by rfl, ?hy43⟩) bxd ?_
    case hy43 =>
      intro wX hSw
      have c1 := hSw.2 1 _ rfl
      have c4 := hSw.2 4 _ rfl
      go_simp
      try with_reducible rfl
    try simp only [Act.put, List.setIfInBounds_toArray, List.set_cons_zero, List.set_cons_succ]
    refine ytake_4 (v := ?vv44) (by kernel_rfl) (by kernel_rfl) (by kernel_rfl) (fun _ _ _ h => h) (Or.inl ⟨by rfl, ?hy44⟩) bxd ?_
    case hy44 =>
      intro wX hSw
      have c1 := hSw.2 1 _ rfl
      have c4 := hSw.2 4 _ rfl
      go_simp
      try with_reducible rfl
    try simp only [Act.put, List.setIfInBounds_toArray, List.set_cons_zero, List.set_cons_succ]
    refine ytake_5 (v := ?vv45) (by kernel_rfl) (by kernel_rfl) (by kernel_rfl) (fun _ _ _ h => h) (Or.inl ⟨by rfl, ?hy45⟩) bxd ?_
    case hy45 =>
      intro wX hSw
      have c1 := hSw.2 1 _ rfl
      have c4 := hSw.2 4 _ rfl
      go_simp
      try with_reducible rfl
    try simp only [Act.put, List.setIfInBounds_toArray, List.set_cons_zero, List.set_cons_succ]
    refine ytake_6 (v := ?vv46) (by kernel_rfl) (by kernel_rfl) (by kernel_rfl) (fun _ _ _ h => h) (Or.inl ⟨by rfl, ?hy46⟩) bxd ?_
    case hy46 =>
      intro wX hSw
      have c1 := hSw.2 1 _ rfl
      have c4 := hSw.2 4 _ rfl
      go_simp
      try with_reducible rfl
    try simp only [Act.put, List.setIfInBounds_toArray, List.set_cons_zero, List.set_cons_succ]
    refine yready_1 (by kernel_rfl) ?_
    intro KQ hK
    rw [if_pos (by rfl)]
    try go_simp
    refine (num9_any _ _).mono ?_
    rintro e w' ⟨rfl, rfl⟩
    refine hK.out _ _ bxd (fun _ => ?_)
    clear hK KQ
    try simp only [Act.put, List.setIfInBounds_toArray, List.set_cons_zero, List.set_cons_succ]
    refine yready_7 (by kernel_rfl) ?_
    intro KQ hK
    rw [if_pos (by rfl)]
    try go_simp
    have hgd : GivB w4.drew F a.AB nB a.cB a.bs := ⟨HGV.out.hz, HGV.out.rd, HGV.out.byt, HGV.out.hc, HGV.out.hm, HGV.out.few, HGV.out.far⟩
    refine (rappend_is gr a.A a.AB nB a.cB a.bs _ hpd.rf (by omega) hgd).mono ?_
    rintro e w5 ⟨rfl, hr5⟩
    obtain ⟨G5, F5, hp5, hb5⟩ := hpd.page hr5
    have bx5 := hr5.box bxd HNF.out
    refine hK.out _ _ bx5 (fun _ => ?_)
    clear hK KQ
    try simp only [Act.put, List.setIfInBounds_toArray, List.set_cons_zero, List.set_cons_succ]
    refine ytake_8 (v := ?vv47) (by kernel_rfl) (by kernel_rfl) (by kernel_rfl) (fun _ _ _ h => h) (Or.inl ⟨by rfl, ?hy47⟩) bx5 ?_
    case hy47 =>
      intro wX hSw
      go_simp
      try with_reducible rfl
    try simp only [Act.put, List.setIfInBounds_toArray, List.set_cons_zero, List.set_cons_succ]
    refine ytake_9 (v := ?vv48) (by kernel_rfl) (by kernel_rfl) (by kernel_rfl) (fun _ _ _ h => h) (Or.inl ⟨by rfl, ?hy48⟩) bx5 ?_
    case hy48 =>
      intro wX hSw
      go_simp
      try with_reducible rfl
    try simp only [Act.put, List.setIfInBounds_toArray, List.set_cons_zero, List.set_cons_succ]
    refine wpAnyH_done (by kernel_rfl) ?_ _
    have HP5 := Lib.hid hp5
    have HB5 : Hid (Below B w w5) := HB1.out.trans (HB14.out.trans (((Below.refl _ _).drew.mono HP4.out.size).trans hb5))
    clear hpd bxd bx4 bx5 hp5 hb5 hr5
    go_wp2_with fail
    go_ret
    exact ⟨rfl, _, ⟨G5, F5, HP5.out⟩, HB5.out, append_calls _ _ _⟩
  · go_enter Try.func16, Try.ntmps16
    go_upto_region 1 with fail
    rw [← HW.out]
    go_wp2_with fail
    refine (HWI.out _).mono ?_
    rintro e w' ⟨rfl, rfl⟩
    clear c0
    go_wp2_with fail
    have hpd := hp1.below (w' := w1.drew) (Below.refl _ _).drew
    have bxd : Box w1.drew w.heap.size [.int .i64 a.Do, .string a.A, .string a.B, .int .i64 a.N, .slice a.AB nB a.cB, .slice a.AK nK a.cK] := BX1.out.below (Below.refl _ _).drew BX1.out.1
    refine wp_region_held_drew (S := fun w' => Box w' w.heap.size [.int .i64 a.Do, .string a.A, .string a.B, .int .i64 a.N, .slice a.AB nB a.cB, .slice a.AK nK a.cK]) (by kernel_rfl) bxd (fun _ => ?_)
    refine ytake_0 (v := ?vv1) (by kernel_rfl) (by kernel_rfl) (by kernel_rfl) (fun _ _ _ h => h) (Or.inl ⟨by rfl, ?hy1⟩) bxd ?_
    case hy1 =>
      intro wX hSw
      have c1 := hSw.2 1 _ rfl
      have c3 := hSw.2 3 _ rfl
      go_simp
      try with_reducible rfl
    try simp only [Act.put, List.setIfInBounds_toArray, List.set_cons_zero, List.set_cons_succ]
    refine ytake_1 (v := ?vv2) (by kernel_rfl) (by kernel_rfl) (by kernel_rfl) (fun _ _ _ h => h) (Or.inl ⟨by rfl, ?hy2⟩) bxd ?_
    case hy2 =>
      intro wX hSw
      have c1 := hSw.2 1 _ rfl
      have c3 := hSw.2 3 _ rfl
      go_simp
      try with_reducible rfl
    try simp only [Act.put, List.setIfInBounds_toArray, List.set_cons_zero, List.set_cons_succ]
    refine ytake_2 (v := ?vv3) (by kernel_rfl) (by kernel_rfl) (by kernel_rfl) (fun _ _ _ h => h) (Or.inl ⟨by rfl, ?hy3⟩) bxd ?_
    case hy3 =>
      intro wX hSw
      have c1 := hSw.2 1 _ rfl
      have c3 := hSw.2 3 _ rfl
      go_simp
      try with_reducible rfl
    try simp only [Act.put, List.setIfInBounds_toArray, List.set_cons_zero, List.set_cons_succ]
    refine ytake_3 (v := ?vv4) (by kernel_rfl) (by kernel_rfl) (by kernel_rfl) (fun _ _ _ h => h) (Or.inl ⟨by rfl, ?hy4⟩) bxd ?_
    case hy4 =>
      intro wX hSw
      have c1 := hSw.2 1 _ rfl
      have c3 := hSw.2 3 _ rfl
      go_simp
      try with_reducible rfl
    try simp only [Act.put, List.setIfInBounds_toArray, List.set_cons_zero, List.set_cons_succ]
    refine ytake_4 (v := ?vv5) (by kernel_rfl) (by kernel_rfl) (by kernel_rfl) (fun _ _ _ h => h) (Or.inl ⟨by rfl, ?hy5⟩) bxd ?_
    case hy5 =>
      intro wX hSw
      have c1 := hSw.2 1 _ rfl
      have c3 := hSw.2 3 _ rfl
      go_simp
      try with_reducible rfl
    try simp only [Act.put, List.setIfInBounds_toArray, List.set_cons_zero, List.set_cons_succ]
    refine ytake_7 (v := ?vv6) (by kernel_rfl) (by kernel_rfl) (by kernel_rfl) (fun _ _ _ h => h) (Or.inl ⟨by rfl, ?hy6⟩) bxd ?_
    case hy6 =>
      intro wX hSw
      have c1 := hSw.2 1 _ rfl
      have c3 := hSw.2 3 _ rfl
      go_simp
      try with_reducible rfl
    try simp only [Act.put, List.setIfInBounds_toArray, List.set_cons_zero, List.set_cons_succ]
    refine ytake_8 (v := ?vv7) (by kernel_rfl) (by kernel_rfl) (by kernel_rfl) (fun _ _ _ h => h) (Or.inl ⟨by rfl, ?hy7⟩) bxd ?_
    case hy7 =>
      intro wX hSw
      have c1 := hSw.2 1 _ rfl
      have c3 := hSw.2 3 _ rfl
      go_simp
      try with_reducible rfl
    try simp only [Act.put, List.setIfInBounds_toArray, List.set_cons_zero, List.set_cons_succ]
    refine ytake_9 (v := ?vv8) (by kernel_rfl) (by kernel_rfl) (by kernel_rfl) (fun _ _ _ h => h) (Or.inl ⟨by rfl, ?hy8⟩) bxd ?_
    case hy8 =>
      intro wX hSw
      have c1 := hSw.2 1 _ rfl
      have c3 := hSw.2 3 _ rfl
      go_simp
      try with_reducible rfl
    try simp only [Act.put, List.setIfInBounds_toArray, List.set_cons_zero, List.set_cons_succ]
    refine ytake_10 (v := ?vv9) (by kernel_rfl) (by kernel_rfl) (by kernel_rfl) (fun _ _ _ h => h) (Or.inl ⟨by rfl, ?hy9⟩) bxd ?_
    case hy9 =>
      intro wX hSw
      have c1 := hSw.2 1 _ rfl
      have c3 := hSw.2 3 _ rfl
      go_simp
      try with_reducible rfl
    try simp only [Act.put, List.setIfInBounds_toArray, List.set_cons_zero, List.set_cons_succ]
    refine ytake_11 (v := ?vv10) (by kernel_rfl) (by kernel_rfl) (by kernel_rfl) (fun _ _ _ h => h) (Or.inl ⟨by rfl, ?hy10⟩) bxd ?_
    case hy10 =>
      intro wX hSw
      have c1 := hSw.2 1 _ rfl
      have c3 := hSw.2 3 _ rfl
      go_simp
      try with_reducible rfl
    try simp only [Act.put, List.setIfInBounds_toArray, List.set_cons_zero, List.set_cons_succ]
    refine yready_5 (by kernel_rfl) ?_
    intro KQ hK
    rw [if_pos (by rfl)]
    try go_simp
    refine (hd_cut hpd.hd a.A a.N (name_max hi.sA) (by omega)).mono ?_
    rintro e w3 ⟨rfl, hk3⟩
    obtain ⟨hp3, hb3⟩ := hpd.land hk3
    have bx3 := box_touch bxd hk3.2 (fun h => h HG1.out)
    refine hK.out _ _ bx3 (fun _ => ?_)
    clear hK KQ
    try simp only [Act.put, List.setIfInBounds_toArray, List.set_cons_zero, List.set_cons_succ]
    refine yready_6 (by kernel_rfl) ?_
    intro KQ hK
    rw [if_pos (by rfl)]
    try go_simp
    refine (num9_any _ _).mono ?_
    rintro e w' ⟨rfl, rfl⟩
    refine hK.out _ _ bx3 (fun _ => ?_)
    clear hK KQ
    try simp only [Act.put, List.setIfInBounds_toArray, List.set_cons_zero, List.set_cons_succ]
    refine yready_12 (by kernel_rfl) ?_
    intro KQ hK
    rw [if_pos (by rfl)]
    try go_simp
    refine (rcut_is gr a.A a.N _ hp3.rf (by omega)).mono ?_
    rintro e w5 ⟨rfl, hr5⟩
    obtain ⟨G5, F5, hp5, hb5⟩ := hp3.page hr5
    have bx5 := hr5.box bx3 HNF.out
    refine hK.out _ _ bx5 (fun _ => ?_)
    clear hK KQ
    try simp only [Act.put, List.setIfInBounds_toArray, List.set_cons_zero, List.set_cons_succ]
    refine ytake_13 (v := ?vv11) (by kernel_rfl) (by kernel_rfl) (by kernel_rfl) (fun _ _ _ h => h) (Or.inl ⟨by rfl, ?hy11⟩) bx5 ?_
    case hy11 =>
      intro wX hSw
      go_simp
      try with_reducible rfl
    try simp only [Act.put, List.setIfInBounds_toArray, List.set_cons_zero, List.set_cons_succ]
    refine ytake_14 (v := ?vv12) (by kernel_rfl) (by kernel_rfl) (by kernel_rfl) (fun _ _ _ h => h) (Or.inl ⟨by rfl, ?hy12⟩) bx5 ?_
    case hy12 =>
      intro wX hSw
      go_simp
      try with_reducible rfl
    try simp only [Act.put, List.setIfInBounds_toArray, List.set_cons_zero, List.set_cons_succ]
    refine wpAnyH_done (by kernel_rfl) ?_ _
    have HP5 := Lib.hid hp5
    have HB5 : Hid (Below B w w5) := HB1.out.trans (((Below.refl _ _).drew.mono (hp1.size)).trans (hb3.trans hb5))
    clear hpd bxd bx3 bx5 hp3 hp5 hb3 hb5 hr5 hk3
    go_wp2_with fail
    go_ret
    exact ⟨rfl, _, ⟨G5, F5, HP5.out⟩, HB5.out, cut_calls _ _ _⟩
  · go_enter Try.func16, Try.ntmps16
    go_upto_region 1 with fail
    rw [← HW.out]
    go_wp2_with fail
    refine (HWI.out _).mono ?_
    rintro e w' ⟨rfl, rfl⟩
    clear c0
    go_wp2_with fail
    have hpd := hp1.below (w' := w1.drew) (Below.refl _ _).drew
    have bxd : Box w1.drew w.heap.size [.int .i64 a.Do, .string a.A, .string a.B, .int .i64 a.N, .slice a.AB nB a.cB, .slice a.AK nK a.cK] := BX1.out.below (Below.refl _ _).drew BX1.out.1
    refine wp_region_held_drew (S := fun w' => Box w' w.heap.size [.int .i64 a.Do, .string a.A, .string a.B, .int .i64 a.N, .slice a.AB nB a.cB, .slice a.AK nK a.cK]) (by kernel_rfl) bxd (fun _ => ?_)
    refine ytake_0 (v := ?vv13) (by kernel_rfl) (by kernel_rfl) (by kernel_rfl) (fun _ _ _ h => h) (Or.inl ⟨by rfl, ?hy13⟩) bxd ?_
    case hy13 =>
      intro wX hSw
      have c1 := hSw.2 1 _ rfl
      go_simp
      try with_reducible rfl
    try simp only [Act.put, List.setIfInBounds_toArray, List.set_cons_zero, List.set_cons_succ]
    refine ytake_1 (v := ?vv14) (by kernel_rfl) (by kernel_rfl) (by kernel_rfl) (fun _ _ _ h => h) (Or.inl ⟨by rfl, ?hy14⟩) bxd ?_
    case hy14 =>
      intro wX hSw
      have c1 := hSw.2 1 _ rfl
      go_simp
      try with_reducible rfl
    try simp only [Act.put, List.setIfInBounds_toArray, List.set_cons_zero, List.set_cons_succ]
    refine ytake_2 (v := ?vv15) (by kernel_rfl) (by kernel_rfl) (by kernel_rfl) (fun _ _ _ h => h) (Or.inl ⟨by rfl, ?hy15⟩) bxd ?_
    case hy15 =>
      intro wX hSw
      have c1 := hSw.2 1 _ rfl
      go_simp
      try with_reducible rfl
    try simp only [Act.put, List.setIfInBounds_toArray, List.set_cons_zero, List.set_cons_succ]
    refine ytake_5 (v := ?vv16) (by kernel_rfl) (by kernel_rfl) (by kernel_rfl) (fun _ _ _ h => h) (Or.inl ⟨by rfl, ?hy16⟩) bxd ?_
    case hy16 =>
      intro wX hSw
      have c1 := hSw.2 1 _ rfl
      go_simp
      try with_reducible rfl
    try simp only [Act.put, List.setIfInBounds_toArray, List.set_cons_zero, List.set_cons_succ]
    refine ytake_6 (v := ?vv17) (by kernel_rfl) (by kernel_rfl) (by kernel_rfl) (fun _ _ _ h => h) (Or.inl ⟨by rfl, ?hy17⟩) bxd ?_
    case hy17 =>
      intro wX hSw
      have c1 := hSw.2 1 _ rfl
      go_simp
      try with_reducible rfl
    try simp only [Act.put, List.setIfInBounds_toArray, List.set_cons_zero, List.set_cons_succ]
    refine ytake_7 (v := ?vv18) (by kernel_rfl) (by kernel_rfl) (by kernel_rfl) (fun _ _ _ h => h) (Or.inl ⟨by rfl, ?hy18⟩) bxd ?_
    case hy18 =>
      intro wX hSw
      have c1 := hSw.2 1 _ rfl
      go_simp
      try with_reducible rfl
    try simp only [Act.put, List.setIfInBounds_toArray, List.set_cons_zero, List.set_cons_succ]
    refine yready_3 (by kernel_rfl) ?_
    intro KQ hK
    rw [if_pos (by rfl)]
    try go_simp
    refine (hd_sync hpd.hd a.A (name_max hi.sA) (by omega)).mono ?_
    rintro e w3 ⟨rfl, hk3⟩
    obtain ⟨hp3, hb3⟩ := hpd.land hk3
    have bx3 := box_touch bxd hk3.2 (fun h => h HG1.out)
    refine hK.out _ _ bx3 (fun _ => ?_)
    clear hK KQ
    try simp only [Act.put, List.setIfInBounds_toArray, List.set_cons_zero, List.set_cons_succ]
    refine yready_4 (by kernel_rfl) ?_
    intro KQ hK
    rw [if_pos (by rfl)]
    try go_simp
    refine (num9_any _ _).mono ?_
    rintro e w' ⟨rfl, rfl⟩
    refine hK.out _ _ bx3 (fun _ => ?_)
    clear hK KQ
    try simp only [Act.put, List.setIfInBounds_toArray, List.set_cons_zero, List.set_cons_succ]
    refine yready_8 (by kernel_rfl) ?_
    intro KQ hK
    rw [if_pos (by rfl)]
    try go_simp
    refine (rsync_is gr a.A _ hp3.rf (by omega)).mono ?_
    rintro e w5 ⟨rfl, hr5⟩
    obtain ⟨G5, F5, hp5, hb5⟩ := hp3.page hr5
    have bx5 := hr5.box bx3 HNF.out
    refine hK.out _ _ bx5 (fun _ => ?_)
    clear hK KQ
    try simp only [Act.put, List.setIfInBounds_toArray, List.set_cons_zero, List.set_cons_succ]
    refine ytake_9 (v := ?vv19) (by kernel_rfl) (by kernel_rfl) (by kernel_rfl) (fun _ _ _ h => h) (Or.inl ⟨by rfl, ?hy19⟩) bx5 ?_
    case hy19 =>
      intro wX hSw
      go_simp
      try with_reducible rfl
    try simp only [Act.put, List.setIfInBounds_toArray, List.set_cons_zero, List.set_cons_succ]
    refine ytake_10 (v := ?vv20) (by kernel_rfl) (by kernel_rfl) (by kernel_rfl) (fun _ _ _ h => h) (Or.inl ⟨by rfl, ?hy20⟩) bx5 ?_
    case hy20 =>
      intro wX hSw
      go_simp
      try with_reducible rfl
    try simp only [Act.put, List.setIfInBounds_toArray, List.set_cons_zero, List.set_cons_succ]
    refine wpAnyH_done (by kernel_rfl) ?_ _
    have HP5 := Lib.hid hp5
    have HB5 : Hid (Below B w w5) := HB1.out.trans (((Below.refl _ _).drew.mono (hp1.size)).trans (hb3.trans hb5))
    clear hpd bxd bx3 bx5 hp3 hp5 hb3 hb5 hr5 hk3
    go_wp2_with fail
    go_ret
    exact ⟨rfl, _, ⟨G5, F5, HP5.out⟩, HB5.out, sync_calls _ _⟩
  · go_enter Try.func16, Try.ntmps16
    go_upto_region 1 with fail
    rw [← HW.out]
    go_wp2_with fail
    refine (HWI.out _).mono ?_
    rintro e w' ⟨rfl, rfl⟩
    clear c0
    go_wp2_with fail
    have hpd := hp1.below (w' := w1.drew) (Below.refl _ _).drew
    have bxd : Box w1.drew w.heap.size [.int .i64 a.Do, .string a.A, .string a.B, .int .i64 a.N, .slice a.AB nB a.cB, .slice a.AK nK a.cK] := BX1.out.below (Below.refl _ _).drew BX1.out.1
    refine wp_region_held_drew (S := fun w' => Box w' w.heap.size [.int .i64 a.Do, .string a.A, .string a.B, .int .i64 a.N, .slice a.AB nB a.cB, .slice a.AK nK a.cK]) (by kernel_rfl) bxd (fun _ => ?_)
    refine ytake_0 (v := ?vv21) (by kernel_rfl) (by kernel_rfl) (by kernel_rfl) (fun _ _ _ h => h) (Or.inl ⟨by rfl, ?hy21⟩) bxd ?_
    case hy21 =>
      intro wX hSw
      have c1 := hSw.2 1 _ rfl
      have c2 := hSw.2 2 _ rfl
      go_simp
      try with_reducible rfl
    try simp only [Act.put, List.setIfInBounds_toArray, List.set_cons_zero, List.set_cons_succ]
    refine ytake_1 (v := ?vv22) (by kernel_rfl) (by kernel_rfl) (by kernel_rfl) (fun _ _ _ h => h) (Or.inl ⟨by rfl, ?hy22⟩) bxd ?_
    case hy22 =>
      intro wX hSw
      have c1 := hSw.2 1 _ rfl
      have c2 := hSw.2 2 _ rfl
      go_simp
      try with_reducible rfl
    try simp only [Act.put, List.setIfInBounds_toArray, List.set_cons_zero, List.set_cons_succ]
    refine ytake_2 (v := ?vv23) (by kernel_rfl) (by kernel_rfl) (by kernel_rfl) (fun _ _ _ h => h) (Or.inl ⟨by rfl, ?hy23⟩) bxd ?_
    case hy23 =>
      intro wX hSw
      have c1 := hSw.2 1 _ rfl
      have c2 := hSw.2 2 _ rfl
      go_simp
      try with_reducible rfl
    try simp only [Act.put, List.setIfInBounds_toArray, List.set_cons_zero, List.set_cons_succ]
    refine ytake_3 (v := ?vv24) (by kernel_rfl) (by kernel_rfl) (by kernel_rfl) (fun _ _ _ h => h) (Or.inl ⟨by rfl, ?hy24⟩) bxd ?_
    case hy24 =>
      intro wX hSw
      have c1 := hSw.2 1 _ rfl
      have c2 := hSw.2 2 _ rfl
      go_simp
      try with_reducible rfl
    try simp only [Act.put, List.setIfInBounds_toArray, List.set_cons_zero, List.set_cons_succ]
    refine ytake_4 (v := ?vv25) (by kernel_rfl) (by kernel_rfl) (by kernel_rfl) (fun _ _ _ h => h) (Or.inl ⟨by rfl, ?hy25⟩) bxd ?_
    case hy25 =>
      intro wX hSw
      have c1 := hSw.2 1 _ rfl
      have c2 := hSw.2 2 _ rfl
      go_simp
      try with_reducible rfl
    try simp only [Act.put, List.setIfInBounds_toArray, List.set_cons_zero, List.set_cons_succ]
    refine ytake_7 (v := ?vv26) (by kernel_rfl) (by kernel_rfl) (by kernel_rfl) (fun _ _ _ h => h) (Or.inl ⟨by rfl, ?hy26⟩) bxd ?_
    case hy26 =>
      intro wX hSw
      have c1 := hSw.2 1 _ rfl
      have c2 := hSw.2 2 _ rfl
      go_simp
      try with_reducible rfl
    try simp only [Act.put, List.setIfInBounds_toArray, List.set_cons_zero, List.set_cons_succ]
    refine ytake_8 (v := ?vv27) (by kernel_rfl) (by kernel_rfl) (by kernel_rfl) (fun _ _ _ h => h) (Or.inl ⟨by rfl, ?hy27⟩) bxd ?_
    case hy27 =>
      intro wX hSw
      have c1 := hSw.2 1 _ rfl
      have c2 := hSw.2 2 _ rfl
      go_simp
      try with_reducible rfl
    try simp only [Act.put, List.setIfInBounds_toArray, List.set_cons_zero, List.set_cons_succ]
    refine ytake_9 (v := ?vv28) (by kernel_rfl) (by kernel_rfl) (by kernel_rfl) (fun _ _ _ h => h) (Or.inl ⟨by rfl, ?hy28⟩) bxd ?_
    case hy28 =>
      intro wX hSw
      have c1 := hSw.2 1 _ rfl
      have c2 := hSw.2 2 _ rfl
      go_simp
      try with_reducible rfl
    try simp only [Act.put, List.setIfInBounds_toArray, List.set_cons_zero, List.set_cons_succ]
    refine ytake_10 (v := ?vv29) (by kernel_rfl) (by kernel_rfl) (by kernel_rfl) (fun _ _ _ h => h) (Or.inl ⟨by rfl, ?hy29⟩) bxd ?_
    case hy29 =>
      intro wX hSw
      have c1 := hSw.2 1 _ rfl
      have c2 := hSw.2 2 _ rfl
      go_simp
      try with_reducible rfl
    try simp only [Act.put, List.setIfInBounds_toArray, List.set_cons_zero, List.set_cons_succ]
    refine ytake_11 (v := ?vv30) (by kernel_rfl) (by kernel_rfl) (by kernel_rfl) (fun _ _ _ h => h) (Or.inl ⟨by rfl, ?hy30⟩) bxd ?_
    case hy30 =>
      intro wX hSw
      have c1 := hSw.2 1 _ rfl
      have c2 := hSw.2 2 _ rfl
      go_simp
      try with_reducible rfl
    try simp only [Act.put, List.setIfInBounds_toArray, List.set_cons_zero, List.set_cons_succ]
    refine yready_5 (by kernel_rfl) ?_
    intro KQ hK
    rw [if_pos (by rfl)]
    try go_simp
    refine (hd_rename hpd.hd a.A a.B (name_max hi.sA) (name_max hi.sB) (by omega)).mono ?_
    rintro e w3 ⟨rfl, hk3⟩
    obtain ⟨hp3, hb3⟩ := hpd.land hk3
    have bx3 := box_touch bxd hk3.2 (fun h => h HG1.out)
    refine hK.out _ _ bx3 (fun _ => ?_)
    clear hK KQ
    try simp only [Act.put, List.setIfInBounds_toArray, List.set_cons_zero, List.set_cons_succ]
    refine yready_6 (by kernel_rfl) ?_
    intro KQ hK
    rw [if_pos (by rfl)]
    try go_simp
    refine (num9_any _ _).mono ?_
    rintro e w' ⟨rfl, rfl⟩
    refine hK.out _ _ bx3 (fun _ => ?_)
    clear hK KQ
    try simp only [Act.put, List.setIfInBounds_toArray, List.set_cons_zero, List.set_cons_succ]
    refine yready_12 (by kernel_rfl) ?_
    intro KQ hK
    rw [if_pos (by rfl)]
    try go_simp
    refine (rrename_is gr a.A a.B _ hp3.rf (by omega)).mono ?_
    rintro e w5 ⟨rfl, hr5⟩
    obtain ⟨G5, F5, hp5, hb5⟩ := hp3.page hr5
    have bx5 := hr5.box bx3 HNF.out
    refine hK.out _ _ bx5 (fun _ => ?_)
    clear hK KQ
    try simp only [Act.put, List.setIfInBounds_toArray, List.set_cons_zero, List.set_cons_succ]
    refine ytake_13 (v := ?vv31) (by kernel_rfl) (by kernel_rfl) (by kernel_rfl) (fun _ _ _ h => h) (Or.inl ⟨by rfl, ?hy31⟩) bx5 ?_
    case hy31 =>
      intro wX hSw
      go_simp
      try with_reducible rfl
    try simp only [Act.put, List.setIfInBounds_toArray, List.set_cons_zero, List.set_cons_succ]
    refine ytake_14 (v := ?vv32) (by kernel_rfl) (by kernel_rfl) (by kernel_rfl) (fun _ _ _ h => h) (Or.inl ⟨by rfl, ?hy32⟩) bx5 ?_
    case hy32 =>
      intro wX hSw
      go_simp
      try with_reducible rfl
    try simp only [Act.put, List.setIfInBounds_toArray, List.set_cons_zero, List.set_cons_succ]
    refine wpAnyH_done (by kernel_rfl) ?_ _
    have HP5 := Lib.hid hp5
    have HB5 : Hid (Below B w w5) := HB1.out.trans (((Below.refl _ _).drew.mono (hp1.size)).trans (hb3.trans hb5))
    clear hpd bxd bx3 bx5 hp3 hp5 hb3 hb5 hr5 hk3
    go_wp2_with fail
    go_ret
    exact ⟨rfl, _, ⟨G5, F5, HP5.out⟩, HB5.out, rename_calls _ _ _⟩
  · go_enter Try.func16, Try.ntmps16
    go_upto_region 1 with fail
    rw [← HW.out]
    go_wp2_with fail
    refine (HWI.out _).mono ?_
    rintro e w' ⟨rfl, rfl⟩
    clear c0
    go_wp2_with fail
    have hpd := hp1.below (w' := w1.drew) (Below.refl _ _).drew
    have bxd : Box w1.drew w.heap.size [.int .i64 a.Do, .string a.A, .string a.B, .int .i64 a.N, .slice a.AB nB a.cB, .slice a.AK nK a.cK] := BX1.out.below (Below.refl _ _).drew BX1.out.1
    refine wp_region_held_drew (S := fun w' => Box w' w.heap.size [.int .i64 a.Do, .string a.A, .string a.B, .int .i64 a.N, .slice a.AB nB a.cB, .slice a.AK nK a.cK]) (by kernel_rfl) bxd (fun _ => ?_)
    refine ytake_0 (v := ?vv33) (by kernel_rfl) (by kernel_rfl) (by kernel_rfl) (fun _ _ _ h => h) (Or.inl ⟨by rfl, ?hy33⟩) bxd ?_
    case hy33 =>
      intro wX hSw
      have c1 := hSw.2 1 _ rfl
      go_simp
      try with_reducible rfl
    try simp only [Act.put, List.setIfInBounds_toArray, List.set_cons_zero, List.set_cons_succ]
    refine ytake_1 (v := ?vv34) (by kernel_rfl) (by kernel_rfl) (by kernel_rfl) (fun _ _ _ h => h) (Or.inl ⟨by rfl, ?hy34⟩) bxd ?_
    case hy34 =>
      intro wX hSw
      have c1 := hSw.2 1 _ rfl
      go_simp
      try with_reducible rfl
    try simp only [Act.put, List.setIfInBounds_toArray, List.set_cons_zero, List.set_cons_succ]
    refine ytake_2 (v := ?vv35) (by kernel_rfl) (by kernel_rfl) (by kernel_rfl) (fun _ _ _ h => h) (Or.inl ⟨by rfl, ?hy35⟩) bxd ?_
    case hy35 =>
      intro wX hSw
      have c1 := hSw.2 1 _ rfl
      go_simp
      try with_reducible rfl
    try simp only [Act.put, List.setIfInBounds_toArray, List.set_cons_zero, List.set_cons_succ]
    refine ytake_5 (v := ?vv36) (by kernel_rfl) (by kernel_rfl) (by kernel_rfl) (fun _ _ _ h => h) (Or.inl ⟨by rfl, ?hy36⟩) bxd ?_
    case hy36 =>
      intro wX hSw
      have c1 := hSw.2 1 _ rfl
      go_simp
      try with_reducible rfl
    try simp only [Act.put, List.setIfInBounds_toArray, List.set_cons_zero, List.set_cons_succ]
    refine ytake_6 (v := ?vv37) (by kernel_rfl) (by kernel_rfl) (by kernel_rfl) (fun _ _ _ h => h) (Or.inl ⟨by rfl, ?hy37⟩) bxd ?_
    case hy37 =>
      intro wX hSw
      have c1 := hSw.2 1 _ rfl
      go_simp
      try with_reducible rfl
    try simp only [Act.put, List.setIfInBounds_toArray, List.set_cons_zero, List.set_cons_succ]
    refine ytake_7 (v := ?vv38) (by kernel_rfl) (by kernel_rfl) (by kernel_rfl) (fun _ _ _ h => h) (Or.inl ⟨by rfl, ?hy38⟩) bxd ?_
    case hy38 =>
      intro wX hSw
      have c1 := hSw.2 1 _ rfl
      go_simp
      try with_reducible rfl
    try simp only [Act.put, List.setIfInBounds_toArray, List.set_cons_zero, List.set_cons_succ]
    refine yready_3 (by kernel_rfl) ?_
    intro KQ hK
    rw [if_pos (by rfl)]
    try go_simp
    refine (hd_remove hpd.hd a.A (name_max hi.sA) (by omega)).mono ?_
    rintro e w3 ⟨rfl, hk3⟩
    obtain ⟨hp3, hb3⟩ := hpd.land hk3
    have bx3 := box_touch bxd hk3.2 (fun h => h HG1.out)
    refine hK.out _ _ bx3 (fun _ => ?_)
    clear hK KQ
    try simp only [Act.put, List.setIfInBounds_toArray, List.set_cons_zero, List.set_cons_succ]
    refine yready_4 (by kernel_rfl) ?_
    intro KQ hK
    rw [if_pos (by rfl)]
    try go_simp
    refine (num9_any _ _).mono ?_
    rintro e w' ⟨rfl, rfl⟩
    refine hK.out _ _ bx3 (fun _ => ?_)
    clear hK KQ
    try simp only [Act.put, List.setIfInBounds_toArray, List.set_cons_zero, List.set_cons_succ]
    refine yready_8 (by kernel_rfl) ?_
    intro KQ hK
    rw [if_pos (by rfl)]
    try go_simp
    refine (rremove_is gr a.A _ hp3.rf (by omega)).mono ?_
    rintro e w5 ⟨rfl, hr5⟩
    obtain ⟨G5, F5, hp5, hb5⟩ := hp3.page hr5
    have bx5 := hr5.box bx3 HNF.out
    refine hK.out _ _ bx5 (fun _ => ?_)
    clear hK KQ
    try simp only [Act.put, List.setIfInBounds_toArray, List.set_cons_zero, List.set_cons_succ]
    refine ytake_9 (v := ?vv39) (by kernel_rfl) (by kernel_rfl) (by kernel_rfl) (fun _ _ _ h => h) (Or.inl ⟨by rfl, ?hy39⟩) bx5 ?_
    case hy39 =>
      intro wX hSw
      go_simp
      try with_reducible rfl
    try simp only [Act.put, List.setIfInBounds_toArray, List.set_cons_zero, List.set_cons_succ]
    refine ytake_10 (v := ?vv40) (by kernel_rfl) (by kernel_rfl) (by kernel_rfl) (fun _ _ _ h => h) (Or.inl ⟨by rfl, ?hy40⟩) bx5 ?_
    case hy40 =>
      intro wX hSw
      go_simp
      try with_reducible rfl
    try simp only [Act.put, List.setIfInBounds_toArray, List.set_cons_zero, List.set_cons_succ]
    refine wpAnyH_done (by kernel_rfl) ?_ _
    have HP5 := Lib.hid hp5
    have HB5 : Hid (Below B w w5) := HB1.out.trans (((Below.refl _ _).drew.mono (hp1.size)).trans (hb3.trans hb5))
    clear hpd bxd bx3 bx5 hp3 hp5 hb3 hb5 hr5 hk3
    go_wp2_with fail
    go_ret
    exact ⟨rfl, _, ⟨G5, F5, HP5.out⟩, HB5.out, remove_calls _ _⟩
  · go_enter Try.func16, Try.ntmps16
    go_upto_region 1 with fail
    rw [← HW.out]
    go_wp2_with fail
    refine (HWI.out _).mono ?_
    rintro e w' ⟨rfl, rfl⟩
    clear c0
    have c1 := BX1.out.2 1 _ rfl
    obtain ⟨bs, hbs⟩ : ∃ bs, (dRead D a.A).1 = bs := ⟨_, rfl⟩
    obtain ⟨er, her⟩ : ∃ er, (dRead D a.A).2 = er := ⟨_, rfl⟩
    have hfew : bs.length ≤ 1048576 := by rw [← hbs]; exact read_few hp1.hd.good a.A
    obtain ⟨nb, hnb⟩ : ∃ nb, bs.length = nb := ⟨_, rfl⟩
    rw [hnb] at hfew
    have hL := hd_read hp1.hd a.A (name_max hi.sA)
    rw [hbs, her] at hL
    have HL := Lib.hid hL
    clear hL
    go_wp2_with fail
    refine HL.out.mono ?_
    rintro e w2 ⟨v2, rfl, ho2, hb2⟩
    have ho2b := own_cast ho2 ((u8s_length _).trans hnb)
    obtain ⟨A2, c2, rfl, hc2, hm2, hr2, _, _⟩ := own_val ho2b
    have hp2 := hp1.below hb2
    have bx2 := BX1.out.below hb2 BX1.out.1
    have hR := rread_is gr a.A w2 hp2.rf
    rw [hbs, her] at hR
    have HR := Lib.hid hR
    clear hR c1
    have c1 := bx2.2 1 _ rfl
    go_wp2_with fail
    refine HR.out.mono ?_
    rintro e w3 ⟨v3, rfl, ho3, hb3⟩
    have ho3b := own_cast ho3 ((u8s_length _).trans hnb)
    obtain ⟨A3, c3, rfl, hc3, hm3, hr3, _, _⟩ := own_val ho3b
    clear c1
    go_wp2_with fail
    refine (num9_any _ _).mono ?_
    rintro e w' ⟨rfl, rfl⟩
    go_wp2_with fail
    refine (eqBytes_same A2 A3 c2 c3 nb bs _ hnb (hr2.below hb3) hr3 (by omega)).mono ?_
    rintro e w4 ⟨rfl, d, hw4⟩
    have hb4 : Below w3.heap.size w3 w4 := by rw [hw4]; exact below_n (Below.refl _ _) d
    have z2 := hb2.size
    have z3 := hb3.size
    have z4 := hb4.size
    have hb24 : Below w2.heap.size w2 w4 := hb3.trans (hb4.mono z3)
    have ho4 := own_below ho2b hb24
    clear hw4
    go_wp2_with fail
    refine (spoilBytes_any w1.heap.size _ nb bs _ ho4 (by omega) (by omega)).mono ?_
    rintro e w5 ⟨rfl, hb5⟩
    have hb15 : Below w1.heap.size w1 w5 := hb2.trans ((hb24.mono z2).trans hb5)
    have HP5 := Lib.hid (hp1.below hb15)
    have HB5 : Hid (Below B w w5) := HB1.out.trans (hb15.mono hp1.size)
    clear ho2 ho2b hr2 hp2 bx2 ho3 ho3b hr3 hb2 hb3 hb4 hb24 ho4 hb5 hb15
    go_wp2_with fail
    go_ret
    exact ⟨rfl, D, ⟨_, _, HP5.out⟩, HB5.out, by omega⟩
  · go_enter Try.func16, Try.ntmps16
    go_upto_region 1 with fail
    rw [← HW.out]
    go_wp2_with fail
    refine (HWI.out _).mono ?_
    rintro e w' ⟨rfl, rfl⟩
    clear c0
    obtain ⟨bs, hbs⟩ : ∃ bs, (dList D).1 = bs := ⟨_, rfl⟩
    obtain ⟨er, her⟩ : ∃ er, (dList D).2 = er := ⟨_, rfl⟩
    have hfew : bs.length ≤ 16 := by rw [← hbs]; exact list_few hp1.hd.good
    obtain ⟨nb, hnb⟩ : ∃ nb, bs.length = nb := ⟨_, rfl⟩
    rw [hnb] at hfew
    have hL := hd_list hp1.hd
    rw [hbs, her] at hL
    have HL := Lib.hid hL
    clear hL
    go_wp2_with fail
    refine HL.out.mono ?_
    rintro e w2 ⟨v2, rfl, ho2, hb2⟩
    have ho2b := own_cast ho2 ((strs_length _).trans hnb)
    obtain ⟨A2, c2, rfl, hc2, hm2, hr2, _, _⟩ := own_val ho2b
    have hp2 := hp1.below hb2
    have bx2 := BX1.out.below hb2 BX1.out.1
    have hR := rlist_is gr w2 hp2.rf
    rw [hbs, her] at hR
    have HR := Lib.hid hR
    clear hR
    go_wp2_with fail
    refine HR.out.mono ?_
    rintro e w3 ⟨v3, rfl, ho3, hb3⟩
    have ho3b := own_cast ho3 ((strs_length _).trans hnb)
    obtain ⟨A3, c3, rfl, hc3, hm3, hr3, _, _⟩ := own_val ho3b
    go_wp2_with fail
    refine (num9_any _ _).mono ?_
    rintro e w' ⟨rfl, rfl⟩
    go_wp2_with fail
    refine (eqStrings_same A2 A3 c2 c3 nb bs _ hnb (hr2.below hb3) hr3 (by omega)).mono ?_
    rintro e w4 ⟨rfl, d, hw4⟩
    have hb4 : Below w3.heap.size w3 w4 := by rw [hw4]; exact below_n (Below.refl _ _) d
    have z2 := hb2.size
    have z3 := hb3.size
    have z4 := hb4.size
    have hb24 : Below w2.heap.size w2 w4 := hb3.trans (hb4.mono z3)
    have ho4 := own_below ho2b hb24
    clear hw4
    go_wp2_with fail
    refine (spoilStrings_any w1.heap.size _ nb bs _ ho4 (by omega) (by omega)).mono ?_
    rintro e w5 ⟨rfl, hb5⟩
    have hb15 : Below w1.heap.size w1 w5 := hb2.trans ((hb24.mono z2).trans hb5)
    have HP5 := Lib.hid (hp1.below hb15)
    have HB5 : Hid (Below B w w5) := HB1.out.trans (hb15.mono hp1.size)
    clear ho2 ho2b hr2 hp2 bx2 ho3 ho3b hr3 hb2 hb3 hb4 hb24 ho4 hb5 hb15
    go_wp2_with fail
    go_ret
    exact ⟨rfl, D, ⟨_, _, HP5.out⟩, HB5.out, by omega⟩
  · go_enter Try.func16, Try.ntmps16
    go_upto_region 1 with fail
    rw [← HW.out]
    go_wp2_with fail
    refine (HWI.out _).mono ?_
    rintro e w' ⟨rfl, rfl⟩
    clear c0
    have c5 := BX1.out.2 5 _ rfl
    obtain ⟨fs, hfs⟩ : ∃ fs, dCrash D a.ps = fs := ⟨_, rfl⟩
    have hmf := may_few (crash_may hp1.hd.good a.ps)
    rw [hfs] at hmf
    have HMF := Lib.hid hmf
    have hL := hd_crash hp1.hd a.AK nK a.cK a.ps HZK.out HRK1.out hkK hi.xK hi.yK
    rw [hfs] at hL
    have HL := Lib.hid hL
    clear hL hmf
    go_wp2_with fail
    refine HL.out.mono ?_
    rintro e w2 ⟨v2, l2, rfl, hm2, ho2, hb2⟩
    obtain ⟨n2, hn2⟩ : ∃ n2, l2.length = n2 := ⟨_, rfl⟩
    have hrow2 := ho2.row
    rw [hn2] at hrow2
    obtain ⟨A2, c2, rfl, _, _, hr2, _⟩ := ownS_slice hrow2
    have hp2 := hp1.below hb2
    have bx2 := BX1.out.below hb2 BX1.out.1
    have hR := rcrash_is gr a.AK nK a.cK a.ps w2 hp2.rf HZK.out (HRK1.out.below hb2) hkK hi.xK hi.yK
    rw [hfs] at hR
    have HR := Lib.hid hR
    clear hR c5
    have c5 := bx2.2 5 _ rfl
    have h216 : n2 ≤ 16 := by have := HMF.out.1; rw [← hm2, List.length_map, hn2] at this; exact this
    have hsm : ∀ (l : List FL), l.map FL.pl = fs → ∀ f ∈ l, f.dat.length ≤ 1048576 := fun l hl f hf => HMF.out.2 f.pl (by rw [← hl]; exact List.mem_map.2 ⟨f, hf, rfl⟩)
    go_wp2_with fail
    refine HR.out.mono ?_
    rintro e w3 ⟨v3, l3, rfl, hm3, ho3, hb3⟩
    obtain ⟨n3, hn3⟩ : ∃ n3, l3.length = n3 := ⟨_, rfl⟩
    have hrow3 := ho3.row
    rw [hn3] at hrow3
    obtain ⟨A3, c3, rfl, _, _, hr3, _⟩ := ownS_slice hrow3
    have h316 : n3 ≤ 16 := by have := HMF.out.1; rw [← hm3, List.length_map, hn3] at this; exact this
    have ho23 := ho2.below hb3
    have hcmp := eqFiles_any A2 A3 c2 c3 n2 n3 l2 l3 w3 hn2 hn3 (hr2.below hb3) hr3 (fun f hf => ⟨ho23.fin hf, by have := hsm l2 hm2 f hf; omega⟩) (fun f hf => ⟨ho3.fin hf, by have := hsm l3 hm3 f hf; omega⟩) (by omega) (by omega)
    rw [hm2, hm3, decide_eq_true rfl] at hcmp
    have HCMP := Lib.hid hcmp
    clear hcmp c5
    go_wp2_with fail
    refine HCMP.out.mono ?_
    rintro e w4 ⟨rfl, hb4⟩
    have z2 := hb2.size
    have z3 := hb3.size
    have z4 := hb4.size
    have hb24 : Below w2.heap.size w2 w4 := hb3.trans (hb4.mono z3)
    have ho4 := ho2.below hb24
    go_wp2_with fail
    refine (spoilFiles_any w1.heap.size _ l2 _ (fun k => w1.heap.size ≤ k) ho4 (by omega) (fun f hf => by have := hsm l2 hm2 f hf; omega) (fun k hk => by
      rcases hk with hk | ⟨f, hf, hk⟩
      · exact (own_lt ho4.row hk).2
      · exact (own_lt (ho4.els f hf).1 hk).2)).mono ?_
    rintro e w5 ⟨rfl, ht5⟩
    have hb5 : Below w1.heap.size w4 w5 := ht5.below (fun k hk => hk) (by omega)
    have hb15 : Below w1.heap.size w1 w5 := hb2.trans ((hb24.mono z2).trans hb5)
    have HP5 := Lib.hid (hp1.below hb15)
    have HB5 : Hid (Below B w w5) := HB1.out.trans (hb15.mono hp1.size)
    clear ho2 hrow2 hr2 hp2 bx2 ho3 hrow3 hr3 ho23 hb2 hb3 hb4 hb24 ho4 ht5 hb5 hb15 hm2 hm3 hsm
    go_wp2_with fail
    go_ret
    exact ⟨rfl, D, ⟨_, _, HP5.out⟩, HB5.out, by omega⟩
  · go_enter Try.func16, Try.ntmps16
    go_upto_region 1 with fail
    rw [← HW.out]
    go_wp2_with fail
    refine (HWI.out _).mono ?_
    rintro e w' ⟨rfl, rfl⟩
    clear c0
    have c3 := BX1.out.2 3 _ rfl
    by_cases hN : 2 < a.N
    · go_wp2_with fail
      refine (hd_off hp1.hd a.N hi.wN).mono ?_
      rintro e w3 ⟨rfl, hk3⟩
      obtain ⟨hp3, hb3⟩ := hp1.land hk3
      have bx3 := box_touch BX1.out hk3.2 (fun h => h HG1.out)
      clear c3
      have c3 := bx3.2 3 _ rfl
      go_wp2_with fail
      refine (roff_any gr a.N _ hp3.rf ⟨by omega, hi.wN.2⟩).mono ?_
      rintro e w5 ⟨rfl, hr5⟩
      obtain ⟨G5, F5, hp5, hb5⟩ := hp3.page hr5
      have HP5 := Lib.hid hp5
      have HB5 : Hid (Below B w w5) := HB1.out.trans (hb3.trans hb5)
      clear bx3 hp3 hp5 hb3 hb5 hr5 hk3 c3
      go_wp2_with fail
      go_ret
      exact ⟨rfl, _, ⟨G5, F5, HP5.out⟩, HB5.out, off_calls _ _⟩
    · have HP1 := Lib.hid hp1
      go_wp2_with fail
      go_ret
      exact ⟨rfl, D, ⟨_, _, HP1.out⟩, HB1.out, by omega⟩

end Go.Proofs.Ytejfilphnebckaa
/-
  Whatever is done to a disk, each call answers what the page says: the walk.
-/
namespace Go.Proofs.Ytejfilphnebckaa
open Go.RowKit

set_option maxRecDepth 100000 in
set_option maxHeartbeats 8000000 in
theorem diskExact_is (s : Scr9) (w : World) (h : ScrIn w s) : Calls Try.prog 3 #[scrV s] w (Tells w.heap.size w (.bool true)) := by
  obtain ⟨w1, hw1⟩ : ∃ w1, w1 = w.alloc (.cells #[.slice s.AF s.nF s.cF, .slice s.AL s.nL s.cL] 25) := ⟨_, rfl⟩
  have hb1 : Below w.heap.size w w1 := by rw [hw1]; exact (Below.refl _ _).alloc (Nat.le_refl _) _
  have bx1 : Box w1 w.heap.size (scrC s) := by rw [hw1]; exact box_new w (scrC s) 25
  have HW := Lib.hid hw1
  have HX := Lib.hid bx1
  have HI : Hid (∀ wX, Below w1.heap.size w1 wX → ScrIn wX s) := fun wX hX => h.below (hb1.trans (hX.mono hb1.size))
  have HI1 := Lib.hid (h.below hb1)
  obtain ⟨nL, hnL⟩ : ∃ nL, s.nL = nL := ⟨_, rfl⟩
  obtain ⟨nF, hnF⟩ : ∃ nF, s.nF = nF := ⟨_, rfl⟩
  have HNL := Lib.hid hnL
  have HNF := Lib.hid hnF
  have HC0 : Hid (∀ wX, Below w1.heap.size w1 wX → wX.cell? ⟨w.heap.size, 0, none⟩ = some (.slice s.AF nF s.cF)) := fun wX h => by rw [← hnF]; exact (bx1.below h bx1.1).2 0 _ rfl
  have HC1 : Hid (∀ wX, Below w1.heap.size w1 wX → wX.cell? ⟨w.heap.size, 1, none⟩ = some (.slice s.AL nL s.cL)) := fun wX h => by rw [← hnL]; exact (bx1.below h bx1.1).2 1 _ rfl
  have fin : ∀ wX, Below w1.heap.size w1 wX → Calls Try.prog 14 #[] wX (Tells w.heap.size w (.bool true)) := fun wX hX => (wakes9_any wX).mono fun e w' hh => ⟨hh.1, hb1.trans ((hX.trans (hh.2.mono hX.size)).mono hb1.size)⟩
  have HFIN := Lib.hid fin
  clear hw1 bx1 h hnL hnF fin
  unfold scrV
  go_enter Try.func3, Try.ntmps3
  go_upto_region 1 with fail
  rw [← HW.out]
  go_wp2_with (refine wpList_load_box rfl 25 _ rfl w.heap.size rfl (scrC s) HX.out _ Try.underlying25 rfl size_scr ?_)
  refine (heavy9_any s _ HI1.out).mono ?_
  rintro e w2 ⟨b, rfl, hb2, hlight⟩
  cases b with
  | true =>
    go_wp2_with fail
    go_ret
    exact ⟨rfl, hb1.trans (hb2.mono hb1.size)⟩
  | false =>
    have HLI := Lib.hid (hlight rfl)
    clear hlight
    have hn40 : nF ≤ 40 := by rw [← HNF.out]; exact HLI.out.1
    have c0 := HC0.out _ hb2
    have hi2 := HI.out _ hb2
    have HZF : Hid (s.fl.length = nF) := hi2.zF.trans HNF.out
    obtain ⟨fs, hfs⟩ : ∃ fs, s.fl.map FL.pl = fs := ⟨_, rfl⟩
    have HFS := Lib.hid hfs
    have hcp := copyFiles_any s.AF s.cF nF s.fl w2 HZF.out hi2.rF (fun f hf => ⟨hi2.fin f hf, by have := HLI.out.2.1 f hf; omega⟩) (by omega)
    rw [hfs] at hcp
    have HCP := Lib.hid hcp
    have z2 := hb2.size
    clear hcp hi2 hfs
    go_wp2_with fail
    refine HCP.out.mono ?_
    rintro e w3 ⟨v3, l3, rfl, hm3, ho3, hb3⟩
    obtain ⟨n3, hn3⟩ : ∃ n3, l3.length = n3 := ⟨_, rfl⟩
    have h340 : n3 ≤ 40 := by
      have h1 := congrArg List.length hm3
      rw [List.length_map, hn3, ← HFS.out, List.length_map, HZF.out] at h1
      omega
    have hrow3 := ho3.row
    rw [hn3] at hrow3
    obtain ⟨A3, c3, rfl, hnc3, _, hr3, _⟩ := ownS_slice hrow3
    have hsz3 : ∀ f ∈ l3, f.nm.size ≤ maxLen ∧ f.dat.length ≤ 10000 := fun f hf => by
      have h1 : f.pl ∈ s.fl.map FL.pl := by rw [HFS.out, ← hm3]; exact List.mem_map.2 ⟨f, hf, rfl⟩
      obtain ⟨f0, hf0, e0⟩ := List.mem_map.1 h1
      have h2 := (HI1.out.fsm f0 hf0).1
      have h3 := HLI.out.2.1 f0 hf0
      have e1 : f0.nm = f.nm := congrArg Prod.fst e0
      have e2 : f0.dat = f.dat := congrArg Prod.snd e0
      rw [e1] at h2
      rw [e2] at h3
      exact ⟨name_max h2, h3⟩
    have hnw := new_is A3 n3 c3 l3 fs w3 hn3 hm3 hr3 (fun f hf => ho3.fin hf) (fun f hf => (hsz3 f hf).1) hnc3 (by omega)
    have HNW := Lib.hid hnw
    have HO3 := Lib.hid ho3
    have z3 := hb3.size
    have HB3 := Lib.hid (hb2.trans (hb3.mono z2))
    have HN3 := Lib.hid hn3
    have HSZ3 := Lib.hid hsz3
    clear hnw ho3 hrow3 hr3 hb3 hm3 hn3 hsz3 c0
    go_wp2_with fail
    refine HNW.out.mono ?_
    rintro e w4 ⟨hb4, hif⟩
    have ho4 := HO3.out.below hb4
    have z4 := hb4.size
    have hsp := spoilFiles_any w2.heap.size (.slice A3 n3 c3) l3 w4 (fun k => w2.heap.size ≤ k ∧ k < w3.heap.size) ho4 (by rw [HN3.out]; omega) (fun f hf => by have := (HSZ3.out f hf).2; omega) (fun k hk => by
      rcases hk with hk | ⟨f, hf, hk⟩
      · exact ⟨(own_lt HO3.out.row hk).2, (own_lt HO3.out.row hk).1⟩
      · exact ⟨(own_lt (HO3.out.els f hf).1 hk).2, (own_lt (HO3.out.els f hf).1 hk).1⟩)
    have HSP := Lib.hid hsp
    have HB4 := Lib.hid (HB3.out.trans (hb4.mono HB3.out.size))
    have HB34 := Lib.hid hb4
    clear hsp ho4
    have hmay : ∀ wX, Below w1.heap.size w1 wX → Calls Try.prog 12 #[.slice s.AF nF s.cF] wX fun e w' => e = .returned (.bool (mayB fs)) ∧ Below wX.heap.size wX w' := fun wX hX => by
      have hiX := HI.out _ hX
      have := rmay_is s.AF s.cF nF s.fl wX HZF.out hiX.rF hiX.fin (fun f hf => by have := HLI.out.2.1 f hf; omega) (by omega)
      rwa [HFS.out] at this
    have HMAY := Lib.hid hmay
    clear hmay
    cases hmb : mayB fs with
    | false =>
      rw [if_neg (by rw [hmb]; decide)] at hif
      subst hif
      have HMB := Lib.hid hmb
      clear hmb hb4
      go_wp2_with fail
      refine HSP.out.mono ?_
      rintro e w5 ⟨rfl, ht5⟩
      have hb5 : Below w1.heap.size w1 w5 := HB4.out.trans (ht5.below (fun k hk => by omega) HB4.out.size)
      have c0 := HC0.out _ hb5
      have hm5 := HMAY.out _ hb5
      rw [HMB.out] at hm5
      have HM5 := Lib.hid hm5
      clear hm5 ht5
      go_wp2_with fail
      refine HM5.out.mono ?_
      rintro e w6 ⟨rfl, hb6⟩
      have hb16 := hb5.trans (hb6.mono hb5.size)
      clear c0
      go_wp2_with fail
      refine (num9_any _ _).mono ?_
      rintro e w' ⟨rfl, rfl⟩
      go_wp2_with fail
      refine (HFIN.out _ hb16).mono ?_
      rintro e w7 ⟨rfl, hb7⟩
      go_wp2_with fail
      go_ret
      exact ⟨rfl, hb7⟩
    | true =>
      rw [if_pos hmb] at hif
      obtain ⟨g, F4, rfl, hd4, hF4⟩ := hif
      have hg4 := newTo_hd hd4 hF4 hb4
      have HMB := Lib.hid hmb
      have HG4 := Lib.hid hg4
      clear hmb hb4 hg4 hd4 hF4
      go_wp2_with fail
      refine HSP.out.mono ?_
      rintro e w5 ⟨rfl, ht5⟩
      have hb5 : Below w1.heap.size w1 w5 := HB4.out.trans (ht5.below (fun k hk => by omega) HB4.out.size)
      have HG5 := Lib.hid (HG4.out.keptT ht5 fun k hk => hk.2)
      have c0 := HC0.out _ hb5
      have hm5 := HMAY.out _ hb5
      rw [HMB.out] at hm5
      have HM5 := Lib.hid hm5
      clear hm5 ht5
      go_wp2_with fail
      refine HM5.out.mono ?_
      rintro e w6 ⟨rfl, hb6⟩
      have hb16 := hb5.trans (hb6.mono hb5.size)
      have HG6 := Lib.hid (HG5.out.kept hb6)
      have hi6 := HI.out _ hb16
      have hnr := rnew_is s.AF s.cF nF s.fl w6 HZF.out hi6.rF hi6.fin (by rw [HFS.out]; exact HMB.out)
      rw [HFS.out] at hnr
      have HNR := Lib.hid hnr
      clear hnr hi6 c0
      have c0 := HC0.out _ hb16
      go_wp2_with fail
      refine (num9_any _ _).mono ?_
      rintro e w' ⟨rfl, rfl⟩
      go_wp2_with fail
      refine HNR.out.mono ?_
      rintro e w7 ⟨gr, F7, rfl, hr7, hF7, hb7⟩
      have hb17 := hb16.trans (hb7.mono hb16.size)
      have hpair : Both w1.heap.size g gr (dNew fs) w7 := by
        have z6 := hb16.size
        refine ⟨fun k => k < w3.heap.size ∨ (w6.heap.size ≤ k ∧ k < w7.heap.size), F7, HG6.out.wide hb7, hr7, fun k hk => ?_, fun k hk => ?_⟩
        · have := hF7 k hk
          exact ⟨.inr ⟨this, hr7.lt k hk⟩, by omega⟩
        · left
          have := HB3.out.size
          show k < w3.heap.size
          omega
      have HPAIR := Lib.hid hpair
      clear hpair hr7 hF7 hb7 c0 hb5 hb6
      go_wp2_with fail
      go_loopw [7] (fun i wr => ∃ (k : Nat) (D : PD), i = .int .i64 k ∧ k ≤ 40 ∧ D.calls ≤ k ∧ Hid (Both w1.heap.size g gr D wr) ∧ Below w1.heap.size w1 wr) (fun i _ => 40 - (intOf i).toNat)
      case atStart => exact ⟨0, dNew fs, rfl, by omega, Nat.le_refl _, HPAIR.out, hb17⟩
      case round =>
        obtain ⟨k, D, rfl, hk40, hcl, HBO, hb⟩ := hrel
        have c1 := HC1.out _ hb
        have i0 : (0 : Int) ≤ (k : Int) := by omega
        by_cases hlt : k < nL
        · have i1 : (k : Int) < (nL : Int) := by omega
          by_cases h40 : k < 40
          · have i2 : (k : Int) < 40 := by omega
            obtain ⟨bl, off, a, hAL, hbl, hx, hmem, hrg⟩ := (HI.out _ hb).at_ (k := k) (by rw [HNL.out]; exact hlt)
            rw [hAL] at c1
            have hfB := (HLI.out.2.2 k a (by omega) hx).1
            obtain ⟨nB, hnB⟩ : ∃ nB, a.nB = nB := ⟨_, rfl⟩
            obtain ⟨nK, hnK⟩ : ∃ nK, a.nK = nK := ⟨_, rfl⟩
            have hrg2 : wr.rangeAt bl (off + k * 6) [.int .i64 a.Do, .string a.A, .string a.B, .int .i64 a.N, .slice a.AB nB a.cB, .slice a.AK nK a.cK] := by rw [← hnB, ← hnK]; exact hrg
            rw [hnB] at hfB
            have HDO := Lib.hid (does_is w1.heap.size g gr D a nB nK w1 wr (HI1.out.act a hmem) hnB hnK rfl hb HBO.out (by omega) hfB)
            have HRG := Lib.hid hrg2
            clear hAL hmem hrg hrg2 hx hnB hnK
            go_wp2_with (refine wpList_load_mid rfl 42 _ rfl bl (off + k * 6) rfl [.int .i64 a.Do, .string a.A, .string a.B, .int .i64 a.N, .slice a.AB nB a.cB, .slice a.AK nK a.cK] _ HRG.out Try.underlying42 rfl size_act ?_)
            refine HDO.out.mono ?_
            rintro e w8 ⟨rfl, D', hbo, hb8, hcl'⟩
            have HBO8 := Lib.hid hbo
            obtain ⟨G8, F8, hp8⟩ := hbo
            have HP8 := Lib.hid hp8
            have hb18 : Below w1.heap.size w1 w8 := hb.trans hb8
            clear hp8 hb8 c1
            go_wp2_with fail
            refine (hd_calls HP8.out.hd).mono ?_
            rintro e w' ⟨rfl, rfl⟩
            go_wp2_with fail
            refine (rcalls_any gr _ HP8.out.rf).mono ?_
            rintro e w' ⟨rfl, rfl⟩
            go_wp2_with fail
            go_roundw
            case rel => exact ⟨k + 1, D', by go_num, by omega, by omega, HBO8, hb18⟩
            case measure => simp [intOf]; omega
          · have i2 : ¬ ((k : Int) < 40) := by omega
            go_wp2_with fail
            refine (HFIN.out _ hb).mono ?_
            rintro e w9 ⟨rfl, hb9⟩
            go_wp2_with fail
            go_ret
            exact ⟨rfl, hb9⟩
        · have i1 : ¬ ((k : Int) < (nL : Int)) := by omega
          go_wp2_with fail
          refine (HFIN.out _ hb).mono ?_
          rintro e w9 ⟨rfl, hb9⟩
          go_wp2_with fail
          go_ret
          exact ⟨rfl, hb9⟩

end Go.Proofs.Ytejfilphnebckaa
