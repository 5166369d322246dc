/-
  Package disk: what a crash leaves of a file.
-/
import Derived.Test.YtecgagfpckaieaaDRename2
import Derived.Laws.CopyOwn
namespace Go.Proofs.Ytecgagfpckaieaa
open Go.RowKit

/-- a file of which the first sectors were written -/
def tornB (vis dur : List Int) (q : Int) : List Int :=
  (List.range vis.length).map fun i => if i < (q % (((max vis.length dur.length + 31) / 32 + 1 : Nat) : Int)).toNat * 32 then vis.getD i 0 else dur.getD i 0
def outl (vis dur : List Int) (p : Int) : List Int := if p % 3 = 0 then dur else if p % 3 = 1 then vis else tornB vis dur (p / 3)

theorem tdiv_floor (a b : Int) (hb : 0 < b) : (a.tmod b < 0 → a.tdiv b - 1 = a / b ∧ a.tmod b + b = a % b) ∧ (0 ≤ a.tmod b → a.tdiv b = a / b ∧ a.tmod b = a % b) := by
  have h0 := Int.mul_tdiv_add_tmod a b
  have h1 := Int.tmod_lt_of_pos a hb
  have h2 := Int.lt_tmod_of_pos a hb
  constructor
  · intro h
    have := (Int.ediv_emod_unique (a := a) (b := b) (q := a.tdiv b - 1) (r := a.tmod b + b) hb).2 ⟨by rw [Int.mul_sub]; omega, by omega, by omega⟩
    exact ⟨this.1.symm, this.2.symm⟩
  · intro h
    have := (Int.ediv_emod_unique (a := a) (b := b) (q := a.tdiv b) (r := a.tmod b) hb).2 ⟨by omega, by omega, by omega⟩
    exact ⟨this.1.symm, this.2.symm⟩

set_option maxHeartbeats 1000000 in
theorem divide_is (a b : Int) (w : World) (ha : -9223372036854775808 ≤ a ∧ a ≤ 9223372036854775807) (hb : 1 < b) (hb2 : b ≤ 1000000) :
    Calls Try.prog 55 #[.int .i64 a, .int .i64 b] w fun e w' => e = .returned (.tuple #[.int .i64 (a / b), .int .i64 (a % b)]) ∧ ∃ d, w' = w.drewN d := by
  have hf := tdiv_floor a b (by omega)
  have hq : -9223372036854775808 < a.tdiv b ∧ a.tdiv b ≤ 9223372036854775807 := by
    have h0 := Int.mul_tdiv_add_tmod a b
    have h1 := Int.tmod_lt_of_pos a (show 0 < b by omega)
    have h2 := Int.lt_tmod_of_pos a (show 0 < b by omega)
    have h3 : (a.tdiv b).natAbs = a.natAbs / b.natAbs := Int.natAbs_tdiv a b
    have h4 : a.natAbs / b.natAbs ≤ a.natAbs / 2 := Nat.div_le_div_left (by omega) (by omega)
    omega
  have hm1 := Int.tmod_lt_of_pos a (show 0 < b by omega)
  have hm2 := Int.lt_tmod_of_pos a (show 0 < b by omega)
  obtain ⟨q, hqq⟩ : ∃ q, a.tdiv b = q := ⟨_, rfl⟩
  obtain ⟨r, hrr⟩ : ∃ r, a.tmod b = r := ⟨_, rfl⟩
  rw [hqq, hrr] at hf
  rw [hqq] at hq
  rw [hrr] at hm1 hm2
  have hb0 : ¬ (b = 0) := by omega
  have HF := Lib.hid hf
  clear hf
  by_cases hr : r < 0
  · go_enter Try.func55, Try.ntmps55
    go_wp2
    go_quiet (fail)
    go_wp2
    go_ret2
    exact ⟨by rw [← (HF.out.1 hr).1, ← (HF.out.1 hr).2]; rfl, _, rfl⟩
  · go_enter Try.func55, Try.ntmps55
    go_wp2
    go_quiet (fail)
    go_wp2
    go_ret2
    have hr' : 0 ≤ r := by omega
    exact ⟨by rw [← (HF.out.2 hr').1, ← (HF.out.2 hr').2]; rfl, _, rfl⟩

theorem rd_list {w : World} {A : Option Addr} {xs : List Int} (h : Rd w A (u8s xs)) {n : Nat} (hn : xs.length = n) : Lib.BytesIn w A n xs := fun h0 => by
  obtain ⟨b, off, e, _, hc⟩ := h.open_ (by rw [u8s_length]; omega)
  exact ⟨b, off, e, fun i hi => by rw [hc i _ (u8s_at (by omega)), List.getD_eq_getElem?_getD]⟩
theorem bytes_inj {x y : List Int} (hx : Byts x) (hy : Byts y) (h : Lib.bytesOf x = Lib.bytesOf y) : x = y := by
  induction x generalizing y with
  | nil => cases y with
    | nil => rfl
    | cons _ _ => simp [Lib.bytesOf] at h
  | cons a x ih => cases y with
    | nil => simp [Lib.bytesOf] at h
    | cons b y =>
      simp only [Lib.bytesOf, List.map_cons, List.cons.injEq] at h
      have ha := hx.head
      have hb := hy.head
      unfold Byt at ha hb
      have h1 : a = b := by
        have h0 := congrArg UInt8.toNat h.1
        rw [UInt8.toNat_ofNat', UInt8.toNat_ofNat'] at h0
        omega
      rw [h1, ih hx.tail hy.tail h.2]
/-- bytes.Equal -/
theorem bequal_is (b : Bool) (A A' : Option Addr) (n c n' c' : Nat) (xs ys : List Int) (w : World) (hn : xs.length = n) (hn' : ys.length = n') (hr : Rd w A (u8s xs)) (hr' : Rd w A' (u8s ys)) (hx : Byts xs) (hy : Byts ys) (hb : decide (xs = ys) = b) :
    Calls Try.prog 45 #[.slice A n c, .slice A' n' c'] w fun e w' => e = .returned (.bool b) ∧ w = w' := by
  refine (Try.bytes_Equal_all A A' n c n' c' xs ys w hn hn' (rd_list hr hn) (rd_list hr' hn')).mono ?_
  rintro e w' ⟨rfl, rfl⟩
  refine ⟨?_, rfl⟩
  congr 2
  rw [← hb, Bool.eq_iff_iff]
  simp only [beq_iff_eq, decide_eq_true_eq]
  exact ⟨fun h => bytes_inj hx hy h, fun h => by rw [h]⟩

theorem torn_list (vis dur : List Int) (nV k : Nat) (hV : vis.length = nV) (hk : k ≤ nV) (M : Array Value) (hM : M.toList = List.replicate nV (.int .u8 0)) :
    (over (over M 0 (u8s (dur.take nV))) 0 (u8s (vis.take k))).toList = u8s ((List.range nV).map fun i => if i < k then vis.getD i 0 else dur.getD i 0) := by
  have hMl : M.size = nV := by have := congrArg List.length hM; simpa using this
  rw [over_list, over_list, hM]
  apply List.ext_getElem?
  intro i
  simp only [u8s, List.take_zero, List.nil_append, Nat.zero_add, List.getElem?_append, List.getElem?_drop, List.getElem?_map, List.length_map, List.length_take, List.getElem?_take, List.getElem?_replicate]
  rcases Nat.lt_or_ge i nV with hi | hi
  · have hiv : i < vis.length := by omega
    rcases Nat.lt_or_ge i k with h1 | h1
    · rw [if_pos (by omega), if_pos h1, List.getElem?_range hi]
      simp only [Option.map_some, List.getD_eq_getElem?_getD, List.getElem?_eq_getElem hiv, Option.getD_some, h1, if_true]
    · rw [if_neg (by omega), Nat.min_eq_left (by omega : k ≤ vis.length), show k + (i - k) = i by omega, List.getElem?_range hi]
      simp only [Option.map_some, Nat.not_lt.2 h1, if_false]
      rcases Nat.lt_or_ge i dur.length with h2 | h2
      · rw [if_pos (by omega), if_pos hi, List.getD_eq_getElem?_getD, List.getElem?_eq_getElem h2]
        rfl
      · rw [if_neg (by omega), Nat.min_eq_right (by omega : dur.length ≤ nV), show dur.length + (i - dur.length) = i by omega, if_pos hi, List.getD_eq_getElem?_getD, List.getElem?_eq_none h2]
        rfl
  · rw [List.getElem?_eq_none (l := List.range nV) (by simpa using hi)]
    simp only [Option.map_none]
    repeat' split
    all_goals first | rfl | (exfalso; omega)

set_option maxHeartbeats 2000000 in
theorem torn_facts (AV AD : Option Addr) (cD nV nD k : Nat) (vis dur : List Int) (w : World) (hV : vis.length = nV) (hD : dur.length = nD) (hrV : Rd w AV (u8s vis)) (hrD : Rd w AD (u8s dur)) (hnV : nV ≤ 1048576) (hk : k ≤ nV) :
    ∃ w3 w4 w5, (Instr.makeSlice 50 (.int .i64 nV) (.int .i64 nV)).run Try.prog w = .ok (.slice (some ⟨w.heap.size, 0, none⟩) nV nV) w3 ∧
      (∀ ty, (Builtin.copy_ #[50, 50] ty #[.slice (some ⟨w.heap.size, 0, none⟩) nV nV, .slice AD nD cD]).run Try.prog w3 = .ok (goInt ((min nD nV : Nat) : Int)) w4) ∧
      (∀ ty cc, (Builtin.copy_ #[50, 50] ty #[.slice (some ⟨w.heap.size, 0, none⟩) nV nV, .slice AV k cc]).run Try.prog w4 = .ok (goInt (k : Int)) w5) ∧
      w5.ownsRow w.heap.size 5 1 (.slice (some ⟨w.heap.size, 0, none⟩) nV nV) nV (u8s ((List.range nV).map fun i => if i < k then vis.getD i 0 else dur.getD i 0)) ∧ Below w.heap.size w w3 ∧ Below w.heap.size w w4 ∧ Below w.heap.size w w5 := by
  obtain ⟨i0, hi0, hz0, hz1, hz2⟩ := info_parts info_u8
  obtain ⟨M, hM⟩ : ∃ M, M = madeCells (Value.int .u8 0).cells (((nV : Nat) : Int).toNat * i0.size) := ⟨_, rfl⟩
  have hMl : M.toList = List.replicate nV (.int .u8 0) := by
    rw [hM, hz1, Int.toNat_natCast, Nat.mul_one]
    exact toList_madeCells_one _ _
  have hMs : M.size = nV := by have := congrArg List.length hMl; simpa using this
  have hmk := run_make (P := Try.prog) w 50 5 i0 (.int .u8 0) Try.underlying50 hi0 hz0 .i64 .i64 (nV : Int) (nV : Int) (by omega) (by omega) (by rw [hz2]; omega) (by omega)
  rw [← hM] at hmk
  obtain ⟨w3, hw3⟩ : ∃ w3, w3 = w.alloc (.cells M 5) := ⟨_, rfl⟩
  have hg3 : w3.heap[w.heap.size]? = some (.cells M 5 (0, 0)) := by rw [hw3]; exact heap_alloc_new w _
  have hb3 : Below w.heap.size w w3 := by rw [hw3]; exact (Below.refl _ _).alloc (Nat.le_refl _) _
  obtain ⟨M1, hM1⟩ : ∃ M1, M1 = over M 0 (u8s (dur.take nV)) := ⟨_, rfl⟩
  obtain ⟨w4, hw4⟩ : ∃ w4, w4 = w3.setRow w.heap.size M1 := ⟨_, rfl⟩
  have hl1 : (u8s (dur.take nV)).length = min nD nV := by rw [u8s_length, List.length_take, hD, Nat.min_comm]
  have hM1s : M1.size = M.size := by rw [hM1]; exact over_size (by rw [hl1, hMs]; omega)
  have hg4 : w4.heap[w.heap.size]? = some (.cells M1 5 (0, 0)) := by rw [hw4, hM1]; exact row_over _ hg3 _ _
  have hb4 : Below w.heap.size w w4 := by rw [hw4]; exact below_setRow hb3 (Nat.le_refl _) _
  obtain ⟨M2, hM2⟩ : ∃ M2, M2 = over M1 0 (u8s (vis.take k)) := ⟨_, rfl⟩
  obtain ⟨w5, hw5⟩ : ∃ w5, w5 = w4.setRow w.heap.size M2 := ⟨_, rfl⟩
  have hl2 : (u8s (vis.take k)).length = k := by rw [u8s_length, List.length_take, hV]; omega
  have hM2s : M2.size = M1.size := by rw [hM2]; exact over_size (by rw [hl2, hM1s, hMs]; omega)
  have hg5 : w5.heap[w.heap.size]? = some (.cells M2 5 (0, 0)) := by rw [hw5, hM2]; exact row_over _ hg4 _ _
  have hb5 : Below w.heap.size w w5 := by rw [hw5]; exact below_setRow hb4 (Nat.le_refl _) _
  refine ⟨w3, w4, w5, by rw [hw3]; simpa using hmk, fun ty => ?_, fun ty cc => ?_, ?_, hb3, hb4, hb5⟩
  · have := run_copy_in (P := Try.prog) w3 (t := 50) (ty := ty) Try.underlying50 hi0 hg3 (o := 0) (D := some ⟨w.heap.size, 0, none⟩) (A := AD) (dn := nV) (dc := nV) (k := nD) (kc := cD) (m := min nD nV) (cs := u8s (dur.take nV)) rfl (by rw [hz1, hl1, Nat.mul_one]) (fun h0 => by
      obtain ⟨b, off, e, hbl, hc⟩ := (hrD.below hb3).open_ (by rw [u8s_length, hD]; omega)
      refine ⟨rfl, _, e, fun j v hj => ?_⟩
      rw [Addr.add_lit]
      refine hc j v ?_
      rw [show u8s (dur.take nV) = (u8s dur).take nV by simp [u8s, List.map_take]] at hj
      rw [List.getElem?_take] at hj
      split at hj
      · exact hj
      · cases hj) (by rw [hz1, hMs]; omega) (u8s_one _)
    rw [← hM1, ← hw4] at this
    exact this
  · have := run_copy_in (P := Try.prog) w4 (t := 50) (ty := ty) Try.underlying50 hi0 hg4 (o := 0) (D := some ⟨w.heap.size, 0, none⟩) (A := AV) (dn := nV) (dc := nV) (k := k) (kc := cc) (m := k) (cs := u8s (vis.take k)) (Nat.min_eq_left hk) (by rw [hz1, hl2, Nat.mul_one]) (fun h0 => by
      obtain ⟨b, off, e, hbl, hc⟩ := (hrV.below hb4).open_ (by rw [u8s_length, hV]; omega)
      refine ⟨rfl, _, e, fun j v hj => ?_⟩
      rw [Addr.add_lit]
      refine hc j v ?_
      rw [show u8s (vis.take k) = (u8s vis).take k by simp [u8s, List.map_take]] at hj
      rw [List.getElem?_take] at hj
      split at hj
      · exact hj
      · cases hj) (by rw [hz1, hM1s, hMs]; omega) (u8s_one _)
    rw [← hM2, ← hw5] at this
    exact this
  · refine row_shut (cur := M2) hg5 (Nat.le_refl _) (Nat.le_refl _) (by unfold maxLen; omega) (by rw [hM2s, hM1s, hMs, Nat.mul_one]) ?_
    rw [hM2, hM1, torn_list vis dur nV k hV hk M hMl]
    exact List.take_of_length_le (by simp [u8s])

set_option maxRecDepth 100000 in
set_option maxHeartbeats 4000000 in
theorem torn_is (nm : ByteArray) (AV AD : Option Addr) (cV cD nV nD : Nat) (vis dur : List Int) (sm q : Int) (w : World) (hV : vis.length = nV) (hD : dur.length = nD) (hrV : Rd w AV (u8s vis)) (hrD : Rd w AD (u8s dur)) (hnV : nV ≤ 1048576) (hnD : nD ≤ 1048576) (hcV : nV ≤ cV) (h0 : 0 < max nV nD)
    (hq : -9223372036854775808 ≤ q ∧ q ≤ 9223372036854775807) :
    Calls Try.prog 56 #[.agg #[.string nm, .slice AV nV cV, .slice AD nD cD, .int .i64 sm], .int .i64 q] w (Made w.heap.size 5 w (u8s (tornB vis dur q))) := by
  have HV := Lib.hid hV
  have HDU := Lib.hid hD
  clear hV hD
  obtain ⟨S, hS⟩ : ∃ S : Nat, S = (max nV nD + 31) / 32 + 1 := ⟨_, rfl⟩
  have hS1 : ((max (nV : Int) (nD : Int) + 32 - 1) / 32 + 1) = (S : Int) := by omega
  have hS2 : 1 < S ∧ S ≤ 1000000 := by omega
  obtain ⟨mm, hmm⟩ : ∃ mm : Nat, q % (S : Int) = (mm : Int) := ⟨(q % (S : Int)).toNat, by have := Int.emod_nonneg q (show (S : Int) ≠ 0 by omega); omega⟩
  have hmS : mm < S := by have := Int.emod_lt_of_pos q (show (0 : Int) < (S : Int) by omega); omega
  have hcon : ∀ w, Calls Try.prog 55 #[.int .i64 q, .int .i64 ((max (nV : Int) (nD : Int) + 32 - 1) / 32 + 1)] w fun e w' => e = .returned (.tuple #[.int .i64 (q / (S : Int)), .int .i64 (mm : Int)]) ∧ ∃ d, w' = w.drewN d := fun w => by
    rw [hS1, ← hmm]
    exact divide_is q S w hq (by omega) (by omega)
  obtain ⟨k, hk⟩ : ∃ k, k = min (mm * 32) nV := ⟨_, rfl⟩
  have hkm : min ((mm : Int) * 32) (nV : Int) = (k : Int) := by omega
  have hkV : k ≤ nV := by omega
  have hlist : ((List.range nV).map fun i => if i < k then vis.getD i 0 else dur.getD i 0) = tornB vis dur q := by
    unfold tornB
    rw [HV.out, HDU.out, ← hS, hmm, Int.toNat_natCast]
    apply List.map_congr_left
    intro i hi
    have hi' : i < nV := by simpa using hi
    by_cases h : i < mm * 32
    · rw [if_pos (by omega), if_pos h]
    · rw [if_neg (by omega), if_neg h]
  have HC := Lib.hid hcon
  have HL := Lib.hid hlist
  have hkV2 : (k : Int) ≤ (cV : Int) := by omega
  have hmm32 : mm ≤ 1000000 := by omega
  clear hcon hlist hS hS1 hS2 hmm hmS hk h0
  go_enter Try.func56, Try.ntmps56
  go_wp2_with fail
  refine (HC.out _).mono ?_
  rintro e w2 ⟨rfl, d, hw2⟩
  have hb2 : Below w.heap.size w w2 := by rw [hw2]; exact below_n ((Below.refl _ _).alloc (Nat.le_refl _) _) d
  have hbk2 : w2.heap[w.heap.size]? = some (.cells #[.string nm, .slice AV nV cV, .slice AD nD cD, .int .i64 sm] 80 (0, 0)) := by rw [hw2]; exact heap_alloc_new w _
  obtain ⟨gb, hgb⟩ : ∃ gb, gb = w.heap.size := ⟨_, rfl⟩
  have hgb2 : gb < w2.heap.size := by rw [hgb]; exact (Array.getElem?_eq_some_iff.1 hbk2).1
  rw [← hgb] at hbk2
  obtain ⟨w3, w4, w5, hmk, hcp1, hcp2, hown, hb3, hb4, hb5⟩ := torn_facts AV AD cD nV nD k vis dur w2 HV.out HDU.out (hrV.below hb2) (hrD.below hb2) hnV hkV
  rw [HL.out] at hown
  have HW5 : Hid (Made w.heap.size 5 w (u8s (tornB vis dur q)) (.returned (.slice (some ⟨w2.heap.size, 0, none⟩) nV nV)) w5) := ⟨_, rfl, own_cast (own_more hown hb2.size) (by rw [u8s_length, tornB, List.length_map, List.length_range, HV.out]), hb2.trans (hb5.mono hb2.size)⟩
  obtain ⟨N, hN⟩ : ∃ N, N = w2.heap.size := ⟨_, rfl⟩
  rw [← hN] at hmk hcp1 hcp2 HW5
  have h1 := hcp1 3
  have h2 := hcp2 3 cV
  have q1 : w2.cell? ⟨gb, 1, none⟩ = some (.slice AV nV cV) := cell_of_row w2 gb 1 _ _ _ hbk2
  have r2 : w3.cell? ⟨gb, 2, none⟩ = some (.slice AD nD cD) := (hb3.cell (p := ⟨gb, 2, none⟩) hgb2).trans (cell_of_row w2 gb 2 _ _ _ hbk2)
  have s1 : w4.cell? ⟨gb, 1, none⟩ = some (.slice AV nV cV) := (hb4.cell (p := ⟨gb, 1, none⟩) hgb2).trans q1
  rw [← hgb]
  clear hw2 hb2 hbk2 hown hb3 hb4 hb5 hcp1 hcp2 hgb2 hN hgb
  have i0 : (0 : Int) ≤ (k : Int) := by omega
  go_wp2_with fail
  go_ret
  exact HW5.out

theorem box4 {w : World} {gb : Nat} {a b c d : Value} {t : TypeId} (h : w.heap[gb]? = some (.cells #[a, b, c, d] t (0, 0))) : w.cell? ⟨gb, 0, none⟩ = some a ∧ w.cell? ⟨gb, 1, none⟩ = some b ∧ w.cell? ⟨gb, 2, none⟩ = some c ∧ w.cell? ⟨gb, 3, none⟩ = some d :=
  ⟨cell_of_row w gb 0 _ _ _ h, cell_of_row w gb 1 _ _ _ h, cell_of_row w gb 2 _ _ _ h, cell_of_row w gb 3 _ _ _ h⟩

set_option maxHeartbeats 2000000 in
theorem outlasts_is (nm : ByteArray) (AV AD : Option Addr) (cV cD nV nD : Nat) (vis dur : List Int) (sm p : Int) (w : World) (hV : vis.length = nV) (hD : dur.length = nD) (hrV : Rd w AV (u8s vis)) (hrD : Rd w AD (u8s dur)) (hnV : nV ≤ 1048576) (hnD : nD ≤ 1048576) (hcV : nV ≤ cV) (h0 : p % 3 = 2 → 0 < max nV nD)
    (hp : -9223372036854775808 ≤ p ∧ p ≤ 9223372036854775807) :
    Calls Try.prog 46 #[.agg #[.string nm, .slice AV nV cV, .slice AD nD cD, .int .i64 sm], .int .i64 p] w (Made w.heap.size 5 w (u8s (outl vis dur p))) := by
  have HV := Lib.hid hV
  have HDU := Lib.hid hD
  clear hV hD
  have hd3 := Int.emod_nonneg p (show (3 : Int) ≠ 0 by omega)
  have hd4 := Int.emod_lt_of_pos p (show (0 : Int) < 3 by omega)
  obtain ⟨r, hr⟩ : ∃ r, p % 3 = r := ⟨_, rfl⟩
  obtain ⟨q, hq⟩ : ∃ q, p / 3 = q := ⟨_, rfl⟩
  have hqb : -9223372036854775808 ≤ q ∧ q ≤ 9223372036854775807 := by omega
  rw [hr] at h0 hd3 hd4
  have hcon : ∀ w, Calls Try.prog 55 #[.int .i64 p, .int .i64 3] w fun e w' => e = .returned (.tuple #[.int .i64 q, .int .i64 r]) ∧ ∃ d, w' = w.drewN d := fun w => by
    rw [← hq, ← hr]
    exact divide_is p 3 w hp (by omega) (by omega)
  have hout : outl vis dur p = if r = 0 then dur else if r = 1 then vis else tornB vis dur q := by rw [outl, hr, hq]
  have HC := Lib.hid hcon
  have HO := Lib.hid hout
  clear hcon hout hr hq
  have hr3 : r = 0 ∨ r = 1 ∨ r = 2 := by omega
  rcases hr3 with rfl | rfl | rfl
  all_goals
    go_enter Try.func46, Try.ntmps46
    go_wp2_with fail
    refine (HC.out _).mono ?_
    rintro e w2 ⟨rfl, d, hw2⟩
    have hb2 : Below w.heap.size w w2 := by rw [hw2]; exact below_n ((Below.refl _ _).alloc (Nat.le_refl _) _) d
    have hbk2 : w2.heap[w.heap.size]? = some (.cells #[.string nm, .slice AV nV cV, .slice AD nD cD, .int .i64 sm] 80 (0, 0)) := by rw [hw2]; exact heap_alloc_new w _
    obtain ⟨gb, hgb⟩ : ∃ gb, gb = w.heap.size := ⟨_, rfl⟩
    rw [← hgb] at hbk2 ⊢
    obtain ⟨b0, b1, b2, b3⟩ := box4 hbk2
    have hrV2 := hrV.below hb2
    have hrD2 := hrD.below hb2
    have HGB := Lib.hid hgb
    clear hw2 hbk2 hgb
    go_wp2_with fail
  · refine (bclone_any AD nD cD dur _ HDU.out hrD2 (by omega)).mono ?_
    rintro e w3 ⟨v3, rfl, ho3, hb3⟩
    go_wp2_with fail
    go_ret
    rw [show outl vis dur p = dur by simpa using HO.out, HGB.out]
    exact ⟨_, rfl, own_more ho3 hb2.size, hb2.trans (hb3.mono hb2.size)⟩
  · refine (bclone_any AV nV cV vis _ HV.out hrV2 (by omega)).mono ?_
    rintro e w3 ⟨v3, rfl, ho3, hb3⟩
    go_wp2_with fail
    go_ret
    rw [show outl vis dur p = vis by simpa using HO.out, HGB.out]
    exact ⟨_, rfl, own_more ho3 hb2.size, hb2.trans (hb3.mono hb2.size)⟩
  · refine (torn_is nm AV AD cV cD nV nD vis dur sm q _ HV.out HDU.out hrV2 hrD2 hnV hnD hcV (by simpa using h0) hqb).mono ?_
    rintro e w3 ⟨v3, rfl, ho3, hb3⟩
    go_wp2_with fail
    go_ret
    rw [show outl vis dur p = tornB vis dur q by simpa using HO.out, HGB.out]
    exact ⟨_, rfl, own_more ho3 hb2.size, hb2.trans (hb3.mono hb2.size)⟩

end Go.Proofs.Ytecgagfpckaieaa
